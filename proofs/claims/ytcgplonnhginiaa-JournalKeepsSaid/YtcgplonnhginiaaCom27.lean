/- The landed journal: the function that writes one sector behind the other. -/
import Derived.Test.YtcgplonnhginiaaCom26
import Derived.Test.YtcgplonnhginiaaCom22
import Derived.ChangeAlike
set_option linter.unusedSimpArgs false
set_option linter.unusedVariables false
namespace Go.Proofs.Ytcgplonnhginiaa
open Go.RowKit Dsk Jnl

/-- The disk's Write, bound. -/
def bound (dv : Value) : Value := .func (.func 25) #[dv] #[]

set_option maxRecDepth 100000 in
theorem in_order (dv : Value) (at' : Nat) (w : World) :
    Calls Try.prog 71 #[bound dv, .int .i64 (at' : Int)] w fun e w' => e = .returned (.func (.func 85) #[] #[.pointer (some ⟨w.heap.size, 0, none⟩), .pointer (some ⟨w.heap.size + 1, 0, none⟩)]) ∧
      w' = (w.alloc (.cells #[bound dv] 50)).alloc (.cells #[.int .i64 (at' : Int)] 3) := by
  unfold bound
  go_enter Try.func71, Try.ntmps71
  go_wp2_with fail
  go_ret
  exact ⟨rfl, rfl⟩

set_option maxRecDepth 100000 in
set_option maxHeartbeats 1600000 in
theorem put_any {w wr : World} {F Z Fb : Nat → Prop} {dv bv : Value} {d : D} {N c1 c2 at' : Nat} {l : List UInt8} (h : Has w F Z dv d wr) (hf : d.Fine N) (hN : N + 1 ≤ 100000)
    (r1 : Row wr c1 50 #[bound dv]) (r2 : Row wr c2 3 #[.int .i64 (at' : Int)]) (z1 : Z c1) (z2 : Z c2) (hc : w.heap.size ≤ c2) (hb : BytesAt wr Fb bv l) (hl : l.length ≤ 64) (hat : at' ≤ 1000000) :
    Calls Try.prog 85 #[bv, .pointer (some ⟨c1, 0, none⟩), .pointer (some ⟨c2, 0, none⟩)] wr fun e w' =>
      e = .returned (.int .i64 (d.write (at' : Int) (text l)).1) ∧ Has w F Z dv (d.write (at' : Int) (text l)).2 w' ∧ Row w' c2 3 #[.int .i64 ((at' + 1 : Nat) : Int)] ∧ ∀ i, Z i → i ≠ c2 → w'.heap[i]? = wr.heap[i]? := by
  have conv := conv_bytes hb
  have HW : Hid (Calls Try.prog 25 #[dv, .int .i64 (at' : Int), .string ⟨l.toArray⟩] wr fun e w' => e = .returned (.int .i64 (d.write (at' : Int) (text l)).1) ∧ Has w F Z dv (d.write (at' : Int) (text l)).2 w' ∧ ∀ i, Z i → w'.heap[i]? = wr.heap[i]?) := Lib.hid (by
    refine h.call (Q := fun e => e = .returned (.int .i64 (d.write (at' : Int) (text l)).1)) (fun G hG => ?_)
    exact atl_write hG hf (by omega) (at' : Int) ⟨l.toArray⟩ (by omega) (by omega) (by have := text_size l; unfold text at this; rw [this]; omega))
  have q1 : wr.cell? ⟨c1, 0, none⟩ = some (bound dv) := r1.at 0
  have q2 : wr.cell? ⟨c2, 0, none⟩ = some (.int .i64 (at' : Int)) := r2.at 0
  have R2 := Lib.hid r2
  have hatI : (at' : Int) ≤ 1000000 := by omega
  have Hz2 := Lib.hid z2
  have Hcc := Lib.hid hc
  unfold bound at q1
  clear h hf r1 r2 hb hl hat z1 z2 hc
  generalize d.write (at' : Int) (text l) = D1 at *
  obtain ⟨x, d1⟩ := D1
  simp only at *
  obtain ⟨b, hbd⟩ : ∃ b, b = dv := ⟨_, rfl⟩
  go_enter Try.func85, Try.ntmps85
  go_wp2_with fail
  refine HW.out.mono ?_
  rintro e w1 ⟨rfl, h1, hz1⟩
  have r3 := row_same R2.out hz1 Hz2.out
  have q3 : w1.cell? ⟨c2, 0, none⟩ = some (.int .i64 (at' : Int)) := r3.at 0
  have f3 := r3.free 0
  have H1 := Lib.hid h1
  have Hz1 := Lib.hid hz1
  have R3 := Lib.hid r3
  clear h1 hz1 r3 conv q1 q2
  go_wp2_with fail
  go_ret
  refine ⟨rfl, H1.out.wroteIn (Y := fun i => i = c2) ((Kept.refl (fun i => i = c2) w1).stored (p := ⟨c2, 0, none⟩) (Or.inl rfl) _) (fun i hi => by subst hi; exact ⟨Hz2.out, Hcc.out⟩), by simpa using R3.out.stored 0 (.int .i64 ((at' : Int) + 1)), fun i hi hne => (Below.heap_setCell w1 ⟨c2, 0, none⟩ _ i hne).trans (Hz1.out i hi)⟩
end Go.Proofs.Ytcgplonnhginiaa
/- The landed journal: the bytes that are used of a half. -/
set_option linter.unusedSimpArgs false
set_option linter.unusedVariables false
namespace Go.Proofs.Ytcgplonnhginiaa
open Go.RowKit Dsk Jnl

def lenIn : Value → Nat | .slice _ n _ => n | _ => 0

/-- At the head of round k. -/
structure UsedAt (w : World) (F : Nat → Prop) (dv : Value) (d : D) (q half used n : Nat) (v : Value) (k : Nat) (wr : World) : Prop where
  has : Has w F (fun i => i = w.heap.size ∨ v.ownBlock = some i) dv d wr
  box : Row wr w.heap.size 61 #[.int .i64 (q : Int), .int .i64 (half : Int), .int .i64 (used : Int)]
  own : wr.ownsRow (w.heap.size + 1) 5 1 v (64 * k) (Lib.byteCells (halfB (Jnl.now d) (2 + half * hof n) k))
  le : k ≤ hof n
  lt : 64 * k < used + 64

set_option maxRecDepth 100000 in
theorem UsedAt.far {w : World} {F : Nat → Prop} {dv : Value} {d : D} {q half used n : Nat} {v : Value} {k : Nat} {wr : World} (h : UsedAt w F dv d q half used n v k wr) : ∀ i, (i = w.heap.size ∨ v.ownBlock = some i) → w.heap.size ≤ i := fun i hi => by
  rcases hi with hi | hi
  · omega
  · have := (h.own.lt i hi).1; omega

set_option maxRecDepth 100000 in
/-- A sector is read, and its bytes are appended. -/
theorem UsedAt.step {w wr w1 w2 : World} {F : Nat → Prop} {dv : Value} {d : D} {q half used n : Nat} {v v2 : Value} {k : Nat} (h : UsedAt w F dv d q half used n v k wr) (h64 : (Jnl.now d (2 + half * hof n + k)).size = 64) (hu : used ≤ 64 * hof n) (hlt : 64 * k < used)
    (h1 : Has w F (fun i => i = w.heap.size ∨ v.ownBlock = some i) dv d w1) (hz : ∀ i, (i = w.heap.size ∨ v.ownBlock = some i) → w1.heap[i]? = wr.heap[i]?)
    (h2 : w2.ownsRow (w.heap.size + 1) 5 1 v2 (64 * k + (Jnl.now d (2 + half * hof n + k)).size) (Lib.byteCells (halfB (Jnl.now d) (2 + half * hof n) k ++ (Jnl.now d (2 + half * hof n + k)).data.toList)))
    (hg : w1.grownBy w2 v.ownBlock) (hl : ∀ g, v2.ownBlock = some g → v.ownBlock = some g ∨ w1.heap.size ≤ g) : UsedAt w F dv d q half used n v2 (k + 1) w2 where
  has := h1.wroteMore (Z := fun i => i = w.heap.size ∨ v.ownBlock = some i) ((Kept.ofGrown (F := fun i => v.ownBlock = some i) hg (fun i hi => hi)).mono (fun i hi => Or.inr hi)) h.far (fun i hi => by
    rcases hi with hi | hi
    · exact Or.inl (Or.inl hi)
    · rcases hl i hi with hl | hl
      · exact Or.inl (Or.inr hl)
      · exact Or.inr ⟨hl, (h2.lt i hi).2⟩)
  box := by
    refine (row_same h.box hz (Or.inl rfl)).grown hg (fun e => ?_)
    have := (h.own.lt _ e).1
    omega
  own := by rw [h64] at h2; exact h2
  le := by omega
  lt := by omega

set_option maxRecDepth 100000 in
theorem take_half (X : Nat → ByteArray) (base : Nat) {h k u : Nat} (hf : ∀ i, i < h → (X (base + i)).data.toList.length = 64) (hk : k ≤ h) (hu : u ≤ 64 * k) : (halfB X base k).take u = (halfB X base h).take u := by
  have h1 := halfB_at X base k (fun i hi => hf i (by omega))
  have h2 := halfB_at X base h hf
  apply List.ext_getElem?
  intro j
  rw [List.getElem?_take, List.getElem?_take]
  split
  · rw [h1.2 j (by omega), h2.2 j (by omega)]
  · rfl

set_option maxRecDepth 100000 in
set_option maxHeartbeats 1600000 in
theorem used_bytes {w : World} {F : Nat → Prop} {dv : Value} {d : D} {n N : Nat} (h : AtL w F dv d) (hf : d.Fine N) (hN : N ≤ 100000) (hn : d.S.length = n) (h4 : 4 ≤ n) (hm : n ≤ 4096) (hd : d.down = false) (hfull : ∀ k, k < n → (Jnl.now d k).data.toList.length = 64) {q half used : Nat} (hh : half ≤ 1) (hu : used ≤ 64 * hof n) :
    Calls Try.prog 31 #[dv, .agg #[.int .i64 (q : Int), .int .i64 (half : Int), .int .i64 (used : Int)]] w fun e w' =>
      ∃ bv, e = .returned (.tuple #[bv, .int .i64 0]) ∧ Has w F (fun i => bv.ownBlock = some i) dv d w' ∧ BytesAt w' (fun i => bv.ownBlock = some i) bv ((halfB (Jnl.now d) (2 + half * hof n) (hof n)).take used) ∧ ∀ i, bv.ownBlock = some i → w.heap.size ≤ i := by
  have hhb := half_base (h := hof n) hh
  have hfit := hof_fits h4
  have hho : hof n ≤ 4096 := by unfold hof; omega
  have hstart : Hid (UsedAt w F dv d q half used n (.slice none 0 0) 0 (w.alloc (.cells #[.int .i64 (q : Int), .int .i64 (half : Int), .int .i64 (used : Int)] 61))) := Lib.hid {
    has := (Has.start (Z := fun _ => False) h (fun _ _ h => h) (fun _ h => h.elim)).more ((Below.refl _ _).alloc (Nat.le_refl _) _) (fun i hi => Or.inr (by
      rcases hi with hi | hi
      · simp; omega
      · cases hi))
    box := Row.made _ _ _
    own := World.ownsRow_nil _ _ _ _
    le := Nat.zero_le _
    lt := by omega }
  have HS := Lib.hid (fun (Z : Nat → Prop) (wr : World) (m : Nat) (hm2 : m ≤ 64 * hof n) (H : Has w F Z dv d wr) => H.look (fun G hG => sector_of hG hn h4 hm hh hm2))
  have HR := Lib.hid (fun (Z : Nat → Prop) (wr : World) (k : Nat) (hk : k < n) (H : Has w F Z dv d wr) => H.read hf hN hn hk hd)
  have H64 : Hid (∀ k, k < n → (Jnl.now d k).size = 64) := Lib.hid (fun k hk => by rw [Lib.size_eq]; exact hfull k hk)
  have HHB := Lib.hid (halfB_at (Jnl.now d) (2 + half * hof n))
  obtain ⟨b, rfl⟩ := atl_addr h
  have Hu := Lib.hid hu
  have Hfit := Lib.hid hfit
  have Hhb := Lib.hid hhb
  have Hho := Lib.hid hho
  have huI : (used : Int) ≤ 262144 := by omega
  clear h hf hd hfull hh hn h4 hm hu hfit hhb hho
  go_enter Try.func31, Try.ntmps31
  go_wp2_with fail
  go_loopw [6] (fun v wr => ∃ k : Nat, UsedAt w F (.pointer (some ⟨b, 0, none⟩)) d q half used n v k wr) (fun v _ => (used + 64) - lenIn v)
  case atStart => exact ⟨0, hstart.out⟩
  case round =>
    obtain ⟨k, hat⟩ := hrel
    obtain ⟨A, cap, rfl⟩ := own_shape hat.own
    generalize hm : 64 * k = m at *
    have c0 := hat.box.at 0
    have c1 := hat.box.at 1
    have c2 := hat.box.at 2
    have Hm := Lib.hid hm
    by_cases hlt : m < used
    · have hle := hat.le
      have hu := Hu.out
      have hk1 : k + 1 ≤ hof n := by omega
      obtain ⟨t, ht⟩ : ∃ t, t = 2 + half * hof n + k := ⟨_, rfl⟩
      have htn : t < n := by have := Hfit.out; have := Hhb.out; omega
      have hsec := HS.out _ wr m (by omega) hat.has
      have e1 : 2 + half * hof n + m / 64 = t := by rw [ht, ← hm]; omega
      rw [e1] at hsec
      have hrd := HR.out _ wr t htn hat.has
      have h64 := H64.out t htn
      have hb : decide ((m : Int) < (used : Int)) = true := decide_eq_true (by omega)
      have hmI : (m : Int) ≤ 262144 := by have := Hho.out; omega
      have hown := hat.own
      have hbox := hat.box.inHeap
      rw [hm] at hown
      have Hown := Lib.hid hown
      have Hbox := Lib.hid hbox
      have Hsec := Lib.hid hsec
      have Hrd := Lib.hid hrd
      have H64t := Lib.hid h64
      have Hat := Lib.hid hat
      have Hlt := Lib.hid hlt
      have Ht := Lib.hid ht
      have hmn : m ≤ 262144 := by omega
      have Hmn := Lib.hid hmn
      clear hat hm hlt hle hu hk1 ht htn hsec hrd h64 e1 hmn hown hbox
      generalize hX : Jnl.now d t = X at *
      have HX := Lib.hid hX
      clear hX
      go_wp2_with (first
        | (go_at_call 50; with_reducible refine Hsec.out.mono ?_; rintro e w' ⟨rfl, rfl⟩)
        | (go_at_call 22; with_reducible refine Hrd.out.mono ?_; rintro e w1 ⟨rfl, h1, hz1⟩
           have own1 := own_same Hown.out (fun i hi => hz1 i (Or.inr hi))
           have hs1 : w.heap.size + 1 ≤ w1.heap.size := h1.zlt _ (Or.inl rfl)
           have h1 := Lib.hid h1
           have hz1 := Lib.hid hz1)
        | (at_builtin; refine wp_string_own (base := w.heap.size + 1) (n := m) (l := halfB (Jnl.now d) (2 + half * hof n) k) (s := X) rfl _ _ rfl (by rfl) (by rfl) own1 (by have := Hmn.out; have := H64t.out; omega) hs1 ?_
           intro v2 w2 h2 hg2 hl2))
      go_roundw
      case rel =>
        refine ⟨k + 1, UsedAt.step (v := .slice A m cap) (w1 := w1) Hat.out (by rw [← Ht.out, HX.out]; exact H64t.out) Hu.out (by rw [Hm.out]; exact Hlt.out) h1.out hz1.out (by rw [← Ht.out, HX.out, Hm.out]; exact h2) hg2 hl2⟩
      case measure => obtain ⟨A2, cap2, rfl⟩ := own_shape h2; show used + 64 - (m + X.size) < used + 64 - m; have := H64t.out; have := Hlt.out; omega
    · have hb : decide ((m : Int) < (used : Int)) = false := decide_eq_false (by omega)
      have hown := hat.own
      rw [hm] at hown
      have hle := hat.le
      have hhl := HHB.out k (fun i hi => by rw [← Lib.size_eq]; exact H64.out _ (by have := Hfit.out; have := Hhb.out; omega))
      have hlk : m < used + 64 := by rw [← hm]; exact hat.lt
      have htk : (halfB (Jnl.now d) (2 + half * hof n) k).take used = (halfB (Jnl.now d) (2 + half * hof n) (hof n)).take used := take_half _ _ (fun i hi => by rw [← Lib.size_eq]; exact H64.out _ (by have := Hfit.out; have := Hhb.out; omega)) hle (by omega)
      have hus : used ≤ m := by omega
      have Hat := Lib.hid hat
      rcases hown.2 with ⟨hv, h0⟩ | ⟨g, cap', cur, hv, hbg, hg, hnc, hcm, hcs, hct⟩
      · injection hv with e1 e2 e3
        subst e1 e2 e3
        have hu0 : used = 0 := by omega
        have fin : Hid (Has w F (fun i => (Value.slice none 0 0).ownBlock = some i) (.pointer (some ⟨b, 0, none⟩)) d wr ∧ BytesAt wr (fun i => (Value.slice none 0 0).ownBlock = some i) (.slice none 0 0) ((halfB (Jnl.now d) (2 + half * hof n) (hof n)).take used) ∧ ∀ i, (Value.slice none 0 0).ownBlock = some i → w.heap.size ≤ i) := Lib.hid
          ⟨hat.has.less (fun i hi => by cases hi), Or.inl ⟨rfl, by rw [hu0, List.take_zero]⟩, fun i hi => by cases hi⟩
        subst hu0
        clear hat hown hle hhl hlk htk hlt hus
        go_wp2_with fail
        go_ret2
        exact ⟨_, rfl, fin.out⟩
      · injection hv with e1 e2 e3
        subst e1 e3
        have hcell := (BytesAt.ofOwn hown).cells
        have fin : Hid (Has w F (fun i => (Value.slice (some ⟨g, 0, none⟩) used cap).ownBlock = some i) (.pointer (some ⟨b, 0, none⟩)) d wr ∧ BytesAt wr (fun i => (Value.slice (some ⟨g, 0, none⟩) used cap).ownBlock = some i) (.slice (some ⟨g, 0, none⟩) used cap) ((halfB (Jnl.now d) (2 + half * hof n) (hof n)).take used) ∧ ∀ i, (Value.slice (some ⟨g, 0, none⟩) used cap).ownBlock = some i → w.heap.size ≤ i) := Lib.hid (by
          have hlen : ((halfB (Jnl.now d) (2 + half * hof n) k).take used).length = used := by rw [List.length_take, hhl.1]; omega
          refine ⟨hat.has.less (fun i hi => Or.inr hi), ?_, fun i hi => by have := (hown.lt i hi).1; omega⟩
          rw [← htk]
          refine Or.inr ⟨g, 0, cap, by rw [hlen], by rw [hlen]; omega, rfl, lt_of_block hg, fun i u hu => ?_⟩
          have hu2 : (Lib.byteCells (halfB (Jnl.now d) (2 + half * hof n) k))[i]? = some u := by
            unfold Lib.byteCells at hu ⊢
            rw [List.map_take, List.getElem?_take] at hu
            split at hu
            · exact hu
            · cases hu
          have := hown.cells (g := g) rfl i u hu2
          rw [Go.WideShapes.add_plain] at this
          exact this)
        have b1 : (used : Int) ≤ (m : Int) := by omega
        have b2 : (m : Int) ≤ (cap : Int) := by omega
        have b3 : (used : Int) ≤ (cap : Int) := by omega
        clear hat hown hle hhl hlk htk hlt hus hcell hct hcs hg hbg
        go_wp2_with fail
        go_ret2
        exact ⟨_, rfl, fin.out⟩
end Go.Proofs.Ytcgplonnhginiaa
