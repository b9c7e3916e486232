/- The document's own answer of layer 3: which sectors have pending ones. -/
import Derived.Test.YtdagdmfockibfaaDiskRef2
namespace Go.Proofs.Ytdagdmfockibfaa
open Go.RowKit Dsk

theorem intInfo : (Try.prog.info? 3).map (fun i => (i.zero, i.size, i.bytes)) = some (some (.int .i64 0), 1, 8) := by kernel_rfl

def nats (l : List Nat) : List Value := l.map fun (n : Nat) => Value.int .i64 (n : Int)

/-- The call's own slice holds these numbers. -/
def NatsAt (w : World) (out : List Nat) (v : Value) (wr : World) : Prop := wr.ownsRow w.heap.size 3 1 v out.length (nats out) ∧ Below w.heap.size w wr

theorem nats_start (w : World) : NatsAt w [] (.slice none 0 0) w := ⟨World.ownsRow_nil _ _ _ _, Below.refl _ _⟩

theorem own_from {w : World} {base t size n : Nat} {v : Value} {xs : List Value} (h : w.ownsRow base t size v n xs) : ∀ k, v.ownBlock = some k → base ≤ k := fun k hk => (h.lt k hk).1

theorem nats_more {w wr w2 : World} {out : List Nat} {v v' : Value} {o : Obj} {x : Nat} (h : NatsAt w out v wr) (hown : w2.ownsRow w.heap.size 3 1 v' (out.length + 1) (nats out ++ [.int .i64 (x : Int)])) (hg : (wr.alloc o).grownBy w2 v.ownBlock) :
    NatsAt w (out ++ [x]) v' w2 := by
  obtain ⟨h1, h2⟩ := h
  refine ⟨?_, (h2.alloc h2.size o).grown hg (by have := h2.size; simp; omega) (fun k hk => own_from h1 k hk)⟩
  rw [List.length_append]
  simpa [nats] using hown

set_option maxRecDepth 100000 in
set_option maxHeartbeats 1600000 in
theorem ref_dirty {w : World} {b : Nat} {F : Nat → Prop} {sv : Value} {d : D} (h : RefBlk w b sv d) (hS : PiecesAt w F sv d.S) (hlen : d.S.length ≤ 4096) (heach : ∀ l ∈ d.S, 1 ≤ l.length ∧ l.length ≤ 1000001) :
    Calls Try.prog 15 #[.pointer (some ⟨b, 0, none⟩)] w fun e w' => ∃ v, e = .returned v ∧ NatsAt w d.dirty v w' := by
  obtain ⟨i0, hi, hz0, hz1, hz2⟩ := info_parts intInfo
  obtain ⟨svA, svc, rfl⟩ : ∃ A c, sv = .slice A d.S.length c := by
    obtain ⟨vs, ⟨A, cap, rfl, _, _⟩, hvl, _⟩ := hS
    exact ⟨A, cap, by rw [hvl]⟩
  obtain ⟨c0, -, -, -, -, -, -, -⟩ := h.facts
  have hbw : b < w.heap.size := Row.inHeap h
  have h0 : NatsAt w (dirtyFrom 0 (d.S.take 0)) (.slice none 0 0) w := nats_start w
  have sec : Hid (∀ k, k < d.S.length → ∃ l, d.S[k]? = some l ∧ 1 ≤ l.length ∧ l.length ≤ 1000001 ∧ ∃ b1 o1 b2 o2 cap2, svA = some ⟨b1, o1, none⟩ ∧ d.S.length ≤ svc ∧ b1 < w.heap.size ∧ w.cell? ⟨b1, o1 + k, none⟩ = some (.slice (some ⟨b2, o2, none⟩) l.length cap2)) := Lib.hid (fun k hk => by
    have e := List.getElem?_eq_getElem hk
    obtain ⟨p1, p2⟩ := heach _ (List.getElem_mem hk)
    obtain ⟨b1, o1, cap, b2, o2, cap2, e1, -, e5, e2, -, -, -, e3, -⟩ := hS.sector e p1
    injection e1 with e1 e4 e6
    exact ⟨_, e, p1, p2, b1, o1, b2, o2, cap2, e1, by omega, e3, e2⟩)
  have hlen' : (d.S.length : Int) ≤ 4096 := by omega
  have hdl := fun k => dirtyFrom_len (d.S.take k) 0
  have Hdl := Lib.hid hdl
  have Hc0 := Lib.hid c0
  have htk : Hid (dirtyFrom 0 (d.S.take d.S.length) = d.dirty) := Lib.hid (by rw [List.take_length]; rfl)
  have hdt := fun k l (h : d.S[k]? = some l) => dirty_take h
  have Hdt := Lib.hid hdt
  clear hdl hS heach h c0 hdt
  go_enter Try.func15, Try.ntmps15
  go_wp2_with fail
  go_loopw [3, 4] (fun v i wr => ∃ k : Nat, k ≤ d.S.length ∧ i = .int .i64 k ∧ NatsAt w (dirtyFrom 0 (d.S.take k)) v wr) (fun _ i _ => d.S.length - (intOf i).toNat)
  case atStart => exact ⟨0, Nat.zero_le _, rfl, h0⟩
  case round =>
    obtain ⟨k, hk, rfl, hrel⟩ := hrel
    clear h0
    have hc0 : wr.cell? ⟨b, 0, none⟩ = some (.slice svA d.S.length svc) := (hrel.2.cell (p := ⟨b, 0, none⟩) hbw).trans Hc0.out
    by_cases hlt : k < d.S.length
    · obtain ⟨l, hl, p1, p2, b1, o1, b2, o2, cap2, rfl, hcap, hb1, hcs⟩ := sec.out k hlt
      have hc1 : wr.cell? ⟨b1, o1 + k, none⟩ = some (.slice (some ⟨b2, o2, none⟩) l.length cap2) := (hrel.2.cell (p := ⟨b1, o1 + k, none⟩) hb1).trans hcs
      have hk0 : (0 : Int) ≤ (k : Int) := by omega
      have hk1 : (k : Int) < (d.S.length : Int) := by omega
      have hdt := Hdt.out k l hl
      by_cases hl1 : 1 < l.length
      · rw [if_pos hl1] at hdt
        have hb : decide ((l.length : Int) > 1) = true := by simp; omega
        have Hdtk := Lib.hid hdt
        have hz := hrel.2.size
        have hown := hrel.1
        have hle : Hid ((dirtyFrom 0 (d.S.take k)).length ≤ 4096) := Lib.hid (by have := Hdl.out k; rw [List.length_take] at this; omega)
        clear hdt hl hcs hl1
        go_wp2_with (at_builtin; refine wpList_append_own _ rfl _ _ 32 rfl w.heap.size 3 i0 (.int .i64 0) 1 8 Try.underlying32 hi hz0 hz1 hz2 rfl (by decide) _ _ _ rfl (hown.alloc _) ⟨wr.heap.size, 0, none⟩ 1 1 [.int .i64 (k : Int)] rfl rfl ?c1 ?c2 ?c3 ?c4 ?c5 ?_)
        case c1 =>
          intro j u hj
          match j, hj with
          | 0, hj => simp at hj; subst hj; simp [Addr.add]
        case c2 => intro u hu; simp at hu; subst hu; rfl
        case c3 => have := hle.out; unfold maxLen; omega
        case c4 => have := hle.out; omega
        case c5 => simp; omega
        intro v' w2 hown' hgrow' _
        have hstep := nats_more hrel (x := k) (v' := v') (by simpa using hown') hgrow'
        rw [← Hdtk.out] at hstep
        clear hown' hgrow' hown hrel
        go_wp2
        go_roundw
        case rel => exact ⟨k + 1, by omega, by go_num, hstep⟩
        case measure => simp [intOf]; omega
      · rw [if_neg hl1, List.append_nil] at hdt
        have hb : decide ((l.length : Int) > 1) = false := by simp; omega
        rw [← hdt] at hrel
        clear hdt hl hcs hl1
        go_wp2_with fail
        go_roundw
        case rel => exact ⟨k + 1, by omega, by go_num, hrel⟩
        case measure => simp [intOf]; omega
    · obtain rfl : k = d.S.length := by omega
      rw [htk.out] at hrel
      have Hrel := Lib.hid hrel
      clear hrel
      go_wp2_with fail
      go_ret
      exact ⟨_, rfl, Hrel.out⟩
end Go.Proofs.Ytdagdmfockibfaa
