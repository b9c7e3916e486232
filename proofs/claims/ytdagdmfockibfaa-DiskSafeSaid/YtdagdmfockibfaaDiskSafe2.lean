/- What was flushed is there: DiskSafe's walk, out of what the package is to answer (DiskOk). -/
import Derived.Test.YtdagdmfockibfaaDiskSafe
namespace Go.Proofs.Ytdagdmfockibfaa
open Go.RowKit Dsk Go.Maps

def strs (l : List ByteArray) : Array Value := (l.map Value.string).toArray
def bls (l : List Bool) : Array Value := (l.map Value.bool).toArray

theorem Row.strSet {w : World} {B : Nat} {t : TypeId} {l : List ByteArray} (h : Row w B t (strs l)) (j : Nat) (s : ByteArray) : Row (w.setCell ⟨B, j, none⟩ (.string s)) B t (strs (l.set j s)) := by
  have := h.stored j (.string s)
  have e : (strs l).setIfInBounds j (.string s) = strs (l.set j s) := by
    unfold strs
    rw [List.setIfInBounds_toArray, List.map_set]
  rw [e] at this
  exact this

theorem Row.boolSet {w : World} {B : Nat} {t : TypeId} {l : List Bool} (h : Row w B t (bls l)) (j : Nat) (s : Bool) : Row (w.setCell ⟨B, j, none⟩ (.bool s)) B t (bls (l.set j s)) := by
  have := h.stored j (.bool s)
  have e : (bls l).setIfInBounds j (.bool s) = bls (l.set j s) := by
    unfold bls
    rw [List.setIfInBounds_toArray, List.map_set]
  rw [e] at this
  exact this

theorem Row.strAt {w : World} {B : Nat} {t : TypeId} {l : List ByteArray} (h : Row w B t (strs l)) {j : Nat} {s : ByteArray} (hs : l[j]? = some s) : w.cell? ⟨B, j, none⟩ = some (.string s) := by
  rw [h.at]
  unfold strs
  rw [List.getElem?_toArray, List.getElem?_map, hs]; rfl

theorem Row.boolAt {w : World} {B : Nat} {t : TypeId} {l : List Bool} (h : Row w B t (bls l)) {j : Nat} {s : Bool} (hs : l[j]? = some s) : w.cell? ⟨B, j, none⟩ = some (.bool s) := by
  rw [h.at]
  unfold bls
  rw [List.getElem?_toArray, List.getElem?_map, hs]; rfl

def Z3 (M : Nat) (j : Nat) : Prop := j = M ∨ j = M + 1 ∨ j = M + 1 + 1

/-- The call's own memory: the map, what is safe, what is dirty. -/
structure Own (At : World → (Nat → Prop) → Value → D → Prop) (W : World) (p : Addr) (M : Nat) (d : D) (sf : List ByteArray) (ds : List Bool) (m : Nat) (Ks : List ByteArray) (wr : World) : Prop where
  solo : Solo At W (Z3 M) (.pointer (some p)) d wr
  sf : Row wr (M + 1) 47 (strs sf)
  ds : Row wr (M + 1 + 1) 48 (bls ds)
  once : OnceAt wr M m Ks
  low : W.heap.size ≤ M

section
variable {At : World → (Nat → Prop) → Value → D → Prop} {W w w' : World} {p : Addr} {M m : Nat} {d d' : D} {sf : List ByteArray} {ds : List Bool} {Ks : List ByteArray}

/-- A call of the disk's. -/
theorem Own.call {fn : Nat} {args : Array Value} {P : Ending → Prop} (h : Own At W p M d sf ds m Ks w) (hc : ∀ F, At w F (.pointer (some p)) d → (∀ i, F i → W.heap.size ≤ i) → Calls Try.prog fn args w fun e w' => P e ∧ Does At w F (.pointer (some p)) d' w') :
    Calls Try.prog fn args w fun e w' => P e ∧ Own At W p M d' sf ds m Ks w' := by
  obtain ⟨h1, h2, h3, h4, h5⟩ := h
  exact (h1.call hc).mono fun e w' ⟨k1, k2, k3⟩ => ⟨k1, k2, (k3 _ (Or.inr (Or.inl rfl))).trans h2, (k3 _ (Or.inr (Or.inr rfl))).trans h3, h4.same (k3 _ (Or.inl rfl)), h5⟩

theorem Own.below (H : DiskOk At) (h : Own At W p M d sf ds m Ks w) (k : Below w.heap.size w w') : Own At W p M d sf ds m Ks w' := by
  obtain ⟨h1, h2, h3, h4, h5⟩ := h
  obtain ⟨k2, k3⟩ := h1.below H k
  exact ⟨k2, (k3 _ (Or.inr (Or.inl rfl))).trans h2, (k3 _ (Or.inr (Or.inr rfl))).trans h3, h4.same (k3 _ (Or.inl rfl)), h5⟩

theorem Solo.turned (H : DiskOk At) {Z : Nat → Prop} {v : Value} (h : Solo At W Z v d w) {G : Nat → Prop} (k : Kept G w w') (hG : ∀ i, G i → Z i) (hW : ∀ i, G i → W.heap.size ≤ i) : Solo At W Z v d w' := by
  obtain ⟨⟨F, h1, h4⟩, h6, h7⟩ := h
  exact ⟨⟨F, H.kept h1 k (fun i hi hg => (h4 i hi).2 (hG i hg)), h4⟩, kept_lower h6 k hW, fun i hi => Nat.lt_of_lt_of_le (h7 i hi) k.size⟩

theorem Own.safeSet (H : DiskOk At) (h : Own At W p M d sf ds m Ks w) (j : Nat) (s : ByteArray) : Own At W p M d (sf.set j s) ds m Ks (w.setCell ⟨M + 1, j, none⟩ (.string s)) := by
  obtain ⟨h1, h2, h3, h4, h5⟩ := h
  have k : Kept (fun i => i = M + 1) w (w.setCell ⟨M + 1, j, none⟩ (.string s)) := (Kept.refl (fun i => i = M + 1) w).stored (p := ⟨M + 1, j, none⟩) (Or.inl rfl) _
  exact ⟨h1.turned H k (fun i hi => Or.inr (Or.inl hi)) (fun i hi => by omega), h2.strSet j s, Row.kept h3 k (by omega), h4.same (k.block M (h1.zlt M (Or.inl rfl)) (by omega)), h5⟩

theorem Own.dirtySet (H : DiskOk At) (h : Own At W p M d sf ds m Ks w) (j : Nat) (s : Bool) : Own At W p M d sf (ds.set j s) m Ks (w.setCell ⟨M + 1 + 1, j, none⟩ (.bool s)) := by
  obtain ⟨h1, h2, h3, h4, h5⟩ := h
  have k : Kept (fun i => i = M + 1 + 1) w (w.setCell ⟨M + 1 + 1, j, none⟩ (.bool s)) := (Kept.refl (fun i => i = M + 1 + 1) w).stored (p := ⟨M + 1 + 1, j, none⟩) (Or.inl rfl) _
  exact ⟨h1.turned H k (fun i hi => Or.inr (Or.inr hi)) (fun i hi => by omega), Row.kept h2 k (by omega), h3.boolSet j s, h4.same (k.block M (h1.zlt M (Or.inl rfl)) (by omega)), h5⟩

theorem Own.put (H : DiskOk At) (h : Own At W p M d sf ds m Ks w) {s : ByteArray} (hl : s.size ≤ maxLen) (hm : m < maxLen) :
    ∃ w', (Instr.mapUpdate 46 (.map (some M)) (.string s) (.bool true)).run Try.prog w = .ok () w' ∧ Own At W p M d sf ds (m + 1) (s :: Ks) w' := by
  obtain ⟨h1, h2, h3, h4, h5⟩ := h
  obtain ⟨w', hrun, k1, k2⟩ := h4.put hl hm
  have k : Kept (fun i => i = M) w w' := Kept.ofGrown k2 (fun i e => by injection e with e; exact e.symm)
  exact ⟨w', hrun, h1.turned H k (fun i hi => Or.inl hi) (fun i hi => by omega), Row.kept h2 k (by omega), Row.kept h3 k (by omega), k1, h5⟩

theorem Own.more (h : Own At W p M d sf ds m Ks w) : Own At W p M d sf ds (m + 1) Ks w := by
  obtain ⟨h1, h2, h3, ⟨D, h4, h5⟩, h6⟩ := h
  exact ⟨h1, h2, h3, ⟨D, h4.mono (Nat.le_succ m), h5⟩, h6⟩

theorem own_read (H : DiskOk At) (h : Own At W p M d sf ds m Ks w) {N : Nat} (hf : d.Fine N) (hN : N ≤ 1000) (hd : d.down = false) {k : Nat} (hk : k < d.S.length) :
    Calls Try.prog 18 #[.pointer (some p), .int .i64 (k : Int)] w fun e w' => e = .returned (.tuple #[.string (last (d.at k)), .int .i64 0]) ∧ Own At W p M d sf ds m Ks w' := by
  have hl := hf.len
  have e : d.read (k : Int) = (last (d.at k), 0) := by
    unfold D.read
    rw [if_neg (by rw [hd]; decide), if_neg (by omega)]
    rfl
  refine h.call (fun F hF _ => ?_)
  have := H.read hF hf hN (k : Int) (by omega) (by omega)
  rw [e] at this
  exact this

theorem safe_start (H : DiskOk At) {w : World} (h : Solo At W (fun _ => False) (.pointer (some p)) d w) :
    Own At W p w.heap.size d (List.replicate 16 ⟨#[]⟩) (List.replicate 16 false) 0 [] (((w.alloc (.map #[] 0)).alloc (.cells (strs (List.replicate 16 ⟨#[]⟩)) 47)).alloc (.cells (bls (List.replicate 16 false)) 48)) := by
  have h1 := ((h.box H (.map #[] 0)).box H (.cells (strs (List.replicate 16 ⟨#[]⟩)) 47)).box H (.cells (bls (List.replicate 16 false)) 48)
  have e1 : (w.alloc (.map #[] 0)).heap.size = w.heap.size + 1 := by simp
  have e2 : ((w.alloc (.map #[] 0)).alloc (.cells (strs (List.replicate 16 ⟨#[]⟩)) 47)).heap.size = w.heap.size + 2 := by simp
  rw [e1, e2] at h1
  refine ⟨h1.less (fun i hi => ?_), ?_, ?_, ?_, h.bel.size⟩
  · rcases hi with hi | hi | hi
    · exact Or.inl (Or.inl (Or.inr hi))
    · exact Or.inl (Or.inr hi)
    · exact Or.inr hi
  · have := (Row.made (w.alloc (.map #[] 0)) 47 (strs (List.replicate 16 ⟨#[]⟩))).behindNew (.cells (bls (List.replicate 16 false)) 48)
    rw [e1] at this
    exact this
  · have := Row.made ((w.alloc (.map #[] 0)).alloc (.cells (strs (List.replicate 16 ⟨#[]⟩)) 47)) 48 (bls (List.replicate 16 false))
    rw [e2] at this
    exact this
  · refine (OnceAt.start w).same ?_
    rw [Below.heap_alloc _ _ _ (by rw [e2]; omega), Below.heap_alloc _ _ _ (by rw [e1]; omega)]

set_option linter.unusedSimpArgs false in
set_option maxRecDepth 100000 in
set_option maxHeartbeats 6400000 in
theorem safe_walk (H : DiskOk At) (s : Nat) (lA kA : Option Addr) (ln lc kn kc : Nat) (l : List Ac) (ks : List Int) (w : World) (hs : s < 256) (hlc : ln ≤ 9223372036854775807) (hl : ActsIn w lA ln l)
    (hk : Cells w (fun i => i < w.heap.size) (.slice kA kn kc) (ks.map (Value.int .i64))) (hI : Ints64 ks) :
    Calls Try.prog 4 #[.int .u8 (s : Int), .slice lA ln lc, .slice kA kn kc] w fun e w' => e = .returned (.bool true) ∧ Below w.heap.size w w' := by
  obtain ⟨hll, hok, hat⟩ := hl
  obtain ⟨n, hn⟩ : ∃ n : Nat, n = s % 16 + 1 := ⟨_, rfl⟩
  have hn1 : 1 ≤ n := by omega
  have hn16 : n ≤ 16 := by omega
  have hns : (s : Int) % 16 + 1 = (n : Int) := by omega
  have hnew := Lib.hid (solo_new H n w (by omega) (by omega))
  have haw := fun W => disk_awake H W
  have Haw := Lib.hid haw
  have HH := Lib.hid H
  have Hok := Lib.hid hok
  have Hat := Lib.hid hat
  have Hll := Lib.hid hll
  have Hk := Lib.hid hk
  have HI := Lib.hid hI
  have f0 := Lib.hid (Dsk.new_fine n (by omega))
  have hlc' : (ln : Int) ≤ 9223372036854775807 := by omega
  have hn1' : (1 : Int) ≤ (n : Int) := by omega
  have hn16' : (n : Int) ≤ 16 := by omega
  have hsi : (s : Int) < 256 := by omega
  have F1 : Hid (∀ W, Calls Try.prog 20 #[.string ⟨#[]⟩] W fun e w' => e = .returned (.string (fill ⟨#[]⟩)) ∧ W = w') := Lib.hid (fun W => ref_fill ⟨#[]⟩ W (by decide))
  have hmm := @run_makeMap Try.prog
  clear haw H hok hat hll hk hI hn
  go_enter Try.func4, Try.ntmps4
  go_wp2_with fail
  refine hnew.out.mono ?_
  rintro e w1 ⟨p, rfl, hs1⟩
  have hs1 := Lib.hid hs1
  go_wp2_with fail
  refine (Haw.out w1).mono ?_
  rintro e w3 ⟨rfl, hb3⟩
  have hs3 := Lib.hid (hs1.out.below HH.out hb3).1
  have ho := safe_start HH.out hs3.out
  clear hb3
  go_wp2_with fail
  obtain ⟨M, hM⟩ : ∃ M, M = w3.heap.size := ⟨_, rfl⟩
  have h0 : Own At w p M (Dsk.new n) (List.replicate 16 ⟨#[]⟩) (List.replicate 16 false) 0 [] (((w3.alloc (.map #[] 0)).alloc (.cells (strs (List.replicate 16 ⟨#[]⟩)) 47)).alloc (.cells (bls (List.replicate 16 false)) 48)) := by rw [hM]; exact ho
  simp only [← hM]
  clear hM ho hs1 hs3 hmm
  go_loopw [13] (fun i wr => ∃ j : Nat, j ≤ n ∧ i = .int .i64 (j : Int) ∧ ∃ sf, sf.length = 16 ∧ (∀ k, k < j → sf[k]? = some (fill ⟨#[]⟩)) ∧ Own At w p M (Dsk.new n) sf (List.replicate 16 false) 0 [] wr) (fun i _ => n - (intOf i).toNat)
  case atStart => exact ⟨0, Nat.zero_le _, rfl, _, by simp, (fun k hk => by omega), h0⟩
  case round =>
    obtain ⟨j, hj, rfl, sf, hsl, hsf, how⟩ := hrel
    clear h0
    by_cases hjn : j < n
    · have hfr := how.sf.free j
      have hcl : ∃ x, sf[j]? = some x := ⟨_, List.getElem?_eq_getElem (by omega)⟩
      obtain ⟨x, hx⟩ := hcl
      have hce := how.sf.strAt hx
      have hnext := Lib.hid (how.safeSet HH.out j (fill ⟨#[]⟩))
      have hj0 : (0 : Int) ≤ (j : Int) := by omega
      have hj16 : (j : Int) < 16 := by omega
      have Q := Lib.hid (And.intro hsl hsf)
      obtain ⟨z, hz⟩ : ∃ z, z = fill ⟨#[]⟩ := ⟨_, rfl⟩
      have f1 := F1.out wr
      rw [← hz] at f1 hnext Q
      have F2 := Lib.hid f1
      have HZ := Lib.hid hz
      clear hx how hsl hsf f1 hz
      go_wp2_with (go_at_call 20; with_reducible refine F2.out.mono ?_; rintro e w' ⟨rfl, rfl⟩)
      obtain ⟨hsl, hsf⟩ := Q.out
      refine ⟨⟨j + 1, by omega, rfl, sf.set j z, by rw [List.length_set]; exact hsl, fun k hk => ?_, hnext.out⟩, ?_⟩
      · by_cases e : j = k
        · subst e
          rw [List.getElem?_set_self (by omega), HZ.out]
        · rw [List.getElem?_set_ne e, ← HZ.out]
          exact hsf k (by omega)
      · show n - ((j : Int) + 1).toNat < n - (j : Int).toNat
        omega
    · obtain rfl : n = j := by omega
      have h0 : ∃ d sf ds Ks, d.Fine 0 ∧ Own At w p M d sf ds 0 Ks wr ∧ Dsk.Safe n d sf ds Ks := ⟨_, sf, _, _, f0.out, how, safe_new hsl hsf⟩
      clear how hsl hsf hnew F1
      go_wp2_with fail
      obtain ⟨wo, rfl⟩ : ∃ wo : World, wo = wr := ⟨_, rfl⟩
      go_loopw [14] (fun i wr => ∃ k : Nat, k ≤ ln ∧ k ≤ 60 ∧ i = .int .i64 (k : Int) ∧ ∃ d sf ds Ks, d.Fine k ∧ Own At w p M d sf ds k Ks wr ∧ Dsk.Safe n d sf ds Ks) (fun i _ => 60 - (intOf i).toNat)
      case atStart => exact ⟨0, Nat.zero_le _, Nat.zero_le _, rfl, h0⟩
      case round =>
        obtain ⟨k, hk1, hk2, rfl, d, sf, ds, Ks, hf, how, hsafe⟩ := hrel
        clear h0
        by_cases hlt : k < ln ∧ k < 60
        · obtain ⟨q1, q2⟩ := hlt
          obtain ⟨lb, lo, rfl, hlb, hcells⟩ := Hat.out (by omega)
          have hkl : k < l.length := by rw [Hll.out]; exact q1
          obtain ⟨a, ha⟩ : ∃ a, l[k]? = some a := ⟨_, List.getElem?_eq_getElem hkl⟩
          have hao := Hok.out a (List.mem_of_getElem? ha)
          obtain ⟨g0, g1, g2, g3, g4⟩ := hcells k a ha
          have hbel := how.solo.bel
          have e0 : wr.cell? ⟨lb, lo + k * 5, none⟩ = some (.int .i64 a.kind) := (hbel.cell (p := ⟨lb, lo + k * 5, none⟩) hlb).trans g0
          have e1 : wr.cell? ⟨lb, lo + k * 5 + 1, none⟩ = some (.int .i64 a.i) := (hbel.cell (p := ⟨lb, lo + k * 5 + 1, none⟩) hlb).trans g1
          have e3 : wr.cell? ⟨lb, lo + k * 5 + 3, none⟩ = some (.string a.s) := (hbel.cell (p := ⟨lb, lo + k * 5 + 3, none⟩) hlb).trans g3
          have hb1 : decide (k < ln) = true := by simpa using q1
          have hb2 : decide ((k : Int) < 60) = true := by simp; omega
          have hb0 : (0 : Int) ≤ (k : Int) := by omega
          have hb4 : (k : Int) < (ln : Int) := by omega
          have Q := Lib.hid (And.intro q1 q2)
          have Hcond := Lib.hid (And.intro how hsafe)
          have Hf := Lib.hid hf
          have Hao := Lib.hid hao
          have G3 := Lib.hid g3
          clear ha hao hf how hsafe hcells q1 q2 hkl g0 g1 g2 g3 g4 hbel
          have i1 := Hao.out.i1
          have i2 := Hao.out.i2
          by_cases k4 : a.kind = 4
          · have z4 : (a.kind == 4) = true := by simpa using k4
            obtain ⟨u0, u1, u2, u3, u4⟩ := safe_flush Hcond.out.2
            have hfl := Hcond.out.1.call (fun F hF _ => HH.out.flush hF Hf.out (by omega))
            rw [u0] at hfl
            have Hfl := Lib.hid hfl
            have hfine2 : Hid (d.flush.2.Fine (k + 1)) := Lib.hid Hf.out.flush
            obtain ⟨d2, hd2⟩ : ∃ d2, d2 = d.flush.2 := ⟨_, rfl⟩
            rw [← hd2] at Hfl hfine2 u1 u2 u3 u4
            have U := Lib.hid (And.intro u1 (And.intro u2 (And.intro u3 u4)))
            have L1 := Lib.hid (And.intro Hcond.out.2.sfl (And.intro Hcond.out.2.dsl Hcond.out.2.small))
            clear k4 u0 u1 u2 u3 u4 hfl hd2 Hcond Hf e3
            go_wp2_with fail
            refine Hfl.out.mono ?_
            rintro e w4 ⟨rfl, hw4⟩
            have h0 : ∃ sf2 ds2, sf2.length = 16 ∧ ds2.length = 16 ∧ (∀ x, x < 0 → sf2[x]? = some (last (d2.at x))) ∧ Own At w p M d2 sf2 ds2 k Ks w4 := ⟨sf, ds, L1.out.1, L1.out.2.1, (fun x hx => by omega), hw4⟩
            clear hw4 Hfl e0 e1
            go_wp2_with fail
            go_loopw [16] (fun i wr => ∃ jj : Nat, jj ≤ n ∧ i = .int .i64 (jj : Int) ∧ ∃ sf2 ds2, sf2.length = 16 ∧ ds2.length = 16 ∧ (∀ x, x < jj → sf2[x]? = some (last (d2.at x))) ∧ Own At w p M d2 sf2 ds2 k Ks wr) (fun i _ => n - (intOf i).toNat)
            case atStart => exact ⟨0, Nat.zero_le _, rfl, h0⟩
            case round =>
              obtain ⟨jj, hjj, rfl, sf2, ds2, v1, v2, v3, v4⟩ := hrel
              clear h0
              by_cases hjn : jj < n
              · obtain ⟨z, hz⟩ : ∃ z, z = last (d2.at jj) := ⟨_, rfl⟩
                have crd := own_read HH.out v4 hfine2.out (by have := Q.out.2; omega) U.out.2.1 (k := jj) (by rw [U.out.1]; exact hjn)
                rw [← hz] at crd
                have Crd := Lib.hid crd
                have VV := Lib.hid (And.intro v1 (And.intro v2 (And.intro v3 hz)))
                obtain ⟨x1, hx1⟩ : ∃ x, sf2[jj]? = some x := ⟨_, List.getElem?_eq_getElem (by omega)⟩
                obtain ⟨x2, hx2⟩ : ∃ x, ds2[jj]? = some x := ⟨_, List.getElem?_eq_getElem (by omega)⟩
                have X1 := Lib.hid hx1
                have X2 := Lib.hid hx2
                have hj0 : (0 : Int) ≤ (jj : Int) := by omega
                have hj16 : (jj : Int) < 16 := by omega
                clear crd hz v1 v2 v3 v4 hx1 hx2
                go_wp2_with fail
                refine Crd.out.mono ?_
                rintro e w5 ⟨rfl, hw5⟩
                have c1 := hw5.sf.strAt X1.out
                have c2 := hw5.ds.boolAt X2.out
                have f1 := hw5.sf.free jj
                have f2 := hw5.ds.free jj
                have hnext := Lib.hid ((hw5.safeSet HH.out jj z).dirtySet HH.out jj false)
                clear hw5
                go_wp2_with fail
                obtain ⟨v1, v2, v3, hz⟩ := VV.out
                refine ⟨⟨jj + 1, by omega, rfl, sf2.set jj z, ds2.set jj false, by rw [List.length_set]; exact v1, by rw [List.length_set]; exact v2, fun x hx => ?_, hnext.out⟩, ?_⟩
                · by_cases e : jj = x
                  · subst e
                    rw [List.getElem?_set_self (by omega), hz]
                  · rw [List.getElem?_set_ne e]
                    exact v3 x (by omega)
                · show n - ((jj : Int) + 1).toNat < n - (jj : Int).toNat
                  omega
              · obtain rfl : n = jj := by omega
                have hnext := Lib.hid (And.intro v4 (safe_flushed U.out.1 U.out.2.1 U.out.2.2.1 U.out.2.2.2 v1 v2 L1.out.2.2 v3))
                clear v1 v2 v3 v4
                go_wp2_with fail
                obtain ⟨q1, q2⟩ := Q.out
                obtain ⟨how, hsafe⟩ := hnext.out
                refine ⟨⟨k + 1, by omega, by omega, rfl, d2, sf2, ds2, Ks, hfine2.out, how.more, hsafe⟩, ?_⟩
                show 60 - ((k : Int) + 1).toNat < 60 - (k : Int).toNat
                omega
          · by_cases k012 : a.kind = 0 ∨ a.kind = 1 ∨ a.kind = 2
            · have z4 : (a.kind == 4) = false := by simpa using k4
              have z0 : (a.kind == 0) = true ∨ ((a.kind == 0) = false ∧ (a.kind == 1) = true) ∨ ((a.kind == 0) = false ∧ (a.kind == 1) = false ∧ (a.kind == 2) = true) := by
                by_cases y0 : a.kind = 0
                · exact Or.inl (by simpa using y0)
                · by_cases y1 : a.kind = 1
                  · exact Or.inr (Or.inl ⟨by simpa using y0, by simpa using y1⟩)
                  · exact Or.inr (Or.inr ⟨by simpa using y0, by simpa using y1, by rw [beq_iff_eq]; omega⟩)
              clear k4 k012
              by_cases hsz : a.s.size ≤ 64
              · have hs64 : (a.s.size : Int) ≤ 64 := by omega
                obtain ⟨at0, hat0⟩ : ∃ at0 : Nat, (at0 : Int) = (IntKind.u64.wrap a.i).tmod (n : Int) := by
                  have h1 := Int.tmod_nonneg (n : Int) (show (0 : Int) ≤ IntKind.u64.wrap a.i from wrap_u64_nonneg a.i)
                  exact ⟨((IntKind.u64.wrap a.i).tmod (n : Int)).toNat, by omega⟩
                have hatn : at0 < n := by
                  have h2 := Int.tmod_lt_of_pos (IntKind.u64.wrap a.i) (b := (n : Int)) (by omega)
                  omega
                have hatr : (IntKind.u64.wrap a.i).tmod (n : Int) = (at0 : Int) := hat0.symm
                have hat16 : (at0 : Int) < 16 := by omega
                have hw8 : IntKind.u8.wrap (at0 : Int) = (at0 : Int) := by rw [IntKind.wrap_u8']; omega
                have hat00 : (0 : Int) ≤ (at0 : Int) := by omega
                obtain ⟨wr0, wr1⟩ := safe_write Hcond.out.2 hatn hn16 hsz
                have hwr := Hcond.out.1.call (fun F hF _ => HH.out.write hF Hf.out (by omega) (at0 : Int) a.s (by omega) (by omega) (by omega))
                rw [wr0] at hwr
                have Hwr := Lib.hid hwr
                have hdl : Hid (ds.length = 16) := Lib.hid Hcond.out.2.dsl
                have hfine2 : Hid ((d.write (at0 : Int) a.s).2.Fine (k + 1)) := Lib.hid (Hf.out.write _ _)
                obtain ⟨d2, hd2⟩ : ∃ d2, d2 = (d.write (at0 : Int) a.s).2 := ⟨_, rfl⟩
                rw [← hd2] at Hwr hfine2 wr1
                obtain ⟨z, hz⟩ : ∃ z, z = fill a.s := ⟨_, rfl⟩
                obtain ⟨kb, hkb⟩ : ∃ kb : ByteArray, kb = ⟨#[UInt8.ofNat at0]⟩ := ⟨_, rfl⟩
                have hzs : z.size = 64 := by rw [hz]; exact fill_size _ hsz
                have hks : kb.size = 1 := by rw [hkb]; rfl
                have hsafe2 : Hid (Dsk.Safe n d2 sf (ds.set at0 true) ((kb ++ z) :: Ks)) := Lib.hid (by rw [hkb, hz]; exact wr1)
                have FZ : Hid (∀ W, Calls Try.prog 20 #[.string a.s] W fun e w' => e = .returned (.string z) ∧ W = w') := Lib.hid (fun W => by rw [hz]; exact ref_fill a.s W hsz)
                have Hks : Hid ((kb ++ z).size ≤ maxLen) := Lib.hid (by rw [ByteArray.size_append, hzs, hks]; decide)
                have hcc : ¬ 9223372036854775807 < kb.size + z.size := by omega
                have CV : Hid (∀ w' : World, ∀ B, w'.cell? ⟨B, 0, none⟩ = some (.int .u8 (at0 : Int)) → (convert 53 9 (.slice (some ⟨B, 0, none⟩) 1 1)).run Try.prog w' = .ok (.string kb) w') := Lib.hid (fun w' B h => by
                  rw [hkb]
                  refine run_convert_bytes_back (P := Try.prog) w' 53 9 5 ⟨B, 0, none⟩ 1 [UInt8.ofNat at0] Try.underlying53 Try.underlying5 Try.underlying9 (fun j hj => ?_)
                  have : j = 0 := by simpa using hj
                  subst this
                  rw [Go.WideShapes.add_plain, h]
                  have : (UInt8.ofNat at0).toNat = at0 := by rw [UInt8.toNat_ofNat']; omega
                  simp [this])
                have CV : Hid (∀ w' : World, ∀ B, w'.cell? ⟨B, 0, none⟩ = some (.int .u8 (at0 : Int)) → (convert 53 9 (.slice (some ⟨B, 0, none⟩) 1 1)).run Try.prog w' = .ok (.string kb) w') := CV
                have BL : Hid (∀ w', Below w.heap.size w w' → w'.cell? ⟨lb, lo + k * 5 + 3, none⟩ = w.cell? ⟨lb, lo + k * 5 + 3, none⟩) := Lib.hid (fun w' h => h.cell (p := ⟨lb, lo + k * 5 + 3, none⟩) hlb)
                clear hat0 hatn wr0 wr1 hwr hd2 hz hkb hsz Hcond Hf hzs hks
                rcases z0 with z0 | ⟨z0, z1⟩ | ⟨z0, z1, z2⟩
                all_goals
                  go_wp2_with fail
                  refine Hwr.out.mono ?_
                  rintro e w4 ⟨rfl, hw4⟩
                  have hw4 := Lib.hid hw4
                  have CV := Lib.hid (fun w' => CV.out w' w4.heap.size)
                  have e3 : w4.cell? ⟨lb, lo + k * 5 + 3, none⟩ = some (.string a.s) := (BL.out w4 hw4.out.solo.bel).trans G3.out
                  go_wp2_with fail
                  refine wp_region_tail (n := 12) (S := fun w' => Below w.heap.size w w') (by kernel_rfl) (by kernel_rfl) (by rfl) (hw4.out.solo.bel.drew) (fun hHeld => ?_)
                  refine wpAnyH_take (i := 0) (v := ?_) rfl (by kernel_rfl) (by kernel_rfl) (by kernel_rfl) (fun _ _ _ h => h) (Or.inl ⟨by rfl, (by intro w hSw; go_simp; try with_reducible rfl)⟩) (by assumption) ?_
                  simp only [Act.put, List.getElem_toArray, List.getElem_cons_zero, List.getElem_cons_succ, List.setIfInBounds_toArray, List.set_cons_zero, List.set_cons_succ]
                  refine wpAnyH_take (i := 1) (v := ?_) rfl (by kernel_rfl) (by kernel_rfl) (by kernel_rfl) (fun _ _ _ h => h) (Or.inl ⟨by rfl, (by intro w hSw; go_simp; try with_reducible rfl)⟩) (by assumption) ?_
                  simp only [Act.put, List.getElem_toArray, List.getElem_cons_zero, List.getElem_cons_succ, List.setIfInBounds_toArray, List.set_cons_zero, List.set_cons_succ]
                  refine wpAnyH_take (i := 2) (v := ?_) rfl (by kernel_rfl) (by kernel_rfl) (by kernel_rfl) (fun _ _ _ h => h) (Or.inl ⟨by rfl, (by intro w hSw; go_simp; try with_reducible rfl)⟩) (by assumption) ?_
                  simp only [Act.put, List.getElem_toArray, List.getElem_cons_zero, List.getElem_cons_succ, List.setIfInBounds_toArray, List.set_cons_zero, List.set_cons_succ]
                  refine wpAnyH_take (i := 5) (v := ?_) rfl (by kernel_rfl) (by kernel_rfl) (by kernel_rfl) (fun _ _ _ h => h) (Or.inl ⟨by rfl, (by intro w hSw; go_simp; try with_reducible rfl)⟩) (by assumption) ?_
                  simp only [Act.put, List.getElem_toArray, List.getElem_cons_zero, List.getElem_cons_succ, List.setIfInBounds_toArray, List.set_cons_zero, List.set_cons_succ]
                  refine wpAnyH_take (i := 6) (v := ?_) rfl (by kernel_rfl) (by kernel_rfl) (by kernel_rfl) (fun _ _ _ h => h) (Or.inl ⟨by rfl, (by intro w hSw; go_simp; try with_reducible rfl)⟩) (by assumption) ?_
                  simp only [Act.put, List.getElem_toArray, List.getElem_cons_zero, List.getElem_cons_succ, List.setIfInBounds_toArray, List.set_cons_zero, List.set_cons_succ]
                  refine wpAnyH_take (i := 7) (v := ?_) rfl (by kernel_rfl) (by kernel_rfl) (by kernel_rfl) (fun _ _ _ h => h) (Or.inl ⟨by rfl, (by intro w hSw; go_simp; try with_reducible rfl)⟩) (by assumption) ?_
                  simp only [Act.put, List.getElem_toArray, List.getElem_cons_zero, List.getElem_cons_succ, List.setIfInBounds_toArray, List.set_cons_zero, List.set_cons_succ]
                  refine wpAnyH_take (i := 8) (v := ?_) rfl (by kernel_rfl) (by kernel_rfl) (by kernel_rfl) (fun _ _ _ h => h) (Or.inl ⟨by rfl, (by intro w hSw; go_simp; try with_reducible rfl)⟩) (by assumption) ?_
                  simp only [Act.put, List.getElem_toArray, List.getElem_cons_zero, List.getElem_cons_succ, List.setIfInBounds_toArray, List.set_cons_zero, List.set_cons_succ]
                  refine wpAnyH_take (i := 9) (v := ?_) rfl (by kernel_rfl) (by kernel_rfl) (by kernel_rfl) (fun _ _ _ h => h) (Or.inl ⟨by rfl, (by intro w hSw; have e3 := (BL.out w hSw).trans G3.out; go_simp; try with_reducible rfl)⟩) (by assumption) ?_
                  simp only [Act.put, List.getElem_toArray, List.getElem_cons_zero, List.getElem_cons_succ, List.setIfInBounds_toArray, List.set_cons_zero, List.set_cons_succ]
                  refine wpAnyH_ready (rs := [3, 10]) (by kernel_rfl) (by simp) ?_
                  refine (AllReadyH.cons rfl (fun K hK => ?_) (AllReadyH.cons rfl (fun K hK => ?_) AllReadyH.nil))
                  · go_simp
                    have hown5 : Hid (Own At w p M d2 sf ds k Ks (w4.alloc (.cells #[.int .u8 (at0 : Int)] 5)).drew) := Lib.hid (hw4.out.below HH.out (((Below.refl _ w4).alloc (Nat.le_refl _) _).drew))
                    refine hK.out _ _ hown5.out.solo.bel (fun hHeld => ?_)
                    clear hK K
                    refine wpAnyH_more (S' := fun w' => Below w.heap.size w w' ∧ w'.cell? ⟨w4.heap.size, 0, none⟩ = some (.int .u8 (at0 : Int))) (fun w' h => h.1) ?_
                    have hHeld := And.intro hHeld (show (w4.alloc (.cells #[.int .u8 (at0 : Int)] 5)).drew.cell? ⟨w4.heap.size, 0, none⟩ = some (.int .u8 (at0 : Int)) from box_cell w4 _ _ 0)
                    refine wpAnyH_take (i := 4) (v := ?_) rfl (by kernel_rfl) (by kernel_rfl) (by kernel_rfl) (fun _ _ _ h => h) (Or.inl ⟨by rfl, (by intro w hSw; have hcv := CV.out w hSw.2; go_simp; try with_reducible rfl)⟩) (by assumption) ?_
                    simp only [Act.put, List.getElem_toArray, List.getElem_cons_zero, List.getElem_cons_succ, List.setIfInBounds_toArray, List.set_cons_zero, List.set_cons_succ]
                    refine wpAnyH_ready (rs := [10]) (by kernel_rfl) (by simp) ?_
                    refine AllReadyH.cons rfl (fun K hK => ?_) AllReadyH.nil
                    go_simp
                    go_at_call 20
                    refine (FZ.out _).mono ?_
                    rintro e wz ⟨rfl, rfl⟩
                    refine hK.out _ _ hHeld (fun hHeld => ?_)
                    clear hK K
                    refine wpAnyH_take (i := 11) (v := ?_) rfl (by kernel_rfl) (by kernel_rfl) (by kernel_rfl) (fun _ _ _ h => h) (Or.inl ⟨by rfl, (by intro w hSw; go_simp; try with_reducible rfl)⟩) (by assumption) ?_
                    simp only [Act.put, List.getElem_toArray, List.getElem_cons_zero, List.getElem_cons_succ, List.setIfInBounds_toArray, List.set_cons_zero, List.set_cons_succ]
                    refine wpAnyH_done (by kernel_rfl) ?_ _
                    refine wpAny_of_held (S := fun _ => True) _ _ _ _ ?_
                    have hHeld : True := trivial
                    refine wpAnyH_ready (rs := [12]) (by kernel_rfl) (by simp) ?_
                    refine AllReadyH.cons rfl (fun K hK => ?_) AllReadyH.nil
                    obtain ⟨w6, hrun6, how6⟩ := hown5.out.put HH.out (s := kb ++ z) Hks.out (by unfold maxLen; omega)
                    go_simp
                    refine hK.out _ _ trivial (fun hHeld => ?_)
                    clear hK K
                    refine wpAnyH_done (by kernel_rfl) ?_ _
                    obtain ⟨y, hy⟩ : ∃ y, ds[at0]? = some y := ⟨_, List.getElem?_eq_getElem (by have := hdl.out; omega)⟩
                    have hdc := how6.ds.boolAt hy
                    have hdf := how6.ds.free at0
                    have hnext := Lib.hid (how6.dirtySet HH.out at0 true)
                    clear hy how6 hrun6
                    go_wp2_with fail
                    obtain ⟨q1, q2⟩ := Q.out
                    refine ⟨⟨k + 1, by omega, by omega, rfl, _, _, _, _, hfine2.out, hnext.out, hsafe2.out⟩, ?_⟩
                    show 60 - ((k : Int) + 1).toNat < 60 - (k : Int).toNat
                    omega
                  · go_simp
                    go_at_call 20
                    refine (FZ.out _).mono ?_
                    rintro e wz ⟨rfl, rfl⟩
                    refine hK.out _ _ hHeld (fun hHeld => ?_)
                    clear hK K
                    refine wpAnyH_ready (rs := [3]) (by kernel_rfl) (by simp) ?_
                    refine AllReadyH.cons rfl (fun K hK => ?_) AllReadyH.nil
                    go_simp
                    have hown5 : Hid (Own At w p M d2 sf ds k Ks (w4.alloc (.cells #[.int .u8 (at0 : Int)] 5)).drew) := Lib.hid (hw4.out.below HH.out (((Below.refl _ w4).alloc (Nat.le_refl _) _).drew))
                    refine hK.out _ _ hown5.out.solo.bel (fun hHeld => ?_)
                    clear hK K
                    refine wpAnyH_more (S' := fun w' => Below w.heap.size w w' ∧ w'.cell? ⟨w4.heap.size, 0, none⟩ = some (.int .u8 (at0 : Int))) (fun w' h => h.1) ?_
                    have hHeld := And.intro hHeld (show (w4.alloc (.cells #[.int .u8 (at0 : Int)] 5)).drew.cell? ⟨w4.heap.size, 0, none⟩ = some (.int .u8 (at0 : Int)) from box_cell w4 _ _ 0)
                    refine wpAnyH_take (i := 4) (v := ?_) rfl (by kernel_rfl) (by kernel_rfl) (by kernel_rfl) (fun _ _ _ h => h) (Or.inl ⟨by rfl, (by intro w hSw; have hcv := CV.out w hSw.2; go_simp; try with_reducible rfl)⟩) (by assumption) ?_
                    simp only [Act.put, List.getElem_toArray, List.getElem_cons_zero, List.getElem_cons_succ, List.setIfInBounds_toArray, List.set_cons_zero, List.set_cons_succ]
                    refine wpAnyH_take (i := 11) (v := ?_) rfl (by kernel_rfl) (by kernel_rfl) (by kernel_rfl) (fun _ _ _ h => h) (Or.inl ⟨by rfl, (by intro w hSw; go_simp; try with_reducible rfl)⟩) (by assumption) ?_
                    simp only [Act.put, List.getElem_toArray, List.getElem_cons_zero, List.getElem_cons_succ, List.setIfInBounds_toArray, List.set_cons_zero, List.set_cons_succ]
                    refine wpAnyH_done (by kernel_rfl) ?_ _
                    refine wpAny_of_held (S := fun _ => True) _ _ _ _ ?_
                    have hHeld : True := trivial
                    refine wpAnyH_ready (rs := [12]) (by kernel_rfl) (by simp) ?_
                    refine AllReadyH.cons rfl (fun K hK => ?_) AllReadyH.nil
                    obtain ⟨w6, hrun6, how6⟩ := hown5.out.put HH.out (s := kb ++ z) Hks.out (by unfold maxLen; omega)
                    go_simp
                    refine hK.out _ _ trivial (fun hHeld => ?_)
                    clear hK K
                    refine wpAnyH_done (by kernel_rfl) ?_ _
                    obtain ⟨y, hy⟩ : ∃ y, ds[at0]? = some y := ⟨_, List.getElem?_eq_getElem (by have := hdl.out; omega)⟩
                    have hdc := how6.ds.boolAt hy
                    have hdf := how6.ds.free at0
                    have hnext := Lib.hid (how6.dirtySet HH.out at0 true)
                    clear hy how6 hrun6
                    go_wp2_with fail
                    obtain ⟨q1, q2⟩ := Q.out
                    refine ⟨⟨k + 1, by omega, by omega, rfl, _, _, _, _, hfine2.out, hnext.out, hsafe2.out⟩, ?_⟩
                    show 60 - ((k : Int) + 1).toNat < 60 - (k : Int).toNat
                    omega
              · have hs64 : (64 : Int) < (a.s.size : Int) := by omega
                clear hsz
                rcases z0 with z0 | ⟨z0, z1⟩ | ⟨z0, z1, z2⟩
                all_goals
                  go_wp2_with fail
                  obtain ⟨q1, q2⟩ := Q.out
                  obtain ⟨how, hsafe⟩ := Hcond.out
                  refine ⟨⟨k + 1, by omega, by omega, rfl, d, sf, ds, Ks, Hf.out.mono (by omega), how.more, hsafe⟩, ?_⟩
                  show 60 - ((k : Int) + 1).toNat < 60 - (k : Int).toNat
                  omega
            · have z4 : (a.kind == 4) = false := by simpa using k4
              have z0 : (a.kind == 0) = false := by rw [beq_eq_false_iff_ne]; omega
              have z1 : (a.kind == 1) = false := by rw [beq_eq_false_iff_ne]; omega
              have z2 : (a.kind == 2) = false := by rw [beq_eq_false_iff_ne]; omega
              clear k4 k012
              go_wp2_with fail
              obtain ⟨q1, q2⟩ := Q.out
              obtain ⟨how, hsafe⟩ := Hcond.out
              refine ⟨⟨k + 1, by omega, by omega, rfl, d, sf, ds, Ks, Hf.out.mono (by omega), how.more, hsafe⟩, ?_⟩
              show 60 - ((k : Int) + 1).toNat < 60 - (k : Int).toNat
              omega
        · have hcond : (decide (k < ln) = false) ∨ (decide (k < ln) = true ∧ decide ((k : Int) < 60) = false) := by
            by_cases q : k < ln
            · right
              exact ⟨by simpa using q, by simp; omega⟩
            · left
              simpa using q
          have hkc := Hk.out.kept (w' := wr) (G := fun i => w.heap.size ≤ i) ⟨how.solo.bel.os, how.solo.bel.tape, how.solo.bel.output, how.solo.bel.size, fun i _ hn => how.solo.bel.block i (Nat.lt_of_not_le hn)⟩ (fun i hi => by omega)
          have Hcr := Lib.hid (how.call (fun F hF hW => HH.out.crash hF hf (by omega) hkc (fun i hi hfi => by have := hW i hfi; omega) HI.out))
          have Hsafe := Lib.hid hsafe
          obtain ⟨d3, hd3⟩ : ∃ d3, d3 = d.crash ks := ⟨_, rfl⟩
          have f3 : Hid (d3.Fine 60) := Lib.hid (by rw [hd3]; exact (hf.crash ks).mono hk2)
          have n3 : Hid (d3.down = false ∧ d3.S.length = n) := Lib.hid ⟨by rw [hd3]; rfl, by rw [hd3, crash_len]; exact hsafe.len⟩
          have HD3 := Lib.hid hd3
          rw [← hd3] at Hcr
          clear how hsafe hkc hd3 hf hlt
          rcases hcond with hb1 | ⟨hb1, hb2⟩
          all_goals
            go_wp2_with fail
            refine Hcr.out.mono ?_
            rintro e w4 ⟨rfl, h0⟩
            go_wp2_with fail
            go_loopw [19] (fun i wr => ∃ jj : Nat, jj ≤ n ∧ i = .int .i64 (jj : Int) ∧ Own At w p M d3 sf ds k Ks wr) (fun i _ => n - (intOf i).toNat)
            case atStart => exact ⟨0, Nat.zero_le _, rfl, h0⟩
            case round =>
              obtain ⟨jj, hjj, rfl, how⟩ := hrel
              clear h0
              by_cases hjn : jj < n
              · obtain ⟨s0, hs0, hcase⟩ := safe_crash Hsafe.out ks hjn
                rw [← HD3.out] at hcase
                obtain ⟨x, hx⟩ : ∃ x, x = last (d3.at jj) := ⟨_, rfl⟩
                have crd := own_read HH.out how f3.out (by decide) n3.out.1 (k := jj) (by rw [n3.out.2]; exact hjn)
                rw [← hx] at crd hcase
                have Crd := Lib.hid crd
                obtain ⟨y, hy⟩ : ∃ y, ds[jj]? = some y := ⟨_, List.getElem?_eq_getElem (by have := Hsafe.out.dsl; omega)⟩
                have S0 := Lib.hid hs0
                have Y0 := Lib.hid hy
                have hj0 : (0 : Int) ≤ (jj : Int) := by omega
                have hj16 : (jj : Int) < 16 := by omega
                have hw8 : IntKind.u8.wrap (jj : Int) = (jj : Int) := by rw [IntKind.wrap_u8']; omega
                clear crd hx hs0 how
                rcases hcase with hcase | ⟨c1, c2, c3⟩
                · subst hcase
                  have hxx : (x.toList != x.toList) = false := by simp
                  clear hy
                  cases y
                  all_goals
                    go_wp2_with fail
                    refine Crd.out.mono ?_
                    rintro e w5 ⟨rfl, hw5⟩
                    have c1 := hw5.sf.strAt S0.out
                    have c2 := hw5.ds.boolAt Y0.out
                    have hw5 := Lib.hid hw5
                    go_wp2_with fail
                    refine ⟨⟨jj + 1, by omega, rfl, hw5.out⟩, ?_⟩
                    show n - ((jj : Int) + 1).toNat < n - (jj : Int).toNat
                    omega
                · obtain rfl : y = true := by
                    cases y
                    · exact absurd hy c2
                    · rfl
                  have hxx : (x.toList != s0.toList) = true := by
                    rw [bne_iff_ne, Lib.toList_data, Lib.toList_data]
                    exact fun e => c1 (ByteArray.ext (Array.toList_inj.1 e))
                  have hxe : (x.toList == s0.toList) = false := by simpa using hxx
                  obtain ⟨kb, hkb⟩ : ∃ kb : ByteArray, kb = ⟨#[UInt8.ofNat jj]⟩ := ⟨_, rfl⟩
                  have hks : kb.size = 1 := by rw [hkb]; rfl
                  have hsm := Hsafe.out.small _ c3
                  have hkx : secKey jj x = kb ++ x := by rw [hkb]; rfl
                  rw [hkx] at c3 hsm
                  have hcc : ¬ 9223372036854775807 < kb.size + x.size := by rw [ByteArray.size_append] at hsm; omega
                  have C3 := Lib.hid c3
                  have Hsm : Hid ((kb ++ x).size ≤ maxLen) := Lib.hid (Nat.le_trans hsm (by decide))
                  have CV : Hid (∀ w' : World, ∀ B, w'.cell? ⟨B, 0, none⟩ = some (.int .u8 (jj : Int)) → (convert 53 9 (.slice (some ⟨B, 0, none⟩) 1 1)).run Try.prog w' = .ok (.string kb) w') := Lib.hid (fun w' B h => by
                    rw [hkb]
                    refine run_convert_bytes_back (P := Try.prog) w' 53 9 5 ⟨B, 0, none⟩ 1 [UInt8.ofNat jj] Try.underlying53 Try.underlying5 Try.underlying9 (fun j' hj' => ?_)
                    have : j' = 0 := by simpa using hj'
                    subst this
                    rw [Go.WideShapes.add_plain, h]
                    have : (UInt8.ofNat jj).toNat = jj := by rw [UInt8.toNat_ofNat']; omega
                    simp [this])
                  clear hy c1 c2 c3 hkb hks hsm hkx
                  go_wp2_with fail
                  refine Crd.out.mono ?_
                  rintro e w5 ⟨rfl, hw5⟩
                  have c1 := hw5.sf.strAt S0.out
                  have c2 := hw5.ds.boolAt Y0.out
                  have hw6 := hw5.below HH.out ((Below.refl _ w5).alloc (Nat.le_refl _) (.cells #[.int .u8 (jj : Int)] 5))
                  have hlook := hw6.once.look C3.out Hsm.out
                  have hcv := CV.out (w5.alloc (.cells #[.int .u8 (jj : Int)] 5)) w5.heap.size (box_cell w5 _ _ 0)
                  have hw6 := Lib.hid hw6
                  clear hw5
                  go_wp2_with fail
                  refine ⟨⟨jj + 1, by omega, rfl, hw6.out⟩, ?_⟩
                  show n - ((jj : Int) + 1).toNat < n - (jj : Int).toNat
                  omega
              · obtain rfl : n = jj := by omega
                have hbel := Lib.hid how.solo.bel
                clear how
                go_wp2_with fail
                go_ret
                exact ⟨rfl, hbel.out⟩
end
end Go.Proofs.Ytdagdmfockibfaa
