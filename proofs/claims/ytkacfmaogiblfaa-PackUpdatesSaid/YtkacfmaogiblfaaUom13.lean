import Derived.Test.YtkacfmaogiblfaaUom4
import Derived.Test.YtkacfmaogiblfaaUom1
import Derived.Test.YtkacfmaogiblfaaUom5
import Derived.Test.YtkacfmaogiblfaaUom9
import Derived.Test.YtkacfmaogiblfaaUom6
import Derived.Test.YtkacfmaogiblfaaUom7
import Derived.OwnWalk
import Derived.Lib.Hide
import Derived.Laws.BitsAllLaws
import Derived.Laws.StructEq
import Derived.Deep.QuietTactic
set_option maxRecDepth 100000
set_option linter.all false
set_option maxHeartbeats 12800000
namespace Go.Proofs.Ytkacfmaogiblfaa
open Go.RowKit
theorem one_byte (W : World) (g : Nat) (hg : g < 256) :
  (convert 128 9 (.slice (some ⟨W.heap.size, 0, none⟩) 1 1)).run Try.prog (W.alloc (.cells #[.int .u8 (g : Int)] 5)) = .ok (.string ⟨#[UInt8.ofNat g]⟩) (W.alloc (.cells #[.int .u8 (g : Int)] 5)) := by
 refine run_convert_bytes_back (P := Try.prog) _ 128 9 5 ⟨W.heap.size, 0, none⟩ 1 [UInt8.ofNat g] Try.underlying128 Try.underlying5 Try.underlying9 (fun j hj => ?_)
 have hj0 : j = 0 := by simpa using hj
 subst hj0
 have := (Row.made W 5 #[.int .u8 (g : Int)]).at 0
 rw [show (⟨W.heap.size, 0, none⟩ : Addr).add 0 = ⟨W.heap.size, 0, none⟩ from rfl, this]
 simp only [List.getElem_cons_zero, Leb.toNat_ofNat g hg]
 rfl
def RefLoop (w : World) (l : List UInt8) (out : ByteArray) (m : Nat) (wr : World) : Prop :=
 ∃ f, m < 128 ^ (f + 1) ∧ f ≤ 8 ∧ out.data.toList ++ Leb.encF f m = l ∧ Below w.heap.size w wr
theorem ref_number (n : Nat) (w : World) (hn : n < 9223372036854775808) :
  Calls Try.prog 41 #[.int .i64 n] w fun e w' => e = .returned (.string ⟨(Leb.enc n).toArray⟩) ∧ Below w.heap.size w w' := by
 have h0 : RefLoop w (Leb.enc n) ⟨#[]⟩ n w := ⟨8, by simpa using hn, by omega, rfl, Below.refl _ _⟩
 clear hn
 go_enter Try.func41, Try.ntmps41
 go_wp2
 go_loopw [0, 3] (fun x o wr => ∃ (m : Nat) (out : ByteArray), x = .int .i64 m ∧ o = .string out ∧ m ≤ n ∧ RefLoop w (Leb.enc n) out m wr) (fun x _ _ => (intOf x).toNat)
 case atStart => exact ⟨n, ⟨#[]⟩, rfl, rfl, Nat.le_refl _, h0⟩
 case round =>
  obtain ⟨m, out, rfl, rfl, hm, f, hf, hf8, hout, hbel⟩ := hrel
  have hol : out.size ≤ 9 := by
   have h1 := (Leb.enc_len n).2
   rw [← hout, List.length_append, ← Lib.size_eq] at h1
   omega
  have hmm : (m : Int) ≤ 9223372036854775807 := by
   have : (128 : Nat) ^ (f + 1) ≤ 128 ^ 9 := Nat.pow_le_pow_right (by omega) (by omega)
   have h9 : (128 : Nat) ^ 9 = 9223372036854775808 := by decide
   omega
  have Hf := Lib.hid hf
  have Hout := Lib.hid hout
  clear hf hout
  by_cases hbig : 127 < m
  ·obtain ⟨g, hg⟩ : ∃ g : Nat, g = m % 128 + 128 := ⟨_, rfl⟩
   have hg1 : g < 256 := by omega
   have hgi : (m : Int) % 128 + 128 = (g : Int) := by omega
   have hconv := one_byte wr g hg1
   have Hg := Lib.hid hg
   clear hg
   have hnew : RefLoop w (Leb.enc n) (out ++ ⟨#[UInt8.ofNat g]⟩) (m / 128) (wr.alloc (.cells #[.int .u8 (g : Int)] 5)) := by
    have h1 := Hf.out
    have h2 := Hout.out
    cases f with
    | zero => simp at h1; omega
    | succ f =>
     refine ⟨f, ?_, by omega, ?_, hbel.alloc hbel.size _⟩
     ·rw [Nat.div_lt_iff_lt_mul (by omega), ← Nat.pow_succ]; exact h1
     ·rw [← h2, Leb.encF, if_neg (by omega), Hg.out]; simp [ByteArray.data_append]
   have Hnew := Lib.hid hnew
   clear hnew
   go_wp2
   go_roundw
   case rel => exact ⟨m / 128, _, by simp, rfl, by omega, Hnew.out⟩
   case measure => simp [intOf]; omega
  ·have hconv := one_byte wr m (by omega)
   have hfin : Hid ((out ++ ⟨#[UInt8.ofNat m]⟩ : ByteArray) = ⟨(Leb.enc n).toArray⟩) := by
    have h2 := Hout.out
    have he : Leb.encF f m = [UInt8.ofNat m] := by
     cases f with
     | zero => rfl
     | succ f => rw [Leb.encF, if_pos (by omega)]
    rw [he] at h2
    refine bytes_ext ?_
    rw [← h2]; simp [ByteArray.data_append]
   go_wp2
   go_ret
   refine ⟨?_, hbel.alloc hbel.size _⟩
   rw [← hfin.out]; rfl
theorem ref_text (s : ByteArray) (w : World) (hs : s.size ≤ 281474976710656) :
  Calls Try.prog 42 #[.string s] w fun e w' => e = .returned (.string ⟨(Leb.enc s.size ++ s.data.toList).toArray⟩) ∧ Below w.heap.size w w' := by
 have hl := (Leb.enc_len s.size).2
 have hz : (⟨(Leb.enc s.size).toArray⟩ : ByteArray).size ≤ 9 := by rw [mk_size]; exact hl
 have hfin : Hid ((⟨(Leb.enc s.size).toArray⟩ ++ s : ByteArray) = ⟨(Leb.enc s.size ++ s.data.toList).toArray⟩) := bytes_ext (by simp [ByteArray.data_append])
 have hnum : Hid (∀ W, Calls Try.prog 41 #[.int .i64 s.size] W fun e w' => e = .returned (.string ⟨(Leb.enc s.size).toArray⟩) ∧ Below W.heap.size W w') := fun W => ref_number s.size W (by omega)
 generalize (⟨(Leb.enc s.size).toArray⟩ : ByteArray) = t at *
 go_enter Try.func42, Try.ntmps42
 go_wp2_with (go_at_call 41; refine (hnum.out _).mono ?_; rintro e w' ⟨rfl, hb⟩)
 go_ret
 refine ⟨?_, hb⟩
 rw [← hfin.out]; rfl
open Go.RowKit Go.Sort
theorem ref_num (n : Int) (hn : Ver.I64 n) (w : World) :
  Calls Try.prog 41 #[.int .i64 n] w fun e w' => e = .returned (.string (mk (Pck.numR n))) ∧ Below w.heap.size w w' := by
 by_cases h0 : 0 ≤ n
 ·have := ref_number n.toNat w (by have := hn.2; omega)
  rw [Int.toNat_of_nonneg h0] at this
  unfold Pck.numR
  rw [if_pos h0]
  exact this
 ·have hE : Hid (mk (Pck.numR n) = ⟨#[UInt8.ofNat (n % 256).toNat]⟩) := Lib.hid (by unfold Pck.numR; rw [if_neg h0]; rfl)
  obtain ⟨m, hm⟩ : ∃ m : Nat, m = (n % 256).toNat := ⟨_, rfl⟩
  have hmi : n % 256 = (m : Int) := by omega
  have hm2 : m < 256 := by omega
  have hd : decide ((127 : Int) < n) = false := decide_eq_false (by omega)
  have hd2 : ¬ (127 : Int) < n := by omega
  have hwr : IntKind.u8.wrap n = (m : Int) := by rw [← hmi]; rfl
  have hconv := one_byte w m hm2
  rw [hE.out, ← hm]
  have hb := Lib.hid ((Below.refl w.heap.size w).alloc (Nat.le_refl _) (.cells #[.int .u8 (m : Int)] 5))
  have hfin : Hid ((⟨#[]⟩ ++ ⟨#[UInt8.ofNat m]⟩ : ByteArray) = ⟨#[UInt8.ofNat m]⟩) := Lib.hid (bytes_ext (by simp [ByteArray.data_append]))
  clear hn h0 hm hm2 hE
  go_enter Try.func41, Try.ntmps41
  go_wp2
  refine wp_loop_rounds 1 ?_
  rw [rounds_succ]
  go_wp2
  go_ret
  exact ⟨by first | rfl | (rw [← hfin.out]; rfl), hb.out⟩
theorem ref_txt (t : List UInt8) (ht : t.length ≤ 281474976710656) (w : World) :
  Calls Try.prog 42 #[.string (mk t)] w fun e w' => e = .returned (.string (mk (Pck.txt t))) ∧ Below w.heap.size w w' := by
 have := ref_text (mk t) w (by rw [mk_len]; exact ht)
 rw [mk_len, mk_data] at this
 exact this
theorem ref_pver (v : Ver.V) (hv : Ver.Bd v) (w : World) :
  Calls Try.prog 40 #[verA v] w fun e w' => e = .returned (.string (mk (Pck.verR v))) ∧ Below w.heap.size w w' := by
 have mixed : Try.prog.follows .mixedOrders = true := by kernel_rfl
 have N1 := Lib.hid (fun W => ref_num v.by_ hv.1 W)
 have N2 := Lib.hid (fun W => ref_num v.n hv.2 W)
 have hfin : Hid (mk (Pck.numR v.by_) ++ mk (Pck.numR v.n) = mk (Pck.verR v)) := Lib.hid (mk_append _ _)
 have h1 := Pck.numR_len v.by_
 have h2 := Pck.numR_len v.n
 rw [← mk_len] at h1 h2
 rw [← hfin.out]
 clear hfin hv
 obtain ⟨a, b⟩ := v
 dsimp only [verA] at *
 generalize mk (Pck.numR a) = x at *
 generalize mk (Pck.numR b) = y at *
 have n1 : ¬ 9223372036854775807 < x.size + y.size := by omega
 have hr := Row.made w 23 #[.int .i64 a, .int .i64 b]
 have XC := Lib.hid (fun (W : World) (h : InB (w.alloc (.cells #[.int .i64 a, .int .i64 b] 23)) W) => (⟨(hr.below h.below hr.inHeap).at 0, (hr.below h.below hr.inHeap).at 1⟩ : W.cell? ⟨w.heap.size, 0, none⟩ = some (.int .i64 a) ∧ W.cell? ⟨w.heap.size, 1, none⟩ = some (.int .i64 b)))
 have hb := Lib.hid ((Below.refl w.heap.size w).alloc (Nat.le_refl _) (.cells #[.int .i64 a, .int .i64 b] 23))
 clear hr h1 h2
 go_enter Try.func40, Try.ntmps40
 go_wp2_with fail
 refine wp_region_below (by assumption) (by kernel_rfl) ?_
 repeat ((first
  | (refine wq_skip (by rfl) ?_)
  | (refine wq_take (v := ?_) (by kernel_rfl) (by intro w hSw; obtain ⟨c0, c1⟩ := XC.out w hSw; go_simp; first | done | with_reducible rfl) ?_)
  | (refine wq_call (by kernel_rfl) ?hent (fun w hSw => inB_calls hSw (N1.out w)) ?_; (case hent => (intro w hSw; go_simp; done)))
  | (refine wq_call (by kernel_rfl) ?hent (fun w hSw => inB_calls hSw (N2.out w)) ?_; (case hent => (intro w hSw; go_simp; done)))); (try simp only [zz]))
 refine wq_nil ?_
 intro wq hq
 have HQ := Lib.hid (hb.out.trans (hq.below.mono hb.out.size))
 clear hq
 go_wp2_with fail
 go_ret
 exact ⟨rfl, HQ.out⟩
theorem ref_bit (d : Bool) (w : World) : Calls Try.prog 43 #[.bool d] w fun e w' => e = .returned (.string (mk (Pck.num (if d then 1 else 0)))) ∧ Below w.heap.size w w' := by
 have hb := Lib.hid (Below.refl w.heap.size w)
 cases d
 ·have hE : Hid (mk (Pck.num (if false then 1 else 0)) = ⟨#[0]⟩) := Lib.hid (by decide +kernel)
  rw [hE.out]
  go_enter Try.func43, Try.ntmps43
  go_wp2_with fail
  go_ret
  exact ⟨rfl, hb.out⟩
 ·have hE : Hid (mk (Pck.num (if true then 1 else 0)) = ⟨#[1]⟩) := Lib.hid (by decide +kernel)
  rw [hE.out]
  go_enter Try.func43, Try.ntmps43
  go_wp2_with fail
  go_ret
  exact ⟨rfl, hb.out⟩
open Go.RowKit Go.Sort
theorem ref_pupd (u : Upd.U) (hu : Upd.Bd u) (w : World) :
  Calls Try.prog 12 #[upA u] w fun e w' => e = .returned (.string (mk (Pck.updR u))) ∧ Below w.heap.size w w' := by
 have mixed : Try.prog.follows .mixedOrders = true := by kernel_rfl
 have hpl := hu.path
 have V1 := Lib.hid (fun W => ref_pver u.item hu.item W)
 have V2 := Lib.hid (fun W => ref_pver u.stamp.v hu.stamp.1 W)
 have N3 := Lib.hid (fun W => ref_num u.stamp.time hu.stamp.2 W)
 have T4 := Lib.hid (fun W => ref_txt u.path (by omega) W)
 have hdl := hu.data
 have N5 := Lib.hid (fun W => ref_txt u.data (by omega) W)
 have B6 := Lib.hid (fun W => ref_bit u.dead W)
 have hfin : Hid (mk (Pck.verR u.item) ++ mk (Pck.verR u.stamp.v) ++ mk (Pck.numR u.stamp.time) ++ mk (Pck.txt u.path) ++ mk (Pck.txt u.data) ++ mk (Pck.num (if u.dead then 1 else 0)) = mk (Pck.updR u)) := Lib.hid (by simp only [mk_append, List.append_assoc]; rfl)
 have s1 := Pck.verR_len u.item
 have s2 := Pck.verR_len u.stamp.v
 have s3 := Pck.numR_len u.stamp.time
 have s4 := Pck.txt_len u.path
 have s5 := Pck.txt_len u.data
 have s6 := Pck.num_len (if u.dead then 1 else 0)
 rw [← mk_len] at s1 s2 s3 s4 s5 s6
 rw [← hfin.out]
 clear hfin hu
 obtain ⟨⟨i1, i2⟩, ⟨tt, ⟨v1, v2⟩⟩, p, d, dd⟩ := u
 dsimp only [upA, verA] at *
 generalize mk (Pck.verR ⟨i1, i2⟩) = y1 at *
 generalize mk (Pck.verR ⟨v1, v2⟩) = y2 at *
 generalize mk (Pck.numR tt) = y3 at *
 generalize mk (Pck.txt p) = y4 at *
 generalize mk (Pck.txt d) = y5 at *
 generalize mk d = db at *
 generalize mk (Pck.num (if dd then 1 else 0)) = y6 at *
 generalize mk p = pb at *
 have n1 : ¬ 9223372036854775807 < y1.size + y2.size := by omega
 have n2 : ¬ 9223372036854775807 < y1.size + y2.size + y3.size := by omega
 have n3 : ¬ 9223372036854775807 < y1.size + y2.size + y3.size + y4.size := by omega
 have n4 : ¬ 9223372036854775807 < y1.size + y2.size + y3.size + y4.size + y5.size := by omega
 have n5 : ¬ 9223372036854775807 < y1.size + y2.size + y3.size + y4.size + y5.size + y6.size := by omega
 have hr := Row.made w 27 #[.int .i64 i1, .int .i64 i2, .int .i64 v1, .int .i64 v2, .int .i64 tt, .string pb, .string db, .bool dd]
 have XC := Lib.hid (fun (W : World) (h : InB (w.alloc (.cells #[.int .i64 i1, .int .i64 i2, .int .i64 v1, .int .i64 v2, .int .i64 tt, .string pb, .string db, .bool dd] 27)) W) => (⟨(hr.below h.below hr.inHeap).at 0, (hr.below h.below hr.inHeap).at 1, (hr.below h.below hr.inHeap).at 2, (hr.below h.below hr.inHeap).at 3, (hr.below h.below hr.inHeap).at 4, (hr.below h.below hr.inHeap).at 5, (hr.below h.below hr.inHeap).at 6, (hr.below h.below hr.inHeap).at 7⟩ : W.cell? ⟨w.heap.size, 0, none⟩ = some (.int .i64 i1) ∧ W.cell? ⟨w.heap.size, 1, none⟩ = some (.int .i64 i2) ∧ W.cell? ⟨w.heap.size, 2, none⟩ = some (.int .i64 v1) ∧ W.cell? ⟨w.heap.size, 3, none⟩ = some (.int .i64 v2) ∧ W.cell? ⟨w.heap.size, 4, none⟩ = some (.int .i64 tt) ∧ W.cell? ⟨w.heap.size, 5, none⟩ = some (.string pb) ∧ W.cell? ⟨w.heap.size, 6, none⟩ = some (.string db) ∧ W.cell? ⟨w.heap.size, 7, none⟩ = some (.bool dd)))
 have hb := Lib.hid ((Below.refl w.heap.size w).alloc (Nat.le_refl _) (.cells #[.int .i64 i1, .int .i64 i2, .int .i64 v1, .int .i64 v2, .int .i64 tt, .string pb, .string db, .bool dd] 27))
 clear hr s1 s2 s3 s4 s5 s6 hpl
 go_enter Try.func12, Try.ntmps12
 go_wp2_with fail
 refine wp_region_below (by assumption) (by kernel_rfl) ?_
 repeat ((first
  | (refine wq_skip (by rfl) ?_)
  | (refine wq_take (v := ?_) (by kernel_rfl) (by intro w hSw; obtain ⟨c0, c1, c2, c3, c4, c5, c6, c7⟩ := XC.out w hSw; go_simp; first | done | with_reducible rfl) ?_)
  | (refine wq_call (by kernel_rfl) ?hent (fun w hSw => inB_calls hSw (V1.out w)) ?_; (case hent => (intro w hSw; go_simp; done)))
  | (refine wq_call (by kernel_rfl) ?hent (fun w hSw => inB_calls hSw (V2.out w)) ?_; (case hent => (intro w hSw; go_simp; done)))
  | (refine wq_call (by kernel_rfl) ?hent (fun w hSw => inB_calls hSw (N3.out w)) ?_; (case hent => (intro w hSw; go_simp; done)))
  | (refine wq_call (by kernel_rfl) ?hent (fun w hSw => inB_calls hSw (T4.out w)) ?_; (case hent => (intro w hSw; go_simp; done)))
  | (refine wq_call (by kernel_rfl) ?hent (fun w hSw => inB_calls hSw (N5.out w)) ?_; (case hent => (intro w hSw; go_simp; done)))
  | (refine wq_call (by kernel_rfl) ?hent (fun w hSw => inB_calls hSw (B6.out w)) ?_; (case hent => (intro w hSw; go_simp; done)))); (try simp only [zz]))
 refine wq_nil ?_
 intro wq hq
 have HQ := Lib.hid (hb.out.trans (hq.below.mono hb.out.size))
 clear hq
 go_wp2_with fail
 go_ret
 exact ⟨rfl, HQ.out⟩
theorem ref_pmet (u : Upd.M) (hu : Upd.BdM u) (w : World) :
  Calls Try.prog 14 #[mtA u] w fun e w' => e = .returned (.string (mk (Pck.metR u))) ∧ Below w.heap.size w w' := by
 have mixed : Try.prog.follows .mixedOrders = true := by kernel_rfl
 have hpl := hu.path
 have V1 := Lib.hid (fun W => ref_pver u.item hu.item W)
 have V2 := Lib.hid (fun W => ref_pver u.stamp.v hu.stamp.1 W)
 have N3 := Lib.hid (fun W => ref_num u.stamp.time hu.stamp.2 W)
 have T4 := Lib.hid (fun W => ref_txt u.path (by omega) W)
 have N5 := Lib.hid (fun W => ref_num u.size hu.size W)
 have B6 := Lib.hid (fun W => ref_bit u.dead W)
 have hfin : Hid (mk (Pck.verR u.item) ++ mk (Pck.verR u.stamp.v) ++ mk (Pck.numR u.stamp.time) ++ mk (Pck.txt u.path) ++ mk (Pck.numR u.size) ++ mk (Pck.num (if u.dead then 1 else 0)) = mk (Pck.metR u)) := Lib.hid (by simp only [mk_append, List.append_assoc]; rfl)
 have s1 := Pck.verR_len u.item
 have s2 := Pck.verR_len u.stamp.v
 have s3 := Pck.numR_len u.stamp.time
 have s4 := Pck.txt_len u.path
 have s5 := Pck.numR_len u.size
 have s6 := Pck.num_len (if u.dead then 1 else 0)
 rw [← mk_len] at s1 s2 s3 s4 s5 s6
 rw [← hfin.out]
 clear hfin hu
 obtain ⟨⟨i1, i2⟩, ⟨tt, ⟨v1, v2⟩⟩, p, d, dd⟩ := u
 dsimp only [mtA, verA] at *
 generalize mk (Pck.verR ⟨i1, i2⟩) = y1 at *
 generalize mk (Pck.verR ⟨v1, v2⟩) = y2 at *
 generalize mk (Pck.numR tt) = y3 at *
 generalize mk (Pck.txt p) = y4 at *
 generalize mk (Pck.numR d) = y5 at *
 generalize mk (Pck.num (if dd then 1 else 0)) = y6 at *
 generalize mk p = pb at *
 have n1 : ¬ 9223372036854775807 < y1.size + y2.size := by omega
 have n2 : ¬ 9223372036854775807 < y1.size + y2.size + y3.size := by omega
 have n3 : ¬ 9223372036854775807 < y1.size + y2.size + y3.size + y4.size := by omega
 have n4 : ¬ 9223372036854775807 < y1.size + y2.size + y3.size + y4.size + y5.size := by omega
 have n5 : ¬ 9223372036854775807 < y1.size + y2.size + y3.size + y4.size + y5.size + y6.size := by omega
 have hr := Row.made w 29 #[.int .i64 i1, .int .i64 i2, .int .i64 v1, .int .i64 v2, .int .i64 tt, .string pb, .int .i64 d, .bool dd]
 have XC := Lib.hid (fun (W : World) (h : InB (w.alloc (.cells #[.int .i64 i1, .int .i64 i2, .int .i64 v1, .int .i64 v2, .int .i64 tt, .string pb, .int .i64 d, .bool dd] 29)) W) => (⟨(hr.below h.below hr.inHeap).at 0, (hr.below h.below hr.inHeap).at 1, (hr.below h.below hr.inHeap).at 2, (hr.below h.below hr.inHeap).at 3, (hr.below h.below hr.inHeap).at 4, (hr.below h.below hr.inHeap).at 5, (hr.below h.below hr.inHeap).at 6, (hr.below h.below hr.inHeap).at 7⟩ : W.cell? ⟨w.heap.size, 0, none⟩ = some (.int .i64 i1) ∧ W.cell? ⟨w.heap.size, 1, none⟩ = some (.int .i64 i2) ∧ W.cell? ⟨w.heap.size, 2, none⟩ = some (.int .i64 v1) ∧ W.cell? ⟨w.heap.size, 3, none⟩ = some (.int .i64 v2) ∧ W.cell? ⟨w.heap.size, 4, none⟩ = some (.int .i64 tt) ∧ W.cell? ⟨w.heap.size, 5, none⟩ = some (.string pb) ∧ W.cell? ⟨w.heap.size, 6, none⟩ = some (.int .i64 d) ∧ W.cell? ⟨w.heap.size, 7, none⟩ = some (.bool dd)))
 have hb := Lib.hid ((Below.refl w.heap.size w).alloc (Nat.le_refl _) (.cells #[.int .i64 i1, .int .i64 i2, .int .i64 v1, .int .i64 v2, .int .i64 tt, .string pb, .int .i64 d, .bool dd] 29))
 clear hr s1 s2 s3 s4 s5 s6 hpl
 go_enter Try.func14, Try.ntmps14
 go_wp2_with fail
 refine wp_region_below (by assumption) (by kernel_rfl) ?_
 repeat ((first
  | (refine wq_skip (by rfl) ?_)
  | (refine wq_take (v := ?_) (by kernel_rfl) (by intro w hSw; obtain ⟨c0, c1, c2, c3, c4, c5, c6, c7⟩ := XC.out w hSw; go_simp; first | done | with_reducible rfl) ?_)
  | (refine wq_call (by kernel_rfl) ?hent (fun w hSw => inB_calls hSw (V1.out w)) ?_; (case hent => (intro w hSw; go_simp; done)))
  | (refine wq_call (by kernel_rfl) ?hent (fun w hSw => inB_calls hSw (V2.out w)) ?_; (case hent => (intro w hSw; go_simp; done)))
  | (refine wq_call (by kernel_rfl) ?hent (fun w hSw => inB_calls hSw (N3.out w)) ?_; (case hent => (intro w hSw; go_simp; done)))
  | (refine wq_call (by kernel_rfl) ?hent (fun w hSw => inB_calls hSw (T4.out w)) ?_; (case hent => (intro w hSw; go_simp; done)))
  | (refine wq_call (by kernel_rfl) ?hent (fun w hSw => inB_calls hSw (N5.out w)) ?_; (case hent => (intro w hSw; go_simp; done)))
  | (refine wq_call (by kernel_rfl) ?hent (fun w hSw => inB_calls hSw (B6.out w)) ?_; (case hent => (intro w hSw; go_simp; done)))); (try simp only [zz]))
 refine wq_nil ?_
 intro wq hq
 have HQ := Lib.hid (hb.out.trans (hq.below.mono hb.out.size))
 clear hq
 go_wp2_with fail
 go_ret
 exact ⟨rfl, HQ.out⟩
open Go.RowKit Go.Sort
theorem txt_same (p q : List UInt8) : ((mk p).toList == (mk q).toList) = decide (p = q) := by
 rw [Lib.toList_data, Lib.toList_data, mk_data, mk_data]
 by_cases h : p = q
 ·rw [h, decide_eq_true rfl]; exact beq_self_eq_true _
 ·rw [decide_eq_false h, beq_eq_false_iff_ne]; exact h
theorem ver_eqIn (m : Nat) (w : World) (x y : Ver.V) : (Op.equalIn (m + 2) 23 (verA x) (verA y)).run Try.prog w = .ok (decide (x = y)) w := by
 have hS : Try.prog.underlying 23 = some (.struct (Try.prog.fieldsOf 23)) := by kernel_rfl
 have hp : Try.prog.stoodInHeld 23 = false := by kernel_rfl
 have u3 := Try.underlying3
 have a3 := Try.isAgg3
 have z3 := Try.sizeOf3
 obtain ⟨x1, x2⟩ := x
 obtain ⟨y1, y2⟩ := y
 rw [show m + 2 = (m + 1) + 1 from rfl, run_equalIn_agg w (m + 1) 23 _ _ hS hp]
 simp only [Program.fieldsOf, Try.underlying23]
 have hT : ∀ (w : World) (a b : Int), (Op.equalIn (m + 1) 3 (.int .i64 a) (.int .i64 b)).run Try.prog w = .ok (a == b) w := fun w a b => run_equalIn_int w m 3 _ _ a b u3
 simp only [Op.eqFields]
 generalize Op.equalIn (m + 1) = EQ at hT ⊢
 go_simp
 by_cases h0 : x1 = y1 <;> by_cases h1 : x2 = y2 <;> simp [h0, h1]
theorem stp_eqIn (m : Nat) (w : World) (a b : Ver.S) : (Op.equalIn (m + 3) 25 (stpA a) (stpA b)).run Try.prog w = .ok (decide (a = b)) w := by
 have hS : Try.prog.underlying 25 = some (.struct (Try.prog.fieldsOf 25)) := by kernel_rfl
 have hp : Try.prog.stoodInHeld 25 = false := by kernel_rfl
 have u3 := Try.underlying3
 have a3 := Try.isAgg3
 have z3 := Try.sizeOf3
 have a23 := Try.isAgg23
 have z23 := Try.sizeOf23
 obtain ⟨t, x, y⟩ := a
 obtain ⟨t', x', y'⟩ := b
 have hR := fun w => ver_eqIn m w ⟨x, y⟩ ⟨x', y'⟩
 rw [show m + 3 = (m + 2) + 1 from rfl, run_equalIn_agg w (m + 2) 25 _ _ hS hp]
 simp only [Program.fieldsOf, Try.underlying25]
 have hT : ∀ (w : World) (p q : Int), (Op.equalIn (m + 2) 3 (.int .i64 p) (.int .i64 q)).run Try.prog w = .ok (p == q) w := fun w p q => run_equalIn_int w (m + 1) 3 _ _ p q u3
 simp only [Op.eqFields]
 generalize Op.equalIn (m + 2) = EQ at hR hT ⊢
 dsimp only [verA] at hR
 go_simp
 by_cases h0 : t = t' <;> by_cases h1 : x = x' <;> by_cases h2 : y = y' <;> simp [h0, h1, h2]
theorem up_eqIn (w : World) (a b : Upd.U) : (Op.equalIn 10000 27 (upA a) (upA b)).run Try.prog w = .ok (decide (a = b)) w := by
 have hS : Try.prog.underlying 27 = some (.struct (Try.prog.fieldsOf 27)) := by kernel_rfl
 have hp : Try.prog.stoodInHeld 27 = false := by kernel_rfl
 have u9 := Try.underlying9
 have a9 := Try.isAgg9
 have z9 := Try.sizeOf9
 have u4 := Try.underlying4
 have a4 := Try.isAgg4
 have z4 := Try.sizeOf4
 have a23 := Try.isAgg23
 have z23 := Try.sizeOf23
 have a25 := Try.isAgg25
 have z25 := Try.sizeOf25
 obtain ⟨⟨i1, i2⟩, ⟨t, ⟨v1, v2⟩⟩, p, d, dd⟩ := a
 obtain ⟨⟨j1, j2⟩, ⟨s, ⟨u1, u2⟩⟩, q, c, cc⟩ := b
 have hV := fun w => ver_eqIn 9997 w ⟨i1, i2⟩ ⟨j1, j2⟩
 have hW := fun w => stp_eqIn 9996 w ⟨t, ⟨v1, v2⟩⟩ ⟨s, ⟨u1, u2⟩⟩
 have e1 := txt_same p q
 have e2 := txt_same d c
 rw [show (10000 : Nat) = 9999 + 1 from rfl, run_equalIn_agg w 9999 27 _ _ hS hp]
 simp only [Program.fieldsOf, Try.underlying27]
 have hT : ∀ (w : World) (a b : ByteArray), (Op.equalIn 9999 9 (.string a) (.string b)).run Try.prog w = .ok (a.toList == b.toList) w := fun w a b => run_equalIn_string w 9998 9 a b u9
 have hB : ∀ (w : World) (a b : Bool), (Op.equalIn 9999 4 (.bool a) (.bool b)).run Try.prog w = .ok (a == b) w := fun w a b => run_equalIn_bool w 9998 4 a b u4
 simp only [Op.eqFields]
 generalize Op.equalIn 9999 = EQ at hV hW hT hB ⊢
 dsimp only [verA, stpA] at hV hW
 generalize hx : decide ((⟨i1, i2⟩ : Ver.V) = ⟨j1, j2⟩) = k1 at hV
 generalize hy : decide ((⟨t, ⟨v1, v2⟩⟩ : Ver.S) = ⟨s, ⟨u1, u2⟩⟩) = k2 at hW
 generalize hp1 : decide (p = q) = k3 at e1
 generalize hp2 : decide (d = c) = k4 at e2
 have hD : decide ((⟨⟨i1, i2⟩, ⟨t, ⟨v1, v2⟩⟩, p, d, dd⟩ : Upd.U) = ⟨⟨j1, j2⟩, ⟨s, ⟨u1, u2⟩⟩, q, c, cc⟩) = (k1 && (k2 && (k3 && (k4 && (dd == cc))))) := by
  rw [← hx, ← hy, ← hp1, ← hp2, Bool.eq_iff_iff, decide_eq_true_iff]
  simp only [Bool.and_eq_true, decide_eq_true_iff, Upd.U.mk.injEq, beq_iff_eq]
 rw [hD]
 clear hD hx hy hp1 hp2
 generalize mk p = xs at *
 generalize mk q = ys at *
 generalize mk d = zs at *
 generalize mk c = us at *
 go_simp
 cases k1 <;> cases k2 <;> cases k3 <;> cases k4 <;> cases dd <;> cases cc <;> simp [e1, e2]
open Go.RowKit
end Go.Proofs.Ytkacfmaogiblfaa
