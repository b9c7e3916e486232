import Derived.Test.YtmpajhjfnfcdlaaCom10
import Derived.Test.YtmpajhjfnfcdlaaCom8
import Derived.Test.YtmpajhjfnfcdlaaCom9
import Derived.Test.YtmpajhjfnfcdlaaCom4
import Derived.Test.YtmpajhjfnfcdlaaCom1
import Derived.Test.YtmpajhjfnfcdlaaCom5
import Derived.Test.YtmpajhjfnfcdlaaCom6
import Derived.OwnWalk
import Derived.Lib.Hide
import Derived.Laws.BitsAllLaws
import Derived.Deep.QuietTactic
set_option maxRecDepth 100000
set_option linter.all false
set_option maxHeartbeats 12800000
namespace Go.Proofs.Ytmpajhjfnfcdlaa
open Go.RowKit Go.Sort
theorem pck_PutFilter (FO : FilterOk) {w : World} {F : Nat → Prop} {v : Value} {l : List (Flt.Cl)} (h : Cls w F v l) (hl : l.length ≤ 65536) (hb : ∀ x ∈ l, Flt.Bd x) :
  Calls Try.prog 26 #[v] w fun e w' => e = .returned (.tuple #[.string (mk (Pck.putFlt l).1), .int .i64 (Pck.putFlt l).2]) ∧ Below w.heap.size w w' := by
 have VI := Lib.hid (pck_validFilter FO h (by omega) hb)
 have LI := Lib.hid (fun W => pck_list_of_cl W)
 have PP := Lib.hid (fun (W : World) (hW : Below w.heap.size w W) (c2 : Nat) (h1 : W.cell? ⟨c2, 0, none⟩ = _) (h2 : c2 < W.heap.size) => pck_put_flt (Rws.below h hW) hl h1 h2)
 rw [show Pck.putOf (Pck.OkFlt l) (Pck.flt l) = Pck.putFlt l from rfl] at PP
 generalize Pck.putFlt l = res at *
 generalize decide (Pck.OkFlt l) = t at *
 obtain ⟨rb, re⟩ := res
 dsimp only at PP ⊢
 generalize mk rb = B at *
 clear h hl hb
 go_enter Try.func26, Try.ntmps26
 go_wp2_with fail
 refine VI.out.mono ?_
 rintro e w1 ⟨rfl, b1⟩
 have B1 := Lib.hid b1
 clear b1
 go_wp2_with fail
 refine (LI.out _).mono ?_
 rintro e w2 ⟨c2, rfl, -, h3, b2⟩
 have B2 := Lib.hid (B1.out.trans (b2.mono B1.out.size))
 have R2 := Lib.hid h3
 clear h3 b2
 go_wp2_with fail
 refine (PP.out _ B2.out _ (R2.out.at 0) R2.out.inHeap).mono ?_
 rintro e w3 ⟨rfl, b3⟩
 have B3 := Lib.hid (B2.out.trans (b3.mono B2.out.size))
 clear b3
 go_wp2_with fail
 go_ret2
 exact ⟨rfl, B3.out⟩
theorem pck_get_flt (FO : FilterOk) (s : List UInt8) (hs : s.length ≤ 140737488355328) {w : World} {c2 : Nat} (hc2 : w.cell? ⟨c2, 0, none⟩ = some (.func (.func 69) #[] #[])) (hcw : c2 < w.heap.size) :
  Calls Try.prog 67 #[.string (mk s), .func (.func 104) #[] #[.pointer (some ⟨c2, 0, none⟩)], .func (.func 26) #[] #[]] w fun e w' => (∃ v, e = .returned (.tuple #[v, .int .i64 (Pck.getFlt s).2]) ∧ Cls w' (NewIn w w') v (Pck.getFlt s).1) ∧ Below w.heap.size w w' := by
 by_cases hbig : 65536 < s.length
 ·have hE : Pck.getFlt s = ([], 6) := if_pos hbig
  have hsz : decide ((65536 : Int) < ((mk s).size : Int)) = true := decide_eq_true (by rw [mk_len]; omega)
  rw [hE]
  clear hE hbig hs hc2 hcw
  generalize mk s = S at *
  go_enter Try.func67, Try.ntmps67
  go_wp2_with fail
  go_ret2
  exact ⟨⟨_, rfl, Rws.none _ _ _⟩, Below.refl _ _⟩
 ·have hsz : decide ((65536 : Int) < ((mk s).size : Int)) = false := decide_eq_false (by rw [mk_len]; omega)
  have hsl : s.length ≤ 65536 := by omega
  have OV := Lib.hid (fun W => pck_over s W)
  have RD := Lib.hid (fun (W : World) (p : Nat) (h : RdL W p s 0) (h2 : W.cell? ⟨c2, 0, none⟩ = _) (h3 : c2 ≠ p) => pck_list_cl h h2 h3 (by omega))
  have HQ := Lib.hid (And.intro hc2 hcw)
  rw [show Pck.list Pck.rdCl s 0 = Pck.rdFlt s 0 from rfl] at RD
  have PW := Lib.hid (fun (W : World) (F : Nat → Prop) (v : Value) (h : Cls W F v (Pck.rdFlt s 0).1) => pck_PutFilter FO h (Nat.le_trans (Pck.rdFlt_len s 0) (by omega)) (fun x hx => Pck.nnC_bd (Pck.rdFlt_nn s 0 x hx) (by omega)))
  have hG : Pck.getFlt s = if (Pck.putFlt (Pck.rdFlt s 0).1).2 = 0 ∧ (Pck.putFlt (Pck.rdFlt s 0).1).1 = s then ((Pck.rdFlt s 0).1, 0) else ([], 6) := if_neg hbig
  generalize Pck.putFlt (Pck.rdFlt s 0).1 = pp at *
  generalize Pck.rdFlt s 0 = rr at *
  obtain ⟨X, lr, er⟩ := rr
  obtain ⟨ab, r⟩ := pp
  dsimp only at hG RD PW
  have hS : (((mk ab).toList == (mk s).toList) = decide (ab = s)) := by
   rw [Lib.toList_data, Lib.toList_data, mk_data, mk_data]
   rw [Bool.eq_iff_iff, beq_iff_eq, decide_eq_true_iff]
  have hS2 : (((mk ab).toList != (mk s).toList) = !decide (ab = s)) := by
   unfold bne
   rw [hS]
  by_cases hr0 : r = 0
  ·by_cases hab : ab = s
   ·rw [if_pos ⟨hr0, hab⟩] at hG
    rw [hG]
    rw [decide_eq_true hab] at hS hS2
    have hrr : (r != 0) = false := by rw [hr0]; rfl
    clear hG hr0 hab hbig hs hsl hc2 hcw
    rw [Bool.not_true] at hS2
    generalize mk ab = AB at *
    generalize mk s = S at *
    go_enter Try.func67, Try.ntmps67
    go_wp2_with fail
    refine (OV.out _).mono ?_
    rintro e w1 ⟨p, rfl, h1, hp, b1⟩
    have D1 := Lib.hid h1
    have B1 := Lib.hid b1
    have HP := Lib.hid hp
    clear h1 b1 hp
    go_wp2_with fail
    refine (RD.out _ _ D1.out ((B1.out.cell (p := ⟨c2, 0, none⟩) HQ.out.2).trans HQ.out.1) (by have := HP.out; have := HQ.out.2; omega)).mono ?_
    rintro e w2 ⟨v, rfl, h2, -, g2⟩
    have B2 := Lib.hid (gb_out B1.out g2 HP.out)
    have U2 := Lib.hid (h2.mono (G := NewIn w w2) (fun i hi => ⟨Nat.le_trans B1.out.size hi.1, hi.2⟩))
    clear h2 g2
    go_wp2_with fail
    refine (PW.out _ _ _ U2.out).mono ?_
    rintro e w3 ⟨rfl, b3⟩
    have B3 := Lib.hid (B2.out.trans (b3.mono B2.out.size))
    have U3 := Lib.hid ((Rws.below U2.out b3).mono (G := NewIn w w3) (fun i hi => ⟨hi.1, Nat.lt_of_lt_of_le hi.2 b3.size⟩))
    clear b3
    go_wp2_with fail
    go_ret2
    exact ⟨⟨_, rfl, U3.out⟩, B3.out⟩
   ·rw [if_neg (fun h => hab h.2)] at hG
    rw [hG]
    rw [decide_eq_false hab] at hS hS2
    have hrr : (r != 0) = false := by rw [hr0]; rfl
    clear hG hr0 hab hbig hs hsl hc2 hcw
    rw [Bool.not_false] at hS2
    generalize mk ab = AB at *
    generalize mk s = S at *
    go_enter Try.func67, Try.ntmps67
    go_wp2_with fail
    refine (OV.out _).mono ?_
    rintro e w1 ⟨p, rfl, h1, hp, b1⟩
    have D1 := Lib.hid h1
    have B1 := Lib.hid b1
    have HP := Lib.hid hp
    clear h1 b1 hp
    go_wp2_with fail
    refine (RD.out _ _ D1.out ((B1.out.cell (p := ⟨c2, 0, none⟩) HQ.out.2).trans HQ.out.1) (by have := HP.out; have := HQ.out.2; omega)).mono ?_
    rintro e w2 ⟨v, rfl, h2, -, g2⟩
    have B2 := Lib.hid (gb_out B1.out g2 HP.out)
    have U2 := Lib.hid (h2.mono (G := NewIn w w2) (fun i hi => ⟨Nat.le_trans B1.out.size hi.1, hi.2⟩))
    clear h2 g2
    go_wp2_with fail
    refine (PW.out _ _ _ U2.out).mono ?_
    rintro e w3 ⟨rfl, b3⟩
    have B3 := Lib.hid (B2.out.trans (b3.mono B2.out.size))
    have U3 := Lib.hid ((Rws.below U2.out b3).mono (G := NewIn w w3) (fun i hi => ⟨hi.1, Nat.lt_of_lt_of_le hi.2 b3.size⟩))
    clear b3
    go_wp2_with fail
    go_ret2
    exact ⟨⟨_, rfl, Rws.none _ _ _⟩, B3.out⟩
  ·rw [if_neg (fun h => hr0 h.1)] at hG
   rw [hG]
   have hrr : (r != 0) = true := by simpa using hr0
   clear hG hr0 hbig hs hsl hS hS2 hc2 hcw
   generalize mk ab = AB at *
   generalize mk s = S at *
   go_enter Try.func67, Try.ntmps67
   go_wp2_with fail
   refine (OV.out _).mono ?_
   rintro e w1 ⟨p, rfl, h1, hp, b1⟩
   have D1 := Lib.hid h1
   have B1 := Lib.hid b1
   have HP := Lib.hid hp
   clear h1 b1 hp
   go_wp2_with fail
   refine (RD.out _ _ D1.out ((B1.out.cell (p := ⟨c2, 0, none⟩) HQ.out.2).trans HQ.out.1) (by have := HP.out; have := HQ.out.2; omega)).mono ?_
   rintro e w2 ⟨v, rfl, h2, -, g2⟩
   have B2 := Lib.hid (gb_out B1.out g2 HP.out)
   have U2 := Lib.hid (h2.mono (G := NewIn w w2) (fun i hi => ⟨Nat.le_trans B1.out.size hi.1, hi.2⟩))
   clear h2 g2
   go_wp2_with fail
   refine (PW.out _ _ _ U2.out).mono ?_
   rintro e w3 ⟨rfl, b3⟩
   have B3 := Lib.hid (B2.out.trans (b3.mono B2.out.size))
   have U3 := Lib.hid ((Rws.below U2.out b3).mono (G := NewIn w w3) (fun i hi => ⟨hi.1, Nat.lt_of_lt_of_le hi.2 b3.size⟩))
   clear b3
   go_wp2_with fail
   go_ret2
   exact ⟨⟨_, rfl, Rws.none _ _ _⟩, B3.out⟩
theorem pck_GetFilter (FO : FilterOk) (s : List UInt8) (hs : s.length ≤ 140737488355328) (w : World) :
  Calls Try.prog 29 #[.string (mk s)] w fun e w' => (∃ v, e = .returned (.tuple #[v, .int .i64 (Pck.getFlt s).2]) ∧ Cls w' (NewIn w w') v (Pck.getFlt s).1) ∧ Below w.heap.size w w' := by
 have GT := Lib.hid (fun (W : World) (c2 : Nat) (h1 : W.cell? ⟨c2, 0, none⟩ = _) (h2 : c2 < W.heap.size) => pck_get_flt FO s hs h1 h2)
 have LI := Lib.hid (fun W => pck_rlist_cl W)
 generalize Pck.getFlt s = g at *
 obtain ⟨X, r⟩ := g
 clear hs
 generalize mk s = S at *
 dsimp only at GT ⊢
 go_enter Try.func29, Try.ntmps29
 go_wp2_with fail
 refine (LI.out _).mono ?_
 rintro e w1 ⟨c2, rfl, h1, b1⟩
 have R1 := Lib.hid h1
 have B1 := Lib.hid b1
 clear h1 b1
 go_wp2_with fail
 refine (GT.out _ _ (R1.out.at 0) R1.out.inHeap).mono ?_
 rintro e w2 ⟨⟨v, rfl, h2⟩, b2⟩
 have B2 := Lib.hid (B1.out.trans (b2.mono B1.out.size))
 have U2 := Lib.hid (h2.mono (G := NewIn w w2) (fun i hi => ⟨Nat.le_trans B1.out.size hi.1, hi.2⟩))
 clear h2 b2
 go_wp2_with fail
 go_ret2
 exact ⟨⟨_, rfl, U2.out⟩, B2.out⟩
open Go.RowKit
theorem one_byte (W : World) (g : Nat) (hg : g < 256) :
  (convert 128 9 (.slice (some ⟨W.heap.size, 0, none⟩) 1 1)).run Try.prog (W.alloc (.cells #[.int .u8 (g : Int)] 5)) = .ok (.string ⟨#[UInt8.ofNat g]⟩) (W.alloc (.cells #[.int .u8 (g : Int)] 5)) := by
 refine run_convert_bytes_back (P := Try.prog) _ 128 9 5 ⟨W.heap.size, 0, none⟩ 1 [UInt8.ofNat g] Try.underlying128 Try.underlying5 Try.underlying9 (fun j hj => ?_)
 have hj0 : j = 0 := by simpa using hj
 subst hj0
 have := (Row.made W 5 #[.int .u8 (g : Int)]).at 0
 rw [show (⟨W.heap.size, 0, none⟩ : Addr).add 0 = ⟨W.heap.size, 0, none⟩ from rfl, this]
 simp only [List.getElem_cons_zero, Leb.toNat_ofNat g hg]
 rfl
def RefLoop (w : World) (l : List UInt8) (out : ByteArray) (m : Nat) (wr : World) : Prop :=
 ∃ f, m < 128 ^ (f + 1) ∧ f ≤ 8 ∧ out.data.toList ++ Leb.encF f m = l ∧ Below w.heap.size w wr
theorem ref_number (n : Nat) (w : World) (hn : n < 9223372036854775808) :
  Calls Try.prog 41 #[.int .i64 n] w fun e w' => e = .returned (.string ⟨(Leb.enc n).toArray⟩) ∧ Below w.heap.size w w' := by
 have h0 : RefLoop w (Leb.enc n) ⟨#[]⟩ n w := ⟨8, by simpa using hn, by omega, rfl, Below.refl _ _⟩
 clear hn
 go_enter Try.func41, Try.ntmps41
 go_wp2
 go_loopw [0, 3] (fun x o wr => ∃ (m : Nat) (out : ByteArray), x = .int .i64 m ∧ o = .string out ∧ m ≤ n ∧ RefLoop w (Leb.enc n) out m wr) (fun x _ _ => (intOf x).toNat)
 case atStart => exact ⟨n, ⟨#[]⟩, rfl, rfl, Nat.le_refl _, h0⟩
 case round =>
  obtain ⟨m, out, rfl, rfl, hm, f, hf, hf8, hout, hbel⟩ := hrel
  have hol : out.size ≤ 9 := by
   have h1 := (Leb.enc_len n).2
   rw [← hout, List.length_append, ← Lib.size_eq] at h1
   omega
  have hmm : (m : Int) ≤ 9223372036854775807 := by
   have : (128 : Nat) ^ (f + 1) ≤ 128 ^ 9 := Nat.pow_le_pow_right (by omega) (by omega)
   have h9 : (128 : Nat) ^ 9 = 9223372036854775808 := by decide
   omega
  have Hf := Lib.hid hf
  have Hout := Lib.hid hout
  clear hf hout
  by_cases hbig : 127 < m
  ·obtain ⟨g, hg⟩ : ∃ g : Nat, g = m % 128 + 128 := ⟨_, rfl⟩
   have hg1 : g < 256 := by omega
   have hgi : (m : Int) % 128 + 128 = (g : Int) := by omega
   have hconv := one_byte wr g hg1
   have Hg := Lib.hid hg
   clear hg
   have hnew : RefLoop w (Leb.enc n) (out ++ ⟨#[UInt8.ofNat g]⟩) (m / 128) (wr.alloc (.cells #[.int .u8 (g : Int)] 5)) := by
    have h1 := Hf.out
    have h2 := Hout.out
    cases f with
    | zero => simp at h1; omega
    | succ f =>
     refine ⟨f, ?_, by omega, ?_, hbel.alloc hbel.size _⟩
     ·rw [Nat.div_lt_iff_lt_mul (by omega), ← Nat.pow_succ]; exact h1
     ·rw [← h2, Leb.encF, if_neg (by omega), Hg.out]; simp [ByteArray.data_append]
   have Hnew := Lib.hid hnew
   clear hnew
   go_wp2
   go_roundw
   case rel => exact ⟨m / 128, _, by simp, rfl, by omega, Hnew.out⟩
   case measure => simp [intOf]; omega
  ·have hconv := one_byte wr m (by omega)
   have hfin : Hid ((out ++ ⟨#[UInt8.ofNat m]⟩ : ByteArray) = ⟨(Leb.enc n).toArray⟩) := by
    have h2 := Hout.out
    have he : Leb.encF f m = [UInt8.ofNat m] := by
     cases f with
     | zero => rfl
     | succ f => rw [Leb.encF, if_pos (by omega)]
    rw [he] at h2
    refine bytes_ext ?_
    rw [← h2]; simp [ByteArray.data_append]
   go_wp2
   go_ret
   refine ⟨?_, hbel.alloc hbel.size _⟩
   rw [← hfin.out]; rfl
theorem ref_text (s : ByteArray) (w : World) (hs : s.size ≤ 281474976710656) :
  Calls Try.prog 42 #[.string s] w fun e w' => e = .returned (.string ⟨(Leb.enc s.size ++ s.data.toList).toArray⟩) ∧ Below w.heap.size w w' := by
 have hl := (Leb.enc_len s.size).2
 have hz : (⟨(Leb.enc s.size).toArray⟩ : ByteArray).size ≤ 9 := by rw [mk_size]; exact hl
 have hfin : Hid ((⟨(Leb.enc s.size).toArray⟩ ++ s : ByteArray) = ⟨(Leb.enc s.size ++ s.data.toList).toArray⟩) := bytes_ext (by simp [ByteArray.data_append])
 have hnum : Hid (∀ W, Calls Try.prog 41 #[.int .i64 s.size] W fun e w' => e = .returned (.string ⟨(Leb.enc s.size).toArray⟩) ∧ Below W.heap.size W w') := fun W => ref_number s.size W (by omega)
 generalize (⟨(Leb.enc s.size).toArray⟩ : ByteArray) = t at *
 go_enter Try.func42, Try.ntmps42
 go_wp2_with (go_at_call 41; refine (hnum.out _).mono ?_; rintro e w' ⟨rfl, hb⟩)
 go_ret
 refine ⟨?_, hb⟩
 rw [← hfin.out]; rfl
open Go.RowKit Go.Sort
theorem ref_num (n : Int) (hn : Ver.I64 n) (w : World) :
  Calls Try.prog 41 #[.int .i64 n] w fun e w' => e = .returned (.string (mk (Pck.numR n))) ∧ Below w.heap.size w w' := by
 by_cases h0 : 0 ≤ n
 ·have := ref_number n.toNat w (by have := hn.2; omega)
  rw [Int.toNat_of_nonneg h0] at this
  unfold Pck.numR
  rw [if_pos h0]
  exact this
 ·have hE : Hid (mk (Pck.numR n) = ⟨#[UInt8.ofNat (n % 256).toNat]⟩) := Lib.hid (by unfold Pck.numR; rw [if_neg h0]; rfl)
  obtain ⟨m, hm⟩ : ∃ m : Nat, m = (n % 256).toNat := ⟨_, rfl⟩
  have hmi : n % 256 = (m : Int) := by omega
  have hm2 : m < 256 := by omega
  have hd : decide ((127 : Int) < n) = false := decide_eq_false (by omega)
  have hd2 : ¬ (127 : Int) < n := by omega
  have hwr : IntKind.u8.wrap n = (m : Int) := by rw [← hmi]; rfl
  have hconv := one_byte w m hm2
  rw [hE.out, ← hm]
  have hb := Lib.hid ((Below.refl w.heap.size w).alloc (Nat.le_refl _) (.cells #[.int .u8 (m : Int)] 5))
  have hfin : Hid ((⟨#[]⟩ ++ ⟨#[UInt8.ofNat m]⟩ : ByteArray) = ⟨#[UInt8.ofNat m]⟩) := Lib.hid (bytes_ext (by simp [ByteArray.data_append]))
  clear hn h0 hm hm2 hE
  go_enter Try.func41, Try.ntmps41
  go_wp2
  refine wp_loop_rounds 1 ?_
  rw [rounds_succ]
  go_wp2
  go_ret
  exact ⟨by first | rfl | (rw [← hfin.out]; rfl), hb.out⟩
theorem ref_txt (t : List UInt8) (ht : t.length ≤ 281474976710656) (w : World) :
  Calls Try.prog 42 #[.string (mk t)] w fun e w' => e = .returned (.string (mk (Pck.txt t))) ∧ Below w.heap.size w w' := by
 have := ref_text (mk t) w (by rw [mk_len]; exact ht)
 rw [mk_len, mk_data] at this
 exact this
open Go.RowKit Go.Sort
theorem ref_pflt {w : World} {F : Nat → Prop} {v : Value} {l : List (Flt.Cl)} (h : Cls w F v l) (hl : l.length ≤ 100000) (hb : ∀ x ∈ l, Pck.SmC x) :
  Calls Try.prog 28 #[v] w fun e w' => e = .returned (.string (mk (Pck.lst Pck.clR l))) ∧ Below w.heap.size w w' := by
 have mixed : Try.prog.follows .mixedOrders = true := by kernel_rfl
 obtain ⟨A, cap, rfl, hcap⟩ := h.parts
 have H := Lib.hid h
 have hl' : (l.length : Int) ≤ 100000 := by omega
 have HB := Lib.hid hb
 have HL := Lib.hid hl
 have HLN := Lib.hid (fun n : Nat => Pck.acc_len (f := Pck.clR) (l := l) (m := 1027) (k := 100000) (fun y hy => Pck.clR_len y (hb y hy)) hl n)
 have NU : Hid (∀ W : World, Calls Try.prog 41 #[.int .i64 (l.length : Int)] W fun e w' => e = .returned (.string (mk (Pck.acc Pck.clR l 0))) ∧ Below W.heap.size W w') := Lib.hid (fun W => by have := ref_num (l.length : Int) ⟨by omega, by omega⟩ W; rwa [Pck.acc_zero Pck.clR l] at this)
 clear h hl hb hcap
 go_enter Try.func28, Try.ntmps28
 go_wp2_with fail
 refine (NU.out _).mono ?_
 rintro e w1 ⟨rfl, b1⟩
 have B1 := Lib.hid b1
 clear b1
 go_wp2_with fail
 go_loopw [3, 4] (fun s i wr => ∃ n : Nat, n ≤ l.length ∧ i = .int .i64 (n : Int) ∧ s = .string (mk (Pck.acc Pck.clR l n)) ∧ Below w.heap.size w wr) (fun _ i _ => l.length - (intOf i).toNat)
 case atStart => exact ⟨0, Nat.zero_le _, rfl, rfl, B1.out⟩
 case round =>
  obtain ⟨n, hn, rfl, rfl, hbel⟩ := hrel
  by_cases hlt : n < l.length
  ·obtain ⟨be, oe, cap1, e, -, -, hb⟩ := H.out.block (by omega)
   injection e with e1 e2 e3
   subst e1 e3
   clear e2 hb
   obtain ⟨x, hx⟩ : ∃ x, l[n]? = some x := ⟨_, List.getElem?_eq_getElem hlt⟩
   have hxb := HB.out x (List.mem_of_getElem? hx)
   have hnn0 : (0 : Int) ≤ (n : Int) := by omega
   have hnn1 : (n : Int) < (l.length : Int) := by omega
   have hlen1 : (Pck.acc Pck.clR l n).length ≤ 9 + 100000 * (1027 + 9) := HLN.out n
   have hnext : Hid (mk (Pck.acc Pck.clR l n) ++ mk (Pck.txt (Pck.clR x)) = mk (Pck.acc Pck.clR l (n + 1))) := Lib.hid (by rw [mk_append, Pck.acc_next hx])
   have hxl : (Pck.clR x).length ≤ 1027 := Pck.clR_len x hxb
   have htl := Pck.txt_len (Pck.clR x)
   rw [← mk_len] at hlen1 htl
   have TX := Lib.hid (fun W => ref_txt (Pck.clR x) (by omega) W)
   have XC := Lib.hid (fun (W : World) (hW : InB wr W) => (Cls.at (Rws.below (Rws.below H.out hbel) hW.below) hx : _))
   have HBL := Lib.hid hbel
   have Hlt := Lib.hid hlt
   clear hbel hlt hn
   generalize mk (Pck.acc Pck.clR l n) = acc at *
   have hpl := hxb.1
   have TP := Lib.hid (fun W => ref_txt x.pre (by omega) W)
   have NL := Lib.hid (fun W => ref_num x.lo ⟨hxb.2.2.1, hxb.2.2.2.1⟩ W)
   have NH := Lib.hid (fun W => ref_num x.hi ⟨hxb.2.2.2.2.1, hxb.2.2.2.2.2⟩ W)
   have hcat : mk (Pck.clR x) = mk (Pck.txt x.pre) ++ mk (Pck.numR x.lo) ++ mk (Pck.numR x.hi) := by rw [mk_append, mk_append, List.append_assoc]; rfl
   have s1 := Pck.txt_len x.pre
   have s2 := Pck.numR_len x.lo
   have s3 := Pck.numR_len x.hi
   rw [← mk_len] at s1 s2 s3
   rw [hcat] at TX
   clear hcat hxb hx
   generalize hz : mk (Pck.txt (Pck.clR x)) = tt at *
   clear hz
   obtain ⟨pp, x1, x2⟩ := x
   dsimp only at TP NL NH TX XC s1 s2 s3 hpl
   generalize mk (Pck.txt pp) = p1 at *
   generalize mk (Pck.numR x1) = b1 at *
   generalize mk (Pck.numR x2) = c1 at *
   generalize mk pp = q at *
   have n1 : ¬ 9223372036854775807 < acc.size + tt.size := by omega
   have n2 : ¬ 9223372036854775807 < p1.size + b1.size := by omega
   have n3 : ¬ 9223372036854775807 < p1.size + b1.size + c1.size := by omega
   clear hxl htl hlen1 s1 s2 s3 hpl
   go_wp2_with fail
   refine wp_region_below (by assumption) (by kernel_rfl) ?_
   repeat ((first
    | (refine wq_skip (by rfl) ?_)
    | (refine wq_take (v := ?_) (by kernel_rfl) (by intro w hSw; obtain ⟨c0, c1, c2⟩ := XC.out w hSw; go_simp; first | done | with_reducible rfl) ?_)
    | (refine wq_call (by kernel_rfl) ?hent (fun w hSw => inB_calls hSw (TP.out w)) ?_; (case hent => (intro w hSw; go_simp; done)))
    | (refine wq_call (by kernel_rfl) ?hent (fun w hSw => inB_calls hSw (NL.out w)) ?_; (case hent => (intro w hSw; go_simp; done)))
    | (refine wq_call (by kernel_rfl) ?hent (fun w hSw => inB_calls hSw (NH.out w)) ?_; (case hent => (intro w hSw; go_simp; done)))
    | (refine wq_call (by kernel_rfl) ?hent (fun w hSw => inB_calls hSw (TX.out w)) ?_; (case hent => (intro w hSw; go_simp; done)))); (try simp only [zz]))
   refine wq_nil ?_
   intro wq hq
   have B9 := Lib.hid (HBL.out.trans (hq.below.mono HBL.out.size))
   clear hq
   go_wp2_with fail
   go_roundw
   case rel => exact ⟨n + 1, by have := Hlt.out; omega, by go_num, congrArg Value.string hnext.out, B9.out⟩
   case measure => (have := Hlt.out; simp [intOf]; omega)
  ·obtain rfl : n = l.length := by omega
   have HBL := Lib.hid hbel
   have hE : Hid (mk (Pck.acc Pck.clR l l.length) = mk (Pck.lst Pck.clR l)) := Lib.hid (by rw [Pck.acc_all])
   clear hbel hlt hn
   generalize mk (Pck.acc Pck.clR l l.length) = acc at *
   go_wp2_with fail
   go_ret
   exact ⟨by rw [← hE.out]; rfl, HBL.out⟩
theorem ref_pclauses {w : World} {F : Nat → Prop} {v : Value} {l : List Flt.Cl} (h : Cls w F v l) (hl : l.length ≤ 1000000) (hb : ∀ c ∈ l, c.pre.length ≤ 100000) :
  Calls Try.prog 27 #[v] w fun e w' => e = .returned (.bool (decide (Pck.OkFlt l))) ∧ Below w.heap.size w w' := by
 obtain ⟨A, cap, rfl, hcap⟩ := h.parts
 have H := Lib.hid h
 have hl' : (l.length : Int) ≤ 1000000 := by omega
 have P1 := Lib.hid (fun (x : Flt.Cl) (hx : x ∈ l) (W : World) => ref_fright x W (hb x hx))
 clear h hb
 go_enter Try.func27, Try.ntmps27
 go_wp2_with fail
 go_loopw [3] (fun i wr => ∃ n : Nat, n ≤ l.length ∧ i = .int .i64 (n : Int) ∧ Hid (∀ x ∈ l.take n, Flt.Right x) ∧ Below w.heap.size w wr) (fun i _ => l.length - (intOf i).toNat)
 case atStart => exact ⟨0, Nat.zero_le _, rfl, Lib.hid (by simp), Below.refl _ _⟩
 case round =>
  obtain ⟨n, hn, rfl, hall, hbel⟩ := hrel
  by_cases hlt : n < l.length
  ·obtain ⟨b, o, cap1, e, -, -, hb⟩ := H.out.block (by omega)
   injection e with e1 e2 e3
   subst e1 e3
   clear e2
   obtain ⟨x, hx⟩ : ∃ x, l[n]? = some x := ⟨_, List.getElem?_eq_getElem hlt⟩
   obtain ⟨d0, d1, d2⟩ := Cls.at (Rws.below H.out hbel) hx
   have hn0 : (0 : Int) ≤ (n : Int) := by omega
   have hn1 : (n : Int) < (l.length : Int) := by omega
   have PX := P1.out x (List.mem_of_getElem? hx) wr
   have HBL := Lib.hid hbel
   have Hlt := Lib.hid hlt
   clear hb hlt hn hbel
   by_cases hr : Flt.Right x
   ·rw [decide_eq_true hr] at PX
    have hnext : Hid (∀ y ∈ l.take (n + 1), Flt.Right y) := Lib.hid (by
     obtain ⟨h1, e1⟩ := List.getElem?_eq_some_iff.1 hx
     intro y hy
     rw [List.take_succ_eq_append_getElem h1, e1] at hy
     rcases List.mem_append.1 hy with hy | hy
     ·exact hall.out y hy
     ·rw [List.mem_singleton.1 hy]; exact hr)
    replace PX := Lib.hid PX
    clear hx hr hall
    obtain ⟨p, x1, x2⟩ := x
    dsimp only at PX d0 d1 d2
    generalize mk p = q at *
    go_wp2_with fail
    refine (PX.out).mono ?_
    rintro e w1 ⟨rfl, hb1⟩
    have HB1 := Lib.hid (HBL.out.trans (hb1.mono HBL.out.size))
    clear hb1
    go_wp2_with fail
    go_roundw
    case rel => exact ⟨n + 1, by have := Hlt.out; omega, by go_num, hnext, HB1.out⟩
    case measure => (have := Hlt.out; simp [intOf]; omega)
   ·rw [decide_eq_false hr] at PX
    have hno : Hid (decide (Pck.OkFlt l) = false) := Lib.hid (decide_eq_false (fun h => hr (h.2 x (List.mem_of_getElem? hx))))
    replace PX := Lib.hid PX
    clear hx hr hall
    obtain ⟨p, x1, x2⟩ := x
    dsimp only at PX d0 d1 d2
    generalize mk p = q at *
    go_wp2_with fail
    refine (PX.out).mono ?_
    rintro e w1 ⟨rfl, hb1⟩
    have HB1 := Lib.hid (HBL.out.trans (hb1.mono HBL.out.size))
    clear hb1
    go_wp2_with fail
    go_ret
    exact ⟨by rw [hno.out]; rfl, HB1.out⟩
  ·obtain rfl : n = l.length := by omega
   have hyes : Hid (decide ((l.length : Int) ≤ 64) = decide (Pck.OkFlt l)) := Lib.hid (by have h1 := hall.out; rw [List.take_length] at h1; rw [decide_eq_decide]; exact ⟨fun h => ⟨by omega, h1⟩, fun h => by have := h.1; omega⟩)
   have HBL := Lib.hid hbel
   clear hall hbel hn hlt
   go_wp2_with fail
   go_ret
   exact ⟨by rw [← hyes.out]; rfl, HBL.out⟩
open Go.RowKit
theorem ref_fequal {w : World} {F G : Nat → Prop} {u v : Value} {f g : List Flt.Cl} (hf : Cls w F u f) (hg : Cls w G v g) (lf : f.length ≤ 100000000) (lg : g.length ≤ 100000000) :
  Calls Try.prog 30 #[u, v] w fun e w' => e = .returned (.bool (decide (f = g))) ∧ Below w.heap.size w w' := by
 obtain ⟨A, ca, rfl, hca⟩ := hf.parts
 obtain ⟨B, cb, rfl, hcb⟩ := hg.parts
 have HF := Lib.hid hf
 have HG := Lib.hid hg
 have la' : (f.length : Int) ≤ 100000000 := by omega
 have lb' : (g.length : Int) ≤ 100000000 := by omega
 clear hf hg
 by_cases hlen : f.length = g.length
 ·rw [← hlen]
  rw [← hlen] at HG
  have Hlen := Lib.hid hlen
  clear hlen
  go_enter Try.func30, Try.ntmps30
  go_wp2_with fail
  go_loopw [5] (fun i wr => ∃ n : Nat, n ≤ f.length ∧ i = .int .i64 (n : Int) ∧ Hid (f.take n = g.take n) ∧ Below w.heap.size w wr) (fun i _ => f.length - (intOf i).toNat)
  case atStart => exact ⟨0, Nat.zero_le _, rfl, Lib.hid (by rw [List.take_zero, List.take_zero]), Below.refl _ _⟩
  case round =>
   obtain ⟨n, hn, rfl, hsame, hbel⟩ := hrel
   by_cases hlt : n < f.length
   ·obtain ⟨b1, o1, cap1, e, -, -, hb1⟩ := HF.out.block (by omega)
    injection e with e1 e2 e3
    subst e1 e3
    obtain ⟨b2, o2, cap2, e, -, -, hb2⟩ := HG.out.block (by have := Hlen.out; omega)
    injection e with e1 e2 e3
    subst e1 e3
    clear e2
    obtain ⟨x, hx⟩ : ∃ x, f[n]? = some x := ⟨_, List.getElem?_eq_getElem hlt⟩
    obtain ⟨y, hy⟩ : ∃ y, g[n]? = some y := ⟨_, List.getElem?_eq_getElem (show n < g.length by have := Hlen.out; omega)⟩
    obtain ⟨c0, c1, c2⟩ := Cls.at (HF.out.below hbel) hx
    obtain ⟨d0, d1, d2⟩ := Cls.at (HG.out.below hbel) hy
    have hn0 : (0 : Int) ≤ (n : Int) := by omega
    have hn1 : (n : Int) < (f.length : Int) := by omega
    have Hbel := Lib.hid hbel
    clear hbel
    have es := str_same x.pre y.pre
    by_cases hxy : x = y
    ·subst hxy
     have hnext : Hid (f.take (n + 1) = g.take (n + 1)) := Lib.hid (by
      obtain ⟨h1, e1⟩ := List.getElem?_eq_some_iff.1 hx
      obtain ⟨h2, e2⟩ := List.getElem?_eq_some_iff.1 hy
      rw [List.take_succ_eq_append_getElem h1, List.take_succ_eq_append_getElem h2, e1, e2, hsame.out])
     obtain ⟨xp, x1, x2⟩ := x
     rw [decide_eq_true (rfl : xp = xp)] at es
     simp only at c0 c1 c2 d0 d1 d2 es
     clear hx hy hsame
     generalize mk xp = xs at *
     go_wp2_with fail
     go_quiet (fail)
     go_wp2_with fail
     refine ⟨⟨n + 1, by omega, rfl, hnext, Hbel.out.trans ((below_drews' wr nq).mono Hbel.out.size)⟩, ?_⟩
     show f.length - ((n : Int) + 1).toNat < f.length - (n : Int).toNat
     omega
    ·have hne : Hid (¬ f = g) := Lib.hid (fun e => hxy (by rw [e, hy] at hx; injection hx with hx; exact hx.symm))
     obtain ⟨xp, x1, x2⟩ := x
     obtain ⟨yp, y1, y2⟩ := y
     have hxy' : xp = yp → x1 = y1 → ¬ x2 = y2 := fun h k l => hxy (by rw [h, k, l])
     simp only at c0 c1 c2 d0 d1 d2 es
     clear hx hy hsame hxy
     by_cases h0 : xp = yp
     ·have hxy2 := hxy' h0
      subst h0
      rw [decide_eq_true (rfl : xp = xp)] at es
      clear hxy'
      generalize mk xp = xs at *
      by_cases h1 : x1 = y1
      ·have h2 := hxy2 h1
       subst h1
       clear hxy2
       go_wp2_with fail
       go_quiet (fail)
       go_wp2_with fail
       go_ret
       exact ⟨by rw [decide_eq_false hne.out]; rfl, Hbel.out.trans ((below_drews' wr nq).mono Hbel.out.size)⟩
      ·clear hxy2
       go_wp2_with fail
       go_quiet (fail)
       go_wp2_with fail
       go_ret
       exact ⟨by rw [decide_eq_false hne.out]; rfl, Hbel.out.trans ((below_drews' wr nq).mono Hbel.out.size)⟩
     ·rw [decide_eq_false h0] at es
      clear hxy' h0
      generalize mk xp = xs at *
      generalize mk yp = ys at *
      go_wp2_with fail
      go_quiet (fail)
      go_wp2_with fail
      go_ret
      exact ⟨by rw [decide_eq_false hne.out]; rfl, Hbel.out.trans ((below_drews' wr nq).mono Hbel.out.size)⟩
   ·obtain rfl : n = f.length := by omega
    have hab : Hid (f = g) := Lib.hid (by
     have := hsame.out
     rw [List.take_length, Hlen.out, List.take_length] at this
     exact this)
    have Hbel := Lib.hid hbel
    clear hbel hsame
    go_wp2_with fail
    go_ret
    exact ⟨by rw [decide_eq_true hab.out]; rfl, Hbel.out⟩
 ·have hlen' : ¬ ((f.length : Nat) : Int) = ((g.length : Nat) : Int) := by omega
  have hne : Hid (¬ f = g) := Lib.hid (fun e => hlen (by rw [e]))
  clear hlen
  go_enter Try.func30, Try.ntmps30
  go_wp2_with fail
  go_ret
  exact ⟨by rw [decide_eq_false hne.out]; rfl, Below.refl _ _⟩
end Go.Proofs.Ytmpajhjfnfcdlaa
