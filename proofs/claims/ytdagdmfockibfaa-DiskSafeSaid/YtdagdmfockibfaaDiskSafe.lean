/- What was flushed is there: DiskSafe's walk, out of what the package is to answer (DiskOk): its memory. -/
import Derived.Test.YtdagdmfockibfaaDiskDoes
import Derived.Test.YtdagdmfockibfaaSafeMath
import Derived.Maps.OwnOps
import Derived.Maps.OwnSet
import Derived.Lib.BufferRead
namespace Go.Proofs.Ytdagdmfockibfaa
open Go.RowKit Dsk Go.Maps

theorem keyLaw : Keyed Try.prog 9 := string_keyed Try.underlying9
theorem zeroBool (w : World) : (zeroValue 4).run Try.prog w = .ok (.bool false) w := by kernel_rfl

/-- A map of texts to bools in which all of Ks are true. -/
def OnceAt (w : World) (M n : Nat) (Ks : List ByteArray) : Prop :=
  ∃ D : DataW Unit, w.ownsMap Try.prog 9 (plainElem Try.prog 4) M n D ∧ ∀ k ∈ Ks, D.atKey (.string k.data.toList) (.lit (.bool false)) = .lit (.bool true)

section
variable {w w' : World} {M n : Nat} {Ks : List ByteArray}

theorem OnceAt.start (w : World) : OnceAt (w.alloc (.map #[] 0)) w.heap.size 0 [] := ⟨_, World.ownsMap_made _ _ _ _, fun k h => by cases h⟩

theorem OnceAt.same (h : OnceAt w M n Ks) (hs : w'.heap[M]? = w.heap[M]?) : OnceAt w' M n Ks := by
  obtain ⟨D, ⟨es, clock, h1, h2⟩, h3⟩ := h
  exact ⟨D, ⟨es, clock, hs.trans h1, h2⟩, h3⟩

theorem bool_inv {v : Value} {x : Bool} {ps : List MemPlace} (h : plainElem (H := Unit) Try.prog 4 v = some (.lit (.bool x), ps)) : v = .bool x := by
  unfold plainElem at h
  rw [Try.underlying4] at h
  cases v <;> simp at h
  simp [h]

theorem OnceAt.look (h : OnceAt w M n Ks) {s : ByteArray} (hs : s ∈ Ks) (hl : s.size ≤ maxLen) : (Instr.lookup 46 (.map (some M)) (.string s) false).run Try.prog w = .ok (.bool true) w := by
  obtain ⟨D, h1, h2⟩ := h
  obtain ⟨v, ps, hrun, hv⟩ := h1.lookup keyLaw Try.underlying46 (zeroBool w) (plainElem_bool Try.underlying4 false) (Go.WideMaps.keyOf_string_mk Try.underlying9 hl)
  rw [h2 s hs] at hv
  rw [hrun, bool_inv hv]

theorem OnceAt.put (h : OnceAt w M n Ks) {s : ByteArray} (hl : s.size ≤ maxLen) (hn : n < maxLen) :
    ∃ w', (Instr.mapUpdate 46 (.map (some M)) (.string s) (.bool true)).run Try.prog w = .ok () w' ∧ OnceAt w' M (n + 1) (s :: Ks) ∧ w.grownBy w' (some M) := by
  obtain ⟨D, h1, h2⟩ := h
  have hk : Go.keyOf Try.prog 9 (.string s) = some (.string s.data.toList) := Go.WideMaps.keyOf_string_mk Try.underlying9 hl
  obtain ⟨w', hrun, h3, h4⟩ := h1.update keyLaw Try.underlying46 hn hk (plainElem_bool Try.underlying4 true)
  refine ⟨w', hrun, ⟨_, h3, fun k hk2 => ?_⟩, h4⟩
  have hm := h1.isMap
  rcases List.mem_cons.1 hk2 with e | e
  · subst e
    exact atKey_put_same hm (by trivial) _ _
  · by_cases e2 : k = s
    · subst e2
      exact atKey_put_same hm (by trivial) _ _
    · rw [atKey_put_other (fun e3 => e2 (by
        injection e3 with e3
        exact ByteArray.ext (Array.toList_inj.1 e3)))]
      exact h2 k e
end
end Go.Proofs.Ytdagdmfockibfaa
