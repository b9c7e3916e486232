/- What the package iset is to answer to layer 14's laws and those above (IsetOk). -/
import Derived.Test.YtnpnjophlajfkaaIsetMath
import Derived.Test.YtnpnjophlajfkaaVerOk
namespace Go.Proofs.Ytnpnjophlajfkaa
open Go.RowKit

structure IsetOk : Prop where
  ofl : ∀ {w : World} {F : Nat → Prop} {v : Value} {l : List Ver.V}, Vrs w F v l → l.length ≤ 1000000 → Calls Try.prog 12 #[v] w fun e w' => ∃ v', e = .returned v' ∧ Vrs w' (NewIn w w') v' (Ver.sort l) ∧ Below w.heap.size w w'
  has : ∀ {w : World} {F : Nat → Prop} {v : Value} {l : List Ver.V} (x : Ver.V), Vrs w F v l → l.length ≤ 1000000 → Calls Try.prog 13 #[v, verA x] w fun e w' => e = .returned (.bool (decide (x ∈ l))) ∧ Below w.heap.size w w'
  put : ∀ {w : World} {F : Nat → Prop} {v : Value} {l : List Ver.V} (x : Ver.V), Vrs w F v l → l.length ≤ 500000 → Calls Try.prog 8 #[v, verA x] w fun e w' => ∃ v', e = .returned v' ∧ Vrs w' (NewIn w w') v' (Iset.put l x) ∧ Below w.heap.size w w'
  drop : ∀ {w : World} {F : Nat → Prop} {v : Value} {l : List Ver.V} (x : Ver.V), Vrs w F v l → l.length ≤ 500000 → Calls Try.prog 9 #[v, verA x] w fun e w' => ∃ v', e = .returned v' ∧ Vrs w' (NewIn w w') v' (Iset.drop l x) ∧ Below w.heap.size w w'
  join : ∀ {w : World} {F G : Nat → Prop} {u v : Value} {a b : List Ver.V}, Vrs w F u a → Vrs w G v b → a.length ≤ 500000 → b.length ≤ 500000 → Calls Try.prog 17 #[u, v] w fun e w' => ∃ v', e = .returned v' ∧ Vrs w' (NewIn w w') v' (Iset.join a b) ∧ Below w.heap.size w w'
  meet : ∀ {w : World} {F G : Nat → Prop} {u v : Value} {a b : List Ver.V}, Vrs w F u a → Vrs w G v b → a.length ≤ 1000000 → b.length ≤ 1000000 → Calls Try.prog 18 #[u, v] w fun e w' => ∃ v', e = .returned v' ∧ Vrs w' (NewIn w w') v' (Iset.meet a b) ∧ Below w.heap.size w w'
  minus : ∀ {w : World} {F G : Nat → Prop} {u v : Value} {a b : List Ver.V}, Vrs w F u a → Vrs w G v b → a.length ≤ 1000000 → b.length ≤ 1000000 → Calls Try.prog 20 #[u, v] w fun e w' => ∃ v', e = .returned v' ∧ Vrs w' (NewIn w w') v' (Iset.minus a b) ∧ Below w.heap.size w w'
  within : ∀ {w : World} {F G : Nat → Prop} {u v : Value} {a b : List Ver.V}, Vrs w F u a → Vrs w G v b → a.length ≤ 1000000 → b.length ≤ 1000000 → Calls Try.prog 21 #[u, v] w fun e w' => e = .returned (.bool (decide (Iset.Within a b))) ∧ Below w.heap.size w w'
  same : ∀ {w : World} {F G : Nat → Prop} {u v : Value} {a b : List Ver.V}, Vrs w F u a → Vrs w G v b → a.length ≤ 1000000 → b.length ≤ 1000000 → Calls Try.prog 22 #[u, v] w fun e w' => e = .returned (.bool (decide (Iset.Within a b ∧ Iset.Within b a))) ∧ Below w.heap.size w w'
end Go.Proofs.Ytnpnjophlajfkaa
