/-
  THE WALKS OF New, and of Text and List on no cursor.
-/
import Derived.Test.YtohdakjfacalbaaWKit
import Derived.Test.YtohdakjfacalbaaWCur
import Derived.Laws.AppendOwnNone
namespace Go.Proofs.Ytohdakjfacalbaa
open Go.RowKit

set_option maxRecDepth 100000 in
theorem New_any (v : Value) (bs : List UInt8) (B : Nat) (w : World) (hb : Byts w B v bs) (hbs : bs.length ≤ 1099511627776) :
    Calls Try.prog 46 #[v] w fun e w' => ∃ p v', e = .returned (.pointer (some ⟨p, 0, none⟩)) ∧ w.heap.size ≤ p ∧ HasCur w' p v' 0 ∧ Own w' w.heap.size v' bs ∧ Below w.heap.size w w' := by
  have Hl : Hid (([] : List UInt8).length + bs.length ≤ 1099511627800) := by show _ ≤ _; simp; omega
  clear hbs
  go_enter Try.func46, Try.ntmps46
  go_wp2_with (at_builtin; go_must (refine wpList_append_byts rfl (.const (.slice none 0 0)) (.tmp 3) rfl w.heap.size B _ _ [] bs rfl (Own.nil _ _) rfl hb Hl (Nat.le_refl _) ?_))
  intro v' w1 ho hg
  have hs := hg.size
  obtain ⟨ad, c, hv, _⟩ := ho.byts
  subst hv
  go_wp2
  go_ret
  refine ⟨w1.heap.size, _, rfl, hs, heap_alloc_new w1 _, ho.alloc _, ?_⟩
  exact ((Below.refl _ w).grown hg (Nat.le_refl _) (by intro k hk; simp [Value.ownBlock] at hk)).alloc hs _

end Go.Proofs.Ytohdakjfacalbaa
