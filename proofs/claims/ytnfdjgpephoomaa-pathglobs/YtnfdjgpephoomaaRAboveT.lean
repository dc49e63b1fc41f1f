/-
  THE WALK OF THE DOCUMENT's Above.
-/
import Derived.Test.YtnfdjgpephoomaaRParT
namespace Go.Proofs.Ytnfdjgpephoomaa
open Go.RowKit

namespace Pm
def aboveF : Nat → B → List B
  | 0, _ => []
  | f + 1, p => if (parent p).2 = true then (parent p).1 :: aboveF f (parent p).1 else []
/-- a path's parents, the nearest first -/
def above (p : B) : List B := aboveF p.length p
theorem parent_short {p : B} (h : (parent p).2 = true) : (parent p).1.length < p.length := by
  have e : parent p = ((parent p).1, true) := by rw [← h]
  have := congrArg List.length (parent_base e).2.2
  simp only [List.length_append, List.length_cons] at this
  omega
theorem aboveF_some {f : Nat} {p : B} (hf : p.length ≤ f) (h : (parent p).2 = true) : ∃ g, f = g + 1 ∧ (parent p).1.length ≤ g ∧ aboveF f p = (parent p).1 :: aboveF g (parent p).1 := by
  have hs := parent_short h
  cases f with
  | zero => omega
  | succ g => exact ⟨g, rfl, by omega, by simp [aboveF, h]⟩
theorem aboveF_none {f : Nat} {p : B} (h : (parent p).2 = false) : aboveF f p = [] := by
  cases f with
  | zero => rfl
  | succ g => simp [aboveF, h]
end Pm

/-- a text's size -/
def szOf : Value → Nat
  | .string s => s.size
  | _ => 0

set_option maxRecDepth 100000 in
set_option maxHeartbeats 4000000 in
theorem AboveT_any (s : ByteArray) (w : World) (hs : s.size ≤ 100000000) : Calls Try.prog 19 #[.string s] w fun e w' => ∃ v l, e = .returned v ∧ OwnS w' w.heap.size v l ∧ l.map bs = Pm.above (bs s) ∧ Below w.heap.size w w' := by
  go_enter Try.func19, Try.ntmps19
  go_wp2
  go_loopw [0, 3] (fun q v wr => ∃ (t : ByteArray) (f : Nat) (L : List ByteArray), q = .string t ∧ OwnS wr w.heap.size v L ∧ Below w.heap.size w wr ∧ L.map bs ++ Pm.aboveF f (bs t) = Pm.above (bs s) ∧ t.size ≤ f ∧ L.length + f = s.size) (fun q _ _ => szOf q)
  case atStart => exact ⟨s, s.size, [], rfl, OwnS.nil _ _, Below.refl _ _, by simp [Pm.above], Nat.le_refl _, by simp⟩
  case round =>
    obtain ⟨t, f, L, rfl, hO, hBe, hL, hf, hLf⟩ := hrel
    have HL : Hid _ := hL
    clear hL
    go_wp2_with fail
    refine (ParentT_any t wr (by omega)).mono ?_
    rintro e w1 ⟨⟨q, rfl, hq⟩, hB1⟩
    have hB2 := hBe.trans (hB1.mono hBe.size)
    have hO1 := hO.below hB1 (Nat.le_refl _)
    by_cases hok : (Pm.parent (bs t)).2 = true
    · obtain ⟨g, hg, hgl, hab⟩ := Pm.aboveF_some (f := f) (by rw [bs_length]; exact hf) hok
      have hsh := Pm.parent_short hok
      rw [hok]
      rw [← hq] at hab hgl hsh
      rw [bs_length] at hgl hsh
      rw [bs_length] at hsh
      have HAB : Hid _ := hab
      clear hok hq hab hO
      have HLt := strs_lit w1 q
      have hOa := OwnS.alloc hO1 (.cells #[.string q] 9)
      have hBa := hB2.alloc hB2.size (.cells #[.string q] 9)
      have Hx : Hid (L.length + [q].length ≤ 1099511627) := by show _ ≤ _; simp only [List.length_cons, List.length_nil]; omega
      obtain ⟨vd, vc, rfl, -⟩ := hO1.strs
      go_wp2_with (at_builtin; go_must (refine wpList_append_strs rfl _ _ rfl w.heap.size (w1.heap.size + 1) _ _ L [q] rfl hOa rfl HLt Hx hBa.size ?_))
      intro v' w' h1 h2
      have hB3 := hBa.grown h2 hBa.size fun g e => (World.ownsRow.lt hOa g e).1
      clear HLt hOa hBa hO1 h2
      go_wp2
      refine ⟨⟨q, g, L ++ [q], rfl, h1, hB3, ?_, by omega, by simp; omega⟩, ?_⟩
      · rw [← HL.out, HAB.out]; simp
      · simp only [szOf]; exact hsh
    · rw [Bool.not_eq_true] at hok
      have HAB : Hid _ := Pm.aboveF_none (f := f) hok
      rw [hok]
      clear hok hq hO
      go_wp2
      go_ret
      refine ⟨_, L, rfl, hO1, ?_, hB2⟩
      rw [← HL.out, HAB.out, List.append_nil]

end Go.Proofs.Ytnfdjgpephoomaa
