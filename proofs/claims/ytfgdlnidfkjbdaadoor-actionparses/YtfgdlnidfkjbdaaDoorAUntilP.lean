/-
  ahead of the document's Until.
-/
import Derived.Test.YtfgdlnidfkjbdaaDoorACheckT
import Derived.Test.YtfgdlnidfkjbdaaDoorLiOwn
import Derived.Test.YtfgdlnidfkjbdaaDoorALines
namespace Go.Proofs.YtfgdlnidfkjbdaaDoor
open Go.RowKit

theorem Ac.app_one (o : Int) (a : List (List UInt8)) (n : Int) (b t : Ac.Fo) : ∀ F : Ac.Fo, (F.app (.cons o a n b .nil)).app t = F.app (.cons o a n b t)
  | .nil => rfl
  | .cons _ _ _ _ r => by simp only [Ac.Fo.app]; rw [Ac.app_one o a n b t r]
theorem Ac.app_none : ∀ F : Ac.Fo, F.app .nil = F
  | .nil => rfl
  | .cons _ _ _ _ r => by simp only [Ac.Fo.app]; rw [Ac.app_none r]
/-- lines without an error: each is an end or a statement -/
theorem Ac.chk_stmt : ∀ (ls : List (List (List UInt8))) (o m i : Nat), Ac.chk o m i ls = none → ∀ l ∈ ls, l ≠ [Ac.sEnd] → ∃ y, Ac.stmtOf l = some y
  | [], _, _, _, _, _, hl, _ => by cases hl
  | x :: r, o, m, i, h, l, hl, hne => by
    rw [Ac.chk] at h
    have key : ∀ o' m' i', Ac.chk o' m' i' r = none → (x ≠ [Ac.sEnd] → ∃ y, Ac.stmtOf x = some y) → ∃ y, Ac.stmtOf l = some y := fun o' m' i' hr hx => by
      rcases List.mem_cons.1 hl with rfl | hl
      · exact hx hne
      · exact Ac.chk_stmt r o' m' i' hr l hl hne
    split at h
    · rename_i he
      split at h
      · cases h
      · exact key _ _ _ h fun hn => absurd he hn
    · cases hs : Ac.stmtOf x with
      | none => rw [hs] at h; cases h
      | some y =>
        rw [hs] at h
        simp only at h
        split at h
        · cases h
        · split at h
          · split at h
            · cases h
            · exact key _ _ _ h fun _ => ⟨y, hs⟩
          · exact key _ _ _ h fun _ => ⟨y, hs⟩
theorem not_end : ∀ {l : List (List UInt8)} (h1 : l.length = 1) (_ : ¬ l = [Ac.sEnd]) (u : ByteArray) (_ : str (l[0]'(by omega)) = u), ¬ u.toList = [101, 110, 100]
  | [y], _, hend, u, hu => fun h => hend (by
    rw [← hu, ByteArray.toList_eq, str_toList] at h
    simp only [List.getElem_cons_zero] at h
    rw [h]
    rfl)
/-- one more statement -/
theorem FoNew.push {U X W9 : World} {base g9 c9 n9 : Nat} {v : Value} {F b : Ac.Fo} {rs : List RawS} {r : RawS} {op n : Int} {al : List (List UInt8)} (hO : SmR.Own U base v rs) (hE : Els U base v.ownBlock F rs) (hX : Below U.heap.size U X)
    (hO9 : SmR.Own W9 base (.slice (some ⟨g9, 0, none⟩) n9 c9) (rs ++ [r])) (hG : X.grownBy W9 v.ownBlock) (hg : v.ownBlock = some g9 ∨ g9 = X.heap.size)
    (h1 : r.op = op) (h2 : r.n = n) (ha : TxR.Own U base r.args al) (hb : FoP U (fun k => base ≤ k ∧ k < U.heap.size ∧ v.ownBlock ≠ some k) r.body b) : FoNew W9 base (.slice (some ⟨g9, 0, none⟩) n9 c9) (F.app (.cons op al n b .nil)) := by
  have e1 := hE.snoc h1 h2 ha hb
  have e2 := e1.turn (own' := v.ownBlock) (Turn.of_below hX) (by simp) (fun _ _ h => h)
  have hOX := hO.below hX (Nat.le_refl _)
  refine ⟨_, hO9, e2.turn (Turn.of_grown hG) (fun x hx => .inr ⟨ownL hx, ?_⟩) fun k hk hne => ?_⟩
  · obtain ⟨cs, h⟩ := own_rw hOX (ownL hx)
    exact ⟨cs, _, h, by decide⟩
  · simp only [Value.ownBlock, ne_eq, Option.some.injEq]
    rintro rfl
    rcases hg with h | h
    · exact hne h
    · omega

end Go.Proofs.YtfgdlnidfkjbdaaDoor
