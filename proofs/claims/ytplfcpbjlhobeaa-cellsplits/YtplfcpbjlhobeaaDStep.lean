/-
  'append(ks, k)' WITHIN A REGION THAT DRAWS.
-/
import Derived.Test.YtplfcpbjlhobeaaCRows
import Derived.Deep.AppendLies
namespace Go.Proofs.Ytplfcpbjlhobeaa
open Go.RowKit

/-- 'append(ks, k)' within a region that draws -/
theorem step_append_int {ops : Array Oper} {o : Oper} {a : Act} {K : Act → World → Prop} {Q : Exit → Act → World → Prop} {E : Prop} {w : World} (hgd : o.guard = none) (s x : Operand) (ho : o.op = .call { callee := .builtin .append, args := #[s, x], argTypes := #[26, 26] })
    (base : Nat) (v : Value) (ks : List Int) (k : Int) (hs : a.eval s = v) (hown : OwnN w base v ks) (hx : a.eval x = .slice (some ⟨w.heap.size, 0, none⟩) 1 1) (hl : Hid (ks.length ≤ 2000000)) (hbase : base ≤ w.heap.size)
    (h : ∀ g cap w', OwnN w' base (.slice (some ⟨g, 0, none⟩) (ks.length + 1) cap) (ks ++ [k]) → (w.alloc (.cells #[.int .i64 k] 3)).grownBy w' v.ownBlock → K (a.put o.dst (.slice (some ⟨g, 0, none⟩) (ks.length + 1) cap)) w') :
    if Region.wanted o (yielded ops a.tmps) = true then Oper.wp Try.prog o a (w.alloc (.cells #[.int .i64 k] 3)) K Q else E := by
  obtain ⟨i0, hi, hz0, hz1, hz2⟩ := info_parts infoN
  have hl' := hl.out
  refine step_append_lies _ hgd s x 26 ho base 3 i0 _ 1 8 Try.underlying26 hi hz0 hz1 hz2 rfl (by decide) v ks.length (intsV ks) hs (OwnN.alloc hown _) ⟨w.heap.size, 0, none⟩ 1 1 [.int .i64 k] hx rfl (cell_one_new _ _ _) (by simp [Value.oneCell']) (by omega) (by unfold maxLen; omega) (by omega) (by simp; omega) (w.heap.size + 1) (by simp) ?_
  intro g cap w' h1 h2 _ _
  refine h g cap w' ?_ h2
  unfold OwnN
  rw [List.length_append, show intsV (ks ++ [k]) = intsV ks ++ [.int .i64 k] by simp [intsV]]
  exact h1

end Go.Proofs.Ytplfcpbjlhobeaa
