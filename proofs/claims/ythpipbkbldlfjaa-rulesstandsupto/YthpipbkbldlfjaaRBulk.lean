/-
  HOW GREAT ITEMS ARE THAT ARE NOT GREAT. No program here.
-/
import Derived.Test.YthpipbkbldlfjaaRPrint
import Derived.Test.YthpipbkbldlfjaaRecOpen
namespace Go.Proofs.Ythpipbkbldlfjaa.Rl
open Lx

theorem vs_mem {u : V} : ∀ {l : List V}, u ∈ l → u.text.length + 1 ≤ vs l
  | v :: l, h => by
    rw [show vs (v :: l) = v.text.length + 1 + vs l by simp [vs]]
    rcases List.mem_cons.1 h with rfl | h
    · omega
    · have := vs_mem h; omega
theorem vs_len : ∀ (l : List V), l.length ≤ vs l
  | [] => Nat.le_refl _
  | v :: l => by
    rw [show vs (v :: l) = v.text.length + 1 + vs l by simp [vs], List.length_cons]
    have := vs_len l
    omega
theorem vs_app (a b : List V) : vs (a ++ b) = vs a + vs b := by simp [vs]
theorem vs_cons (v : V) (l : List V) : vs (v :: l) = v.text.length + 1 + vs l := by simp [vs]
theorem ls_cons (x : L) (l : List L) : ls (x :: l) = vs x.words + 1 + ls l := by simp [ls]
theorem ls_mem {x : L} : ∀ {l : List L}, x ∈ l → vs x.words + 1 ≤ ls l
  | y :: l, h => by
    rw [ls_cons]
    rcases List.mem_cons.1 h with rfl | h
    · omega
    · have := ls_mem h; omega
theorem ls_len : ∀ (l : List L), l.length ≤ ls l
  | [] => Nat.le_refl _
  | x :: l => by
    rw [ls_cons, List.length_cons]
    have := ls_len l
    omega
def one_ (x : It) : Nat := (x.name.length + 1) + (vs x.targets + (vs x.words + ls x.code))
theorem bulk_cons (x : It) (A : List It) : bulk (x :: A) = one_ x + bulk A := by simp [bulk, one_]
theorem bulk_mem {x : It} : ∀ {A : List It}, x ∈ A → one_ x ≤ bulk A
  | y :: A, h => by
    rw [bulk_cons]
    rcases List.mem_cons.1 h with rfl | h
    · omega
    · have := bulk_mem h; omega
theorem bulk_len : ∀ (A : List It), A.length ≤ bulk A
  | [] => Nat.le_refl _
  | x :: A => by
    rw [bulk_cons, List.length_cons]
    have := bulk_len A
    unfold one_
    omega
theorem head_vs (x : It) : vs (head x) ≤ 9 + one_ x := by
  unfold head one_
  split
  · simp only [List.cons_append, List.nil_append, vs_cons, wd, sLet, List.length_cons, List.length_nil]
    omega
  · split
    · simp only [vs_cons, wd, sIncl, List.length_cons, List.length_nil]
      omega
    · simp only [vs_cons, vs_app, wd, sRule, List.length_cons, List.length_nil]
      omega
theorem vtext_len (v : V) : (vtext v).length ≤ 2 * v.text.length + 2 := by
  have hq : (quote v.text).length ≤ 2 * v.text.length + 2 := by
    unfold quote
    rw [List.length_cons, List.length_append, List.length_singleton]
    have : ∀ s : List UInt8, (s.flatMap qb).length ≤ 2 * s.length := by
      intro s
      induction s with
      | nil => simp
      | cons c s ih =>
        rw [List.flatMap_cons, List.length_append, List.length_cons]
        have : (qb c).length ≤ 2 := by
          unfold qb
          split
          · simp
          · split
            · simp
            · split <;> simp
        omega
    have := this v.text
    omega
  unfold vtext show_
  split
  · omega
  · split
    · exact hq
    · split
      · omega
      · exact hq
theorem wrest_len : ∀ (f : Bool) (l : List V), (wrest f l).length ≤ 3 * vs l
  | _, [] => by simp [wrest]
  | f, v :: l => by
    rw [wrest, List.length_append, List.length_append, vs_cons]
    have h1 := vtext_len v
    have h2 := wrest_len false l
    have : (if f = true then [] else ([32] : List UInt8)).length ≤ 1 := by split <;> simp
    omega
theorem vline_len (l : L) : (vline l).length ≤ 3 * vs l.words + 2 := by
  unfold vline
  rw [List.length_append, List.length_append, List.length_singleton]
  have := wrest_len true l.words
  have : (if l.ind = true then [9] else ([] : List UInt8)).length ≤ 1 := by split <;> simp
  omega
theorem vwrite_len : ∀ (l : List L), (vwrite l).length ≤ 3 * ls l
  | [] => by simp [vwrite]
  | x :: l => by
    rw [show vwrite (x :: l) = vline x ++ vwrite l by simp [vwrite], List.length_append, ls_cons]
    have := vline_len x
    have := vwrite_len l
    omega
theorem ls_app (a b : List L) : ls (a ++ b) = ls a + ls b := by simp [ls]
theorem lines_ls : ∀ (A : List It), ls (lines A) ≤ 12 * bulk A
  | [] => by simp [lines, ls]
  | x :: A => by
    rw [show lines (x :: A) = (⟨0, false, head x⟩ :: x.code) ++ lines A by simp [lines, linesI], ls_app, ls_cons, bulk_cons]
    have h1 := head_vs x
    have h2 := lines_ls A
    have h3 : ls x.code + 1 ≤ one_ x := by unfold one_; omega
    simp only
    omega
/-- what is not great is small in all its parts -/
structure Small (A : List It) : Prop where
  len : A.length ≤ 1099511627
  few : ∀ x ∈ A, Few x
  head : ∀ x ∈ A, (Rl.head x).length ≤ 1099511627
  lines : (Rl.lines A).length ≤ 1099511627
  print : (Rl.print A).length ≤ 1099511627
  head2 : ∀ x ∈ A, (Rl.head x).length ≤ 1099511000
theorem small {A : List It} (h : bulk A < 262144) : Small A := by
  refine ⟨by have := bulk_len A; omega, fun x hx => ?_, fun x hx => ?_, ?_, ?_, fun x hx => ?_⟩
  · have hm := bulk_mem hx
    unfold one_ at hm
    have h1 := vs_len x.targets
    have h2 := vs_len x.words
    have h3 := ls_len x.code
    refine ⟨by omega, by omega, by omega, by omega, fun l hl => ?_, fun v hv => ?_, fun v hv => ?_, fun l hl v hv => ?_⟩
    · have := ls_mem hl
      have := vs_len l.words
      omega
    · have := vs_mem hv; omega
    · have := vs_mem hv; omega
    · have := ls_mem hl
      have := vs_mem hv
      omega
  · have := vs_len (Rl.head x)
    have := head_vs x
    have := bulk_mem hx
    omega
  · have := ls_len (Rl.lines A)
    have := lines_ls A
    omega
  · have h1 := vwrite_len (Rl.lines A)
    have h2 := lines_ls A
    show (vwrite (Rl.lines A)).length ≤ _
    omega
  · have := vs_len (Rl.head x)
    have := head_vs x
    have := bulk_mem hx
    omega

end Go.Proofs.Ythpipbkbldlfjaa.Rl
