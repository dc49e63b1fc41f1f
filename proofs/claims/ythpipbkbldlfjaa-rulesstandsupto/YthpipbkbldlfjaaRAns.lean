/-
  WHAT Parse IS TO ANSWER; how great its answer is; answers compared.
-/
import Derived.Test.YthpipbkbldlfjaaRBulk
import Derived.Test.YthpipbkbldlfjaaRlMath
import Derived.Test.YthpipbkbldlfjaaXSize
import Derived.Test.YthpipbkbldlfjaaYSame
namespace Go.Proofs.Ythpipbkbldlfjaa
open Go.RowKit

/-- the laws' own test answers true -/
def WorksC : Prop := ∀ w : World, Calls Try.prog 12 #[] w fun e w' => e = .returned (.bool true) ∧ Below w.heap.size w w'

/-- what Parse answers -/
def Rl.answer (t : List UInt8) : Lx.R (Int × Int × Int) (List Rl.It) :=
  if 32768 < t.length then .bad (3, ((Lx.place t 32768).1 : Nat), ((Lx.place t 32768).2 : Nat))
  else match Lx.lex t with
  | .bad a => .bad (6, ((Lx.place t a).1 : Nat), ((Lx.place t a).2 : Nat))
  | .ok ls => Rl.parse [] (ls.map (Lx.toldL t))
def whV (er l c : Int) : Value := .agg #[.int .i64 er, .string .empty, .int .i64 l, .int .i64 c]
def PsEnd (e : Ending) (w' : World) : Lx.R (Int × Int × Int) (List Rl.It) → Prop
  | .bad x => ∃ ad c', e = .returned (.tuple #[.slice ad 0 c', whV x.1 x.2.1 x.2.2])
  | .ok A => ∃ ad c', e = .returned (.tuple #[.slice ad A.length c', whV 0 0 0]) ∧ ItsS w' w'.heap.size (.slice ad A.length c') A
def ParseC : Prop := ∀ (s : ByteArray) (w : World), s.size ≤ 140737488351232 → Calls Try.prog 13 #[.string s] w fun e w' => PsEnd e w' (Rl.answer (bs s)) ∧ Below w.heap.size w w'

/-- an error is one -/
theorem Rl.answer_bad {t : List UInt8} {x : Int × Int × Int} (h : Rl.answer t = .bad x) : x.1 ≠ 0 := by
  unfold Rl.answer at h
  split at h
  · cases h
    show (3 : Int) ≠ 0
    decide
  · split at h
    · cases h
      show (6 : Int) ≠ 0
      decide
    · rename_i ls hl
      obtain ⟨a, -, -, -, h4⟩ := Rl.parse_bad (Lx.lex_stands hl) h
      rcases h4 with h4 | h4 <;> rw [h4] <;> decide
theorem Rl.answer_ok {t : List UInt8} {A : List Rl.It} (h : Rl.answer t = .ok A) : t.length ≤ 32768 ∧ ∃ ls, Lx.lex t = .ok ls ∧ Rl.parse [] (ls.map (Lx.toldL t)) = .ok A := by
  unfold Rl.answer at h
  split at h
  · cases h
  · split at h
    · cases h
    · rename_i hlt ls hl
      exact ⟨by omega, ls, hl, h⟩
theorem Rl.answer_may {t : List UInt8} {A : List Rl.It} (h : Rl.answer t = .ok A) : Rl.may A = true := by
  obtain ⟨-, ls, hl, hp⟩ := Rl.answer_ok h
  exact Rl.parse_may (Rl.told_ok hl) rfl hp

theorem Rl.made_one {l : Lx.L} {x : Rl.It} (h : Rl.Made l x) (hn : x.name.length ≤ Rl.vs l.words - Rl.vs (x.targets ++ x.words)) (hs : Rl.vs (x.targets ++ x.words) ≤ Rl.vs l.words) : Rl.one_ x ≤ Rl.vs l.words + 1 := by
  unfold Rl.one_
  rw [h.code]
  rw [Rl.vs_app] at hn hs
  simp only [Rl.ls, List.map_nil, List.sum_nil]
  omega
theorem Rl.item_one {l : Lx.L} {x : Rl.It} (h : Rl.item l = .ok x) : Rl.one_ x ≤ Rl.vs l.words + 1 := by
  have hm := Rl.item_made h
  have hsub : ∀ {a b : List Lx.V}, a.Sublist b → Rl.vs a ≤ Rl.vs b := by
    intro a b hs
    induction hs with
    | slnil => exact Nat.le_refl _
    | cons y _ ih => rw [Rl.vs_cons]; omega
    | cons_cons y _ ih => rw [Rl.vs_cons, Rl.vs_cons]; omega
  rcases hm.kind with ⟨hk, -, ht⟩ | ⟨-, hn, -⟩ | ⟨-, hn, -⟩
  · obtain ⟨num, ind, ws⟩ := l
    unfold Rl.item at h
    cases ws with
    | nil => cases h
    | cons w r =>
      simp only at h
      split at h
      · cases r with
        | nil => cases h
        | cons a r =>
          cases r with
          | nil =>
            rw [Rl.letOf] at h
            split at h <;> cases h
          | cons m r =>
            rw [Rl.letOf] at h
            split at h
            · cases h
            · split at h
              · cases h
              · split at h
                · cases h
                · cases h
                  have e : Rl.vs (w :: a :: m :: r) = w.text.length + 1 + (a.text.length + 1 + (m.text.length + 1 + Rl.vs r)) := by rw [Rl.vs_cons, Rl.vs_cons, Rl.vs_cons]
                  show (a.text.length + 1) + (0 + (Rl.vs r + 0)) ≤ Rl.vs (w :: a :: m :: r) + 1
                  omega
      · split at h
        · cases r with
          | nil => cases h
          | cons a r =>
            cases r with
            | nil =>
              rw [Rl.inclOf] at h
              split at h
              · cases h
              · cases h
                exact absurd (show (2 : Int) = 1 from hk) (by decide)
            | cons b r =>
              rw [Rl.inclOf] at h
              split at h <;> cases h
        · split at h
          · obtain ⟨-, -, -, -, h5, -⟩ := Rl.ruleOf_made num (T := []) (fun _ h => by cases h) h
            rw [hk] at h5
            exact absurd h5 (by decide)
          · cases h
  · exact Rl.made_one hm (by rw [hn]; simp) (hsub hm.sub)
  · exact Rl.made_one hm (by rw [hn]; simp) (hsub hm.sub)
theorem Rl.bulk_app (a b : List Rl.It) : Rl.bulk (a ++ b) = Rl.bulk a + Rl.bulk b := by simp [Rl.bulk]
theorem Rl.parse_bulk : ∀ {ls : List Lx.L} {o C : List Rl.It}, Rl.parse o ls = .ok C → Rl.bulk C ≤ Rl.bulk o + Rl.ls ls
  | [], o, C, h => by
    rw [Rl.parse] at h
    cases h
    omega
  | l :: ls, o, C, h => by
    rw [Rl.parse] at h
    rw [Rl.ls_cons]
    split at h
    · rcases List.eq_nil_or_concat o with rfl | ⟨o', x, rfl⟩
      · simp at h
      · simp only [List.concat_eq_append, List.getLast?_append, List.getLast?_singleton, Option.some_or, List.dropLast_concat] at h
        split at h
        · have := Rl.parse_bulk h
          rw [List.concat_eq_append, Rl.bulk_app]
          rw [Rl.bulk_app] at this
          have e : Rl.one_ (x.with l) = Rl.one_ x + (Rl.vs l.words + 1) := by
            unfold Rl.one_
            simp only [Rl.It.with, Rl.ls_app, Rl.ls_cons]
            have : Rl.ls ([] : List Lx.L) = 0 := rfl
            omega
          rw [Rl.bulk_cons] at this ⊢
          omega
        · cases h
    · revert h
      cases hx : Rl.item l with
      | bad a => intro h; cases h
      | ok x =>
        intro h
        have := Rl.parse_bulk h
        rw [Rl.bulk_app, Rl.bulk_cons] at this
        have h1 := Rl.item_one hx
        have h2 : Rl.bulk ([] : List Rl.It) = 0 := rfl
        omega
theorem Rl.told_ls (t : List UInt8) : ∀ (ls : List (Lx.Ln Nat)), Rl.ls (ls.map (Lx.toldL t)) = Lx.tot ls
  | [] => rfl
  | x :: ls => by
    rw [List.map_cons, Rl.ls_cons, Rl.told_ls t ls, Lx.tot_cons]
    congr 2
    simp only [Rl.vs, Lx.toldL, Lx.wsum, List.map_map]
    rfl
/-- what is read is small -/
theorem Rl.answer_bulk {t : List UInt8} {A : List Rl.It} (h : Rl.answer t = .ok A) : Rl.bulk A < 262144 := by
  obtain ⟨hl, ls, h1, h2⟩ := Rl.answer_ok h
  have h3 := Rl.parse_bulk h2
  rw [Rl.told_ls] at h3
  have h4 := Lx.lex_size h1
  have h5 : Rl.bulk ([] : List Rl.It) = 0 := rfl
  omega
/-- what is printed, read -/
theorem Rl.answer_print {A : List Rl.It} (h : Rl.may A = true) (hl : (Rl.print A).length ≤ 32768) : ∃ C, Rl.answer (Rl.print A) = .ok C ∧ A.map Rl.bi = C.map Rl.bi := by
  obtain ⟨ls, h1, C, h2, h3⟩ := Rl.back h
  refine ⟨C, ?_, h3⟩
  unfold Rl.answer
  rw [if_neg (by omega), h1]
  exact h2
theorem Rl.answer_long {t : List UInt8} (h : 32768 < t.length) : Rl.answer t = .bad (3, ((Lx.place t 32768).1 : Nat), ((Lx.place t 32768).2 : Nat)) := by
  unfold Rl.answer
  rw [if_pos h]

theorem stood_where : Try.prog.stoodInHeld 26 = false := by kernel_rfl
theorem guardT_where : Try.prog.eqGuardType Try.prog.depth 26 = false := by kernel_rfl
def whA (er l c : Int) : Array Value := #[.int .i64 er, .string .empty, .int .i64 l, .int .i64 c]
theorem eq_where (W : World) (a b c a' b' c' : Int) : (Op.equalIn 10000 26 (.agg (whA a b c)) (.agg (whA a' b' c'))).run Try.prog W = .ok (decide (a = a' ∧ b = b' ∧ c = c')) W := by
  rw [show (10000 : Nat) = 9999 + 1 from rfl, run_equalIn_agg W 9999 26 _ _ (by simp [Program.fieldsOf, Try.underlying26]) stood_where]
  simp [Program.fieldsOf, Try.underlying26, go_sem, whA]
  by_cases h1 : a = a' <;> by_cases h2 : b = b' <;> by_cases h3 : c = c' <;> simp [h1, h2, h3]
theorem neq_where (W : World) (a b c a' b' c' : Int) : (binOp .neq 26 (.agg (whA a b c)) (.agg (whA a' b' c'))).run Try.prog W = .ok (.bool (!decide (a = a' ∧ b = b' ∧ c = c'))) W := by
  rw [run_neq_struct, eq_where]; rfl
theorem eql_where (W : World) (a b c a' b' c' : Int) : (binOp .eql 26 (.agg (whA a b c)) (.agg (whA a' b' c'))).run Try.prog W = .ok (.bool (decide (a = a' ∧ b = b' ∧ c = c'))) W := by
  rw [run_eql_struct, eq_where]; rfl
theorem guard_where (W : World) (op : BinOp) (x y : Operand) (xs ys : Array Value) : (eqGuard op 26 x y (.agg xs) (.agg ys)).run Try.prog W = .ok () W := run_eqGuard_agg W op 26 x y xs ys guardT_where

end Go.Proofs.Ythpipbkbldlfjaa
