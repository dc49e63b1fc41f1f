/-
  WHAT THE DOCUMENT's Item AND Parse DO, together.
-/
import Derived.Test.YthpipbkbldlfjaaRItR
import Derived.Test.YthpipbkbldlfjaaRParT
namespace Go.Proofs.Ythpipbkbldlfjaa
open Go.RowKit

theorem itemC : ItemC := by
  intro num ind ad c n ws w B hW hB hne hn hnl ht
  cases ws with
  | nil => exact absurd rfl hne
  | cons u r =>
    simp only [List.length_cons] at hn
    have hI : Rl.item ⟨num, ind, u :: r⟩ = if Rl.isW u Rl.sLet = true then Rl.letOf num r else if Rl.isW u Rl.sIncl = true then Rl.inclOf num r else if Rl.isW u Rl.sRule = true then Rl.ruleOf num [] 1 r else .bad (120, 0) := rfl
    rw [hI]
    cases hl : Rl.isW u Rl.sLet with
    | true =>
      rw [if_pos rfl]
      cases r with
      | nil =>
        subst hn
        exact itLet0 num ind ad c u w B hW hB hl
      | cons a r =>
        have ha := ht a (by simp)
        cases r with
        | nil =>
          subst hn
          exact itLet1 num ind ad c u a w B hW hB hl ha
        | cons m r =>
          simp only [List.length_cons] at hn
          have hn' : r.length + 3 = n := by omega
          subst hn'
          by_cases hbad : a.quoted = true ∨ a.mark = true ∨ Rl.name a.text = false ∨ Rl.isM m [61] = false
          · exact itLet2a num ind ad c u a m r w B hW hB hl ha (by omega) hbad
          · simp only [not_or, Bool.not_eq_true, Bool.not_eq_false] at hbad
            exact itLet2b num ind ad c u a m r w B hW hB hl ha (by omega) hbad.1 hbad.2.1 hbad.2.2.1 hbad.2.2.2
    | false =>
      rw [if_neg (by simp)]
      cases hi : Rl.isW u Rl.sIncl with
      | true =>
        rw [if_pos rfl]
        cases r with
        | nil =>
          subst hn
          exact itIncl0 num ind ad c u w B hW hB hl hi
        | cons a r => exact itIncl1 num ind ad c n u a r w B hW hB (by simp only [List.length_cons] at hn; omega) hl hi
      | false =>
        rw [if_neg (by simp)]
        cases hr : Rl.isW u Rl.sRule with
        | true =>
          rw [if_pos rfl]
          exact itRule num ind ad c n u r w B hW hB hn (by omega) hl hi hr
        | false =>
          rw [if_neg (by simp)]
          exact itNone num ind ad c n u r w B hW hB hn hl hi hr
theorem RefParse_any (s : ByteArray) (w : World) (hs : s.size ≤ 1099511627) : Calls Try.prog 14 #[.string s] w fun e w' => PsR w.heap.size e w' (Rl.answer (bs s)) ∧ Below w.heap.size w w' := by
  rcases Nat.lt_or_ge 32768 s.size with h | h
  · exact refp_long s w h hs
  · cases hl : Lx.lex (bs s) with
    | bad a => exact refp_lexbad s w h a hl
    | ok ls => exact refp_lexok itemC s w h ls hl

end Go.Proofs.Ythpipbkbldlfjaa
