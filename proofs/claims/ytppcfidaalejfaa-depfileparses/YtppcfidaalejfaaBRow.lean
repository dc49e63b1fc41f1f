/-
  ROWS OF TEXTS BY THEIR BYTES.
-/
import Derived.Test.YtppcfidaalejfaaRec
import Derived.Test.YtppcfidaalejfaaPBs
namespace Go.Proofs.Ytppcfidaalejfaa
open Go.RowKit

theorem bs_str (l : List UInt8) : bs (str l) = l := by simp [bs, str]
/-- rows of texts, by their bytes -/
def BR : Rc (List UInt8) where
  e := 9
  st := 30
  k := 1
  bytes := 16
  z := .string .empty
  enc s := [.string (str s)]
  pos := by decide
  len _ := rfl
  one f u hu := by
    simp only [List.mem_cons, List.not_mem_nil, or_false] at hu
    subst hu; rfl
  info := by kernel_rfl
  under := Try.underlying30
  zk := rfl
  small := by decide
theorem BR.ix {w : World} {B : Nat} {v : Value} {l : List (List UInt8)} (h : BR.Sl w B v l) {j : Nat} (hj : j < l.length) :
    ∃ b o c, v = .slice (some ⟨b, o, none⟩) l.length c ∧ b < B ∧ w.cell? ⟨b, o + j, none⟩ = some (.string (str l[j])) := by
  obtain ⟨b, o, c, rfl, hb, hc⟩ := h.cells j hj
  refine ⟨b, o, c, rfl, hb, ?_⟩
  have := hc 0 _ (by decide) rfl
  rwa [Nat.add_zero, show j * BR.k = j from Nat.mul_one j] at this
theorem BR.at {w : World} {B : Nat} {v : Value} {l : List (List UInt8)} (h : BR.Sl w B v l) (j : Nat) (hj : j < l.length) :
    ∃ b o c, v = .slice (some ⟨b, o, none⟩) l.length c ∧ b < B ∧ w.cell? ⟨b, o + j, none⟩ = some (.string (str (l.getD j []))) := by
  have e : l.getD j [] = l[j] := by simp [List.getD, List.getElem?_eq_getElem hj]
  rw [e]
  exact BR.ix h hj

end Go.Proofs.Ytppcfidaalejfaa
