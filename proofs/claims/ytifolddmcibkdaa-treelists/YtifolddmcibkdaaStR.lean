/-
  ROWS OF TEXTS, as records.
-/
import Derived.Test.YtifolddmcibkdaaRec
namespace Go.Proofs.Ytifolddmcibkdaa
open Go.RowKit

def StR : Rc ByteArray where
  e := 9
  st := 35
  k := 1
  bytes := 16
  z := .string .empty
  enc s := [.string s]
  pos := by decide
  len _ := rfl
  one f u hu := by
    simp only [List.mem_cons, List.not_mem_nil, or_false] at hu
    subst hu; rfl
  info := by kernel_rfl
  under := Try.underlying35
  zk := rfl
  small := by decide

end Go.Proofs.Ytifolddmcibkdaa
