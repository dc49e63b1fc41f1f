/-
  WHAT THE DOCUMENT's word DOES; rows of words.
-/
import Derived.Test.YthpipbkbldlfjaaYQuo
namespace Go.Proofs.Ythpipbkbldlfjaa
open Go.RowKit

/-- a word as it is told: its place as a line and a column, or made by hand -/
structure Lx.V where
  text : List UInt8
  line : Int
  col : Int
  quoted : Bool
  mark : Bool
deriving DecidableEq
/-- a word of a text, told -/
def Lx.told (t : List UInt8) (x : Lx.W Nat) : Lx.V := ⟨x.text, (Lx.place t x.at_).1, (Lx.place t x.at_).2, x.quoted, x.mark⟩
/-- a word's value -/
def wdV (v : Lx.V) : Value := .agg #[.string (str v.text), .int .i64 v.line, .int .i64 v.col, .bool v.quoted, .bool v.mark]
/-- rows of words -/
def WdR : Rc Lx.V where
  e := 36
  st := 30
  k := 5
  bytes := 40
  z := .agg #[.string .empty, .int .i64 0, .int .i64 0, .bool false, .bool false]
  enc v := [.string (str v.text), .int .i64 v.line, .int .i64 v.col, .bool v.quoted, .bool v.mark]
  pos := by decide
  len _ := rfl
  one f u hu := by
    simp only [List.mem_cons, List.not_mem_nil, or_false] at hu
    rcases hu with rfl | rfl | rfl | rfl | rfl <;> rfl
  info := by kernel_rfl
  under := Try.underlying30
  zk := rfl
  small := by decide

set_option maxRecDepth 100000 in
set_option maxHeartbeats 1000000 in
theorem wordT_any (s u : ByteArray) (n : Nat) (q m : Bool) (w : World) (hs : s.size ≤ 1099511627) :
    Calls Try.prog 59 #[.string s, .int .i64 (n : Int), .string u, .bool q, .bool m] w fun e w' => e = .returned (wdV (Lx.told (bs s) ⟨bs u, n, q, m⟩)) ∧ Below w.heap.size w w' := by
  have HE : Hid (wdV (Lx.told (bs s) ⟨bs u, n, q, m⟩) = .agg #[.string u, .int .i64 ((placeI (bs s) n).1 : Int), .int .i64 ((placeI (bs s) n).2 : Int), .bool q, .bool m]) := by
    show _ = _
    simp only [wdV, Lx.told, str_of, placeI, Int.toNat_natCast]
  rw [HE.out]
  clear HE
  go_enter Try.func59, Try.ntmps59
  go_wp2_with fail
  refine (PlaceT_any s n _ hs).mono ?_
  rintro e w1 ⟨rfl, rfl⟩
  go_wp2
  refine bodyPost_ret (results_cell_row (ty := 36) rfl _ _ w.heap.size _ _ _ _ rfl (heap_alloc_new w _) Try.underlying36 rfl (by kernel_rfl)) rfl ?_
  exact ⟨rfl, (Below.refl _ _).alloc (Nat.le_refl _) _⟩

end Go.Proofs.Ythpipbkbldlfjaa
