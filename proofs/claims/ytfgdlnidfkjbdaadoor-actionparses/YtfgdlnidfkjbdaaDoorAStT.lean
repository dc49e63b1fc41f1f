/-
  HOW THE DOCUMENT's READING OF A LINE ENDS.
-/
import Derived.Test.YtfgdlnidfkjbdaaDoorAFill
namespace Go.Proofs.YtfgdlnidfkjbdaaDoor
open Go.RowKit

/-- how the document's reading of a line ends -/
def StT (w : World) (base : Nat) : Option (Int × List (List UInt8) × Int) → Value → Prop
  | none, v => ∃ o aa an ac n, v = .tuple #[.agg #[.int .i64 o, .slice aa an ac, .int .i64 n, .slice none 0 0], .bool false]
  | some (op, a, n), v => ∃ aa an ac, v = .tuple #[.agg #[.int .i64 op, .slice aa an ac, .int .i64 n, .slice none 0 0], .bool true] ∧ TxR.Own w base (.slice aa an ac) a
/-- what the document's Stmt does -/
def StmtC : Prop := ∀ (v : Value) (l : List (List UInt8)) (B : Nat) (w : World), TxR.Sl w B v l → B ≤ w.heap.size → l.length ≤ 1099511 → (∀ s ∈ l, s.length ≤ 1099511627) →
    Calls Tryd.prog 42 #[v] w fun e w' => (∃ u, e = .returned u ∧ StT w' w.heap.size (Ac.stmtOf l) u) ∧ Below w.heap.size w w'

end Go.Proofs.YtfgdlnidfkjbdaaDoor
