/-
  ActionParses' walk, with what the document's Stmt does.
-/
import Derived.Test.YtfgdlnidfkjbdaaDoorLaPar
import Derived.Test.YtfgdlnidfkjbdaaDoorAStmtT
namespace Go.Proofs.YtfgdlnidfkjbdaaDoor
open Go.RowKit

theorem parses_walkS (v : Value) (ls : List (List (List UInt8))) (w : World) (hL : Laid w) (hv : LiS w w.heap.size v ls) (hz : Sized ls) :
    Calls Tryd.prog 3 #[v] w fun e w' => e = .returned (.bool true) ∧ Below w.heap.size w w' := parses_walk stmtC v ls w hL hv hz

end Go.Proofs.YtfgdlnidfkjbdaaDoor
