/-
  A strings.Builder OF THE CALL's OWN: what it holds, and what its methods do.
-/
import Derived.Test.YtppcfidaalejfaaLaidSB
import Derived.Test.YtppcfidaalejfaaPBs
import Derived.Shelf.Strings.BuilderK
namespace Go.Proofs.Ytppcfidaalejfaa
open Go.RowKit

/-- block b is a builder that holds the bytes X; all of it lies among the blocks from B on -/
def Bd (w : World) (B b : Nat) (X : List UInt8) : Prop := Lib.IsBuilderF 68 5 B b (Lib.byteCells X) w

theorem Bd.new (w : World) : Bd (w.alloc (.cells #[.pointer none, .slice none 0 0] 68)) w.heap.size w.heap.size [] :=
  .inl (Lib.BuilderAtF.of ⟨Nat.le_refl _, .slice none 0 0, heap_alloc_new w _, World.ownsRow_nil _ _ _ _, by simp [Value.ownBlock]⟩)
theorem ownsRowF_turn {w w' : World} {base : Nat} {e : TypeId} {size : Nat} {v : Value} {n : Nat} {xs : List Value} (h : w.ownsRowF base e size v n xs) (ht : Turn [] w w') : w'.ownsRowF base e size v n xs := by
  refine ⟨h.1, ?_⟩
  rcases h.2 with h | ⟨g, cap, cur, fz, rfl, h2, h3, h4⟩
  · exact .inl h
  · exact .inr ⟨g, cap, cur, fz, rfl, h2, (ht.block g (Array.getElem?_eq_some_iff.1 h3).1 (by simp)).trans h3, h4⟩
theorem Bd.turn {w w' : World} {B b : Nat} {X : List UInt8} (h : Bd w B b X) (ht : Turn [] w w') : Bd w' B b X := by
  have key : ∀ {p : Value}, Lib.BuilderAtF 68 5 B b p (Lib.byteCells X) w → Lib.BuilderAtF 68 5 B b p (Lib.byteCells X) w' := by
    rintro p ⟨h1, v, h2, h3, h4⟩
    exact ⟨h1, v, (ht.block b (Array.getElem?_eq_some_iff.1 h2).1 (by simp)).trans h2, ownsRowF_turn h3 ht, h4⟩
  exact h.elim (fun x => .inl (key x)) (fun x => .inr (key x))
theorem Bd.alloc {w : World} {B b : Nat} {X : List UInt8} (h : Bd w B b X) (o : Obj) : Bd (w.alloc o) B b X := h.turn ((Turn.refl [] w).alloc o)
theorem Bd.below {w w' : World} {B b : Nat} {X : List UInt8} (h : Bd w B b X) (hb : Below w.heap.size w w') : Bd w' B b X := h.turn (Turn.of_below hb)
theorem byteCells_app (X Y : List UInt8) : Lib.byteCells (X ++ Y) = Lib.byteCells X ++ Lib.byteCells Y := by simp [Lib.byteCells]
theorem byteCells_len (X : List UInt8) : (Lib.byteCells X).length = X.length := by simp [Lib.byteCells]

theorem WriteByte_any (w : World) (B b : Nat) (X : List UInt8) (c : UInt8) (h : Bd w B b X) (hl : X.length ≤ 1099511627) (hB : B ≤ w.heap.size) :
    Calls Try.prog 35 #[.pointer (some ⟨b, 0, none⟩), .int .u8 (c.toNat : Int)] w fun e w' => e = .returned .nilIface ∧ Bd w' B b (X ++ [c]) ∧ Below B w w' ∧ Lib.OthersKept 5 (some b) w w' := by
  refine (Any.Builder_WriteByte_k Try.lays167 Try.Builder_Extra_167 B b (Lib.byteCells X) (c.toNat : Int) w h (by rw [byteCells_len]; omega) hB).mono ?_
  rintro e w' ⟨rfl, h1, h2, h3⟩
  refine ⟨rfl, .inr ?_, h2, h3⟩
  rw [byteCells_app]
  exact h1
theorem WriteString_any (w : World) (B b : Nat) (X : List UInt8) (s : ByteArray) (h : Bd w B b X) (hl : X.length ≤ 1099511627) (hs : s.size ≤ 1099511627) (hB : B ≤ w.heap.size) :
    Calls Try.prog 34 #[.pointer (some ⟨b, 0, none⟩), .string s] w fun e w' => e = .returned (.tuple #[.int .i64 (s.size : Int), .nilIface]) ∧ Bd w' B b (X ++ bs s) ∧ Below B w w' ∧ Lib.OthersKept 5 (some b) w w' := by
  refine (Any.Builder_WriteString_k Try.lays166 Try.Builder_Extra_166 B b (Lib.byteCells X) s w h (by rw [byteCells_len]; omega) hB).mono ?_
  rintro e w' ⟨rfl, h1, h2, h3⟩
  refine ⟨rfl, .inr ?_, h2, h3⟩
  rw [byteCells_app]
  exact h1
theorem String_any (w : World) (B b : Nat) (X : List UInt8) (h : Bd w B b X) (hB : B ≤ w.heap.size) :
    Calls Try.prog 36 #[.pointer (some ⟨b, 0, none⟩)] w fun e w' => e = .returned (.string (str X)) ∧ Below B w w' := by
  refine (Any.Builder_String_any_k Try.lays169 Try.Builder_Extra_169 B b X w h hB).mono ?_
  rintro e w' ⟨rfl, -, h2, -⟩
  exact ⟨rfl, h2⟩

end Go.Proofs.Ytppcfidaalejfaa
