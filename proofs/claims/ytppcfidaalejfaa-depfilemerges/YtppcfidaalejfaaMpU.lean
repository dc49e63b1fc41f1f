/-
  A MAP FROM TEXTS TO VALUES OF ANY KIND, READ AS A FUNCTION: block b holds n entries, what lies at x is f x.
-/
import Derived.Test.YtppcfidaalejfaaMpS
import Derived.Test.YtppcfidaalejfaaTurn
namespace Go.Proofs.Ytppcfidaalejfaa
open Go.RowKit Go.Maps Go.ChangeMaps Go.MapKept Go.WideMaps

/-- block b of w is a map of n entries whose value at x is f x -/
def MapU (w : World) (b n : Nat) (f : ByteArray → Option Value) : Prop :=
  ∃ D : DataW Value, w.ownsMap Try.prog 9 tokT b n D ∧ Maps.size D = n ∧ (∀ x, Maps.has D (.string x.data.toList) = (f x).isSome) ∧ (∀ x v, f x = some v → ∀ z, D.atKey (.string x.data.toList) z = .held v)
def updU (f : ByteArray → Option Value) (x : ByteArray) (v : Option Value) : ByteArray → Option Value := fun y => if y = x then v else f y
variable {w : World} {b n : Nat} {f : ByteArray → Option Value}
theorem MapU.lt (h : MapU w b n f) : b < w.heap.size := by
  obtain ⟨D, h1, _⟩ := h
  exact h1.lt
theorem MapU.of_block {w' : World} (h : MapU w b n f) (hb : w'.heap[b]? = w.heap[b]?) : MapU w' b n f := by
  obtain ⟨D, ⟨es, clock, h1, F, hs, hD⟩, h2, h3⟩ := h
  exact ⟨D, ⟨es, clock, hb.trans h1, F, hs, hD⟩, h2, h3⟩
theorem MapU.turn {w' : World} {S : List Nat} (h : MapU w b n f) (hT : Turn S w w') (hb : b ∉ S) : MapU w' b n f := h.of_block (hT.block b h.lt hb)
theorem MapU.below {w' : World} {B : Nat} (h : MapU w b n f) (hb : Below B w w') (hB : b < B) : MapU w' b n f := h.of_block (hb.block b hB)
theorem MapU.alloc (h : MapU w b n f) (o : Obj) : MapU (w.alloc o) b n f := h.turn ((Turn.refl [] w).alloc o) (by simp)
theorem MapU.made (w : World) : MapU (w.alloc (.map #[] 0)) w.heap.size 0 (fun _ => none) :=
  ⟨.map [], World.ownsMap_made w _ _ _, rfl, fun _ => rfl, fun _ _ h => by cases h⟩
theorem MapU.at_ok (h : MapU w b n f) {t e : TypeId} (ht : Try.prog.underlying t = some (.map 9 e)) {z : Value} (hz : (zeroValue e).run Try.prog w = .ok z w) {x : ByteArray} (hx : x.size ≤ 1099511627) :
    (Instr.lookup t (.map (some b)) (.string x) true).run Try.prog w = .ok (.tuple #[(f x).getD z, .bool (f x).isSome]) w := by
  obtain ⟨D, ho, -, hh, ha⟩ := h
  obtain ⟨v, ps, hr, hv⟩ := ho.look_ok keyed9 ht hz (zd := .held z) (zp := []) rfl (key9 hx)
  rw [hr, hh x]
  simp only [tokT, Option.some.injEq, Prod.mk.injEq] at hv
  obtain ⟨hv, _⟩ := hv
  cases hf : f x with
  | some u =>
    rw [ha x u hf] at hv
    cases hv
    rfl
  | none =>
    rw [atKey_of_not_has (by rw [hh x, hf]; rfl)] at hv
    cases hv
    rfl
theorem MapU.look (h : MapU w b n f) {t e : TypeId} (ht : Try.prog.underlying t = some (.map 9 e)) {z : Value} (hz : (zeroValue e).run Try.prog w = .ok z w) {x : ByteArray} (hx : x.size ≤ 1099511627) :
    (Instr.lookup t (.map (some b)) (.string x) false).run Try.prog w = .ok ((f x).getD z) w := by
  obtain ⟨D, ho, -, hh, ha⟩ := h
  obtain ⟨v, ps, hr, hv⟩ := ho.lookup keyed9 ht hz (zd := .held z) (zp := []) rfl (key9 hx)
  rw [hr]
  simp only [tokT, Option.some.injEq, Prod.mk.injEq] at hv
  obtain ⟨hv, _⟩ := hv
  cases hf : f x with
  | some u =>
    rw [ha x u hf] at hv
    cases hv
    rfl
  | none =>
    rw [atKey_of_not_has (by rw [hh x, hf]; rfl)] at hv
    cases hv
    rfl
theorem MapU.store (h : MapU w b n f) {t e : TypeId} (ht : Try.prog.underlying t = some (.map 9 e)) (hn : n < 1099511627) (v : Value) {x : ByteArray} (hx : x.size ≤ 1099511627) :
    ∃ w', (Instr.mapUpdate t (.map (some b)) (.string x) v).run Try.prog w = .ok () w' ∧ MapU w' b (if (f x).isSome then n else n + 1) (updU f x (some v)) ∧ Turn [b] w w' := by
  obtain ⟨D, ho, hs, hh, ha⟩ := h
  obtain ⟨w', hr, ho', ht'⟩ := ho.store keyed9 ht (by unfold maxLen; omega) (val := v) (d := .held v) (ps := []) (key9 hx) rfl
  have hz : Maps.size (D.put (.string x.data.toList) (.held v)) = if (f x).isSome then n else n + 1 := by
    rw [size_put (ho.tidy keyed9), hh x, hs]
  refine ⟨w', hr, ⟨_, hz ▸ tight_map ho', hz, fun y => ?_, fun y u hu z => ?_⟩, Turn.of_grown ht'.grown⟩
  · unfold updU
    by_cases hy : y = x
    · subst hy; rw [if_pos rfl, has_put_same ho.isMap (isKeyStr _)]; rfl
    · rw [if_neg hy, has_put_other (key_ne hy), hh]
  · unfold updU at hu
    by_cases hy : y = x
    · subst hy; rw [if_pos rfl] at hu; cases hu; exact atKey_put_same ho.isMap (isKeyStr _) _ _
    · rw [if_neg hy] at hu; rw [atKey_put_other (key_ne hy)]; exact ha y u hu z
end Go.Proofs.Ytppcfidaalejfaa
