/-
  A MAP FROM TEXTS TO TEXTS, READ AS A FUNCTION: block b holds n entries, the text at x is f x.
-/
import Derived.Test.YtppcfidaalejfaaProg
import Derived.WalkKit
import Derived.Maps.OwnSet
import Derived.Maps.Views
namespace Go.Proofs.Ytppcfidaalejfaa
open Go.RowKit Go.Maps Go.ChangeMaps Go.MapKept Go.WideMaps

def tokT (v : Value) : Option (DataW Value × List MemPlace) := some (.held v, [])
theorem tight_map {w : World} {b N : Nat} {D : DataW Value} (h : w.ownsMap Try.prog 9 tokT b N D) : w.ownsMap Try.prog 9 tokT b (Maps.size D) D := by
  obtain ⟨es, clock, hb, F, hs, rfl⟩ := h
  exact ⟨es, clock, hb, F, Nat.le_of_eq (length_read es).symm, rfl⟩
/-- block b of w is a map of n entries whose text at x is f x -/
def MapS (w : World) (b n : Nat) (f : ByteArray → Option ByteArray) : Prop :=
  ∃ D : DataW Value, w.ownsMap Try.prog 9 tokT b n D ∧ Maps.size D = n ∧ (∀ x, Maps.has D (.string x.data.toList) = (f x).isSome) ∧ (∀ x s, f x = some s → ∀ z, D.atKey (.string x.data.toList) z = .held (.string s))
theorem keyed9 : Keyed Try.prog 9 := string_keyed Try.underlying9
theorem key9 {x : ByteArray} (h : x.size ≤ 1099511627) : keyOf Try.prog 9 (.string x) = some (.string x.data.toList) := keyOf_string_mk Try.underlying9 (by unfold maxLen; omega)
theorem isKeyStr (l : List UInt8) : WideAt.IsKeyLit (.string l) := trivial
theorem key_ne {x y : ByteArray} (h : x ≠ y) : (Lit.string x.data.toList) ≠ .string y.data.toList := fun e => by
  simp only [Lit.string.injEq] at e
  exact h (ByteArray.ext (Array.toList_inj.1 e))
def updS (f : ByteArray → Option ByteArray) (x : ByteArray) (v : Option ByteArray) : ByteArray → Option ByteArray := fun y => if y = x then v else f y
variable {w : World} {b n : Nat} {f : ByteArray → Option ByteArray}
theorem MapS.lt (h : MapS w b n f) : b < w.heap.size := by
  obtain ⟨D, h1, _⟩ := h
  exact h1.lt
theorem MapS.of_block {w' : World} (h : MapS w b n f) (hb : w'.heap[b]? = w.heap[b]?) : MapS w' b n f := by
  obtain ⟨D, ⟨es, clock, h1, F, hs, hD⟩, h2, h3⟩ := h
  exact ⟨D, ⟨es, clock, hb.trans h1, F, hs, hD⟩, h2, h3⟩
theorem MapS.made (w : World) : MapS (w.alloc (.map #[] 0)) w.heap.size 0 (fun _ => none) :=
  ⟨.map [], World.ownsMap_made w _ _ _, rfl, fun _ => rfl, fun _ _ h => by cases h⟩
theorem MapS.look (h : MapS w b n f) {t : TypeId} (ht : Try.prog.underlying t = some (.map 9 9)) {x : ByteArray} (hx : x.size ≤ 1099511627) :
    (Instr.lookup t (.map (some b)) (.string x) true).run Try.prog w = .ok (.tuple #[.string ((f x).getD .empty), .bool (f x).isSome]) w := by
  obtain ⟨D, ho, -, hh, ha⟩ := h
  obtain ⟨v, ps, hr, hv⟩ := ho.look_ok keyed9 ht (z := .string .empty) (by kernel_rfl) (zd := .held (.string .empty)) (zp := []) rfl (key9 hx)
  rw [hr, hh x]
  simp only [tokT, Option.some.injEq, Prod.mk.injEq] at hv
  obtain ⟨hv, _⟩ := hv
  cases hf : f x with
  | some u =>
    rw [ha x u hf] at hv
    cases hv
    rfl
  | none =>
    rw [atKey_of_not_has (by rw [hh x, hf]; rfl)] at hv
    cases hv
    rfl
theorem MapS.len (h : MapS w b n f) {t : TypeId} (ht : Try.prog.underlying t = some (.map 9 9)) (ty : TypeId) : (Builtin.len_ #[t] ty #[.map (some b)]).run Try.prog w = .ok (.int .i64 (n : Int)) w := by
  obtain ⟨D, ho, hs, -⟩ := h
  rw [ho.len ht ty, hs]
theorem MapS.store (h : MapS w b n f) {t : TypeId} (ht : Try.prog.underlying t = some (.map 9 9)) (hn : n < 1099511627) (s : ByteArray) {x : ByteArray} (hx : x.size ≤ 1099511627) :
    ∃ w', (Instr.mapUpdate t (.map (some b)) (.string x) (.string s)).run Try.prog w = .ok () w' ∧ MapS w' b (if (f x).isSome then n else n + 1) (updS f x (some s)) ∧ w.mapTurned w' b := by
  obtain ⟨D, ho, hs, hh, ha⟩ := h
  obtain ⟨w', hr, ho', ht'⟩ := ho.store keyed9 ht (by unfold maxLen; omega) (val := .string s) (d := .held (.string s)) (ps := []) (key9 hx) rfl
  have hz : Maps.size (D.put (.string x.data.toList) (.held (.string s))) = if (f x).isSome then n else n + 1 := by
    rw [size_put (ho.tidy keyed9), hh x, hs]
  refine ⟨w', hr, ⟨_, hz ▸ tight_map ho', hz, fun y => ?_, fun y u hu z => ?_⟩, ht'⟩
  · unfold updS
    by_cases hy : y = x
    · subst hy; rw [if_pos rfl, has_put_same ho.isMap (isKeyStr _)]; rfl
    · rw [if_neg hy, has_put_other (key_ne hy), hh]
  · unfold updS at hu
    by_cases hy : y = x
    · subst hy; rw [if_pos rfl] at hu; cases hu; exact atKey_put_same ho.isMap (isKeyStr _) _ _
    · rw [if_neg hy] at hu; rw [atKey_put_other (key_ne hy)]; exact ha y u hu z
theorem MapS.drop (h : MapS w b n f) {t : TypeId} (ht : Try.prog.underlying t = some (.map 9 9)) {x : ByteArray} (hx : x.size ≤ 1099511627) (ty : TypeId) :
    ∃ w', (Builtin.delete_ #[t, 9] ty #[.map (some b), .string x]).run Try.prog w = .ok (.tuple #[]) w' ∧ MapS w' b (if (f x).isSome then n - 1 else n) (updS f x none) ∧ w.mapTurned w' b := by
  obtain ⟨D, ho, hs, hh, ha⟩ := h
  obtain ⟨w', hr, ho', ht'⟩ := ho.drop keyed9 ht (key9 hx) ty
  have hz : Maps.size (D.del (.string x.data.toList)) = if (f x).isSome then n - 1 else n := by
    have := size_del (k := .string x.data.toList) (ho.tidy keyed9)
    rw [hh x, hs] at this
    split <;> simp_all <;> omega
  refine ⟨w', hr, ⟨_, hz ▸ tight_map ho', hz, fun y => ?_, fun y u hu z => ?_⟩, ht'⟩
  · unfold updS
    by_cases hy : y = x
    · subst hy; rw [if_pos rfl, has_del_same]; rfl
    · rw [if_neg hy, has_del_other (key_ne hy), hh]
  · unfold updS at hu
    by_cases hy : y = x
    · subst hy; rw [if_pos rfl] at hu; cases hu
    · rw [if_neg hy] at hu; rw [atKey_del_other (key_ne hy)]; exact ha y u hu z
end Go.Proofs.Ytppcfidaalejfaa
