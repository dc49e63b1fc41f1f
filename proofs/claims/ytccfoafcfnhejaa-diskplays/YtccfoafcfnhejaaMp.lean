/-
  A MAP KEYED BY INTS, READ AS A FUNCTION: block b holds at most N entries, the value at x is f x.
-/
import Derived.Test.YtccfoafcfnhejaaProg
import Derived.WalkKit
import Derived.Maps.OwnSet
import Derived.Maps.RangeWalk
import Derived.Lib.SlKeysI
namespace Go.Proofs.Ytccfoafcfnhejaa
open Go.RowKit Go.Maps Go.ChangeMaps Go.MapKept

def tokR (v : Value) : Option (DataW Value × List MemPlace) := some (.held v, [])

/-- block b of w is a map of at most N entries whose value at the key x is f x -/
def MapOf (w : World) (b N : Nat) (f : Int → Option Value) : Prop :=
  ∃ D : DataW Value, w.ownsMap Try.prog 3 tokR b N D ∧ (∀ x, Maps.has D (.int .i64 x) = (f x).isSome) ∧ (∀ x v, f x = some v → ∀ z, D.atKey (.int .i64 x) z = .held v)

theorem keyed3 : Keyed Try.prog 3 := int_keyed Try.underlying3
theorem key3 {x : Int} (h1 : -9223372036854775808 ≤ x) (h2 : x ≤ 9223372036854775807) : keyOf Try.prog 3 (.int .i64 x) = some (.int .i64 x) := keyOf_int_mk Try.underlying3 (WalkArith.wf_i64 (by omega))

def updF (f : Int → Option Value) (x : Int) (v : Option Value) : Int → Option Value := fun y => if y = x then v else f y

theorem MapOf.mono {w : World} {b N N' : Nat} {f : Int → Option Value} (h : MapOf w b N f) (hN : N ≤ N') : MapOf w b N' f := by
  obtain ⟨D, h1, h2, h3⟩ := h
  exact ⟨D, h1.mono hN, h2, h3⟩
theorem MapOf.lt {w : World} {b N : Nat} {f : Int → Option Value} (h : MapOf w b N f) : b < w.heap.size := by
  obtain ⟨D, h1, _⟩ := h
  exact h1.lt
theorem MapOf.of_block {w w' : World} {b N : Nat} {f : Int → Option Value} (h : MapOf w b N f) (hb : w'.heap[b]? = w.heap[b]?) : MapOf w' b N f := by
  obtain ⟨D, ⟨es, clock, h1, F, hs, hD⟩, h2, h3⟩ := h
  exact ⟨D, ⟨es, clock, hb.trans h1, F, hs, hD⟩, h2, h3⟩
theorem MapOf.isMap {w : World} {b N : Nat} {f : Int → Option Value} (h : MapOf w b N f) : ∃ es clock, w.heap[b]? = some (.map es clock) := by
  obtain ⟨D, ⟨es, clock, h1, _⟩, _⟩ := h
  exact ⟨es, clock, h1⟩

theorem MapOf.made (w : World) : MapOf (w.alloc (.map #[] 0)) w.heap.size 0 (fun _ => none) :=
  ⟨.map [], World.ownsMap_made w _ _ _, fun _ => rfl, fun _ _ h => by cases h⟩

theorem MapOf.of_clone {w w' : World} {b b' N : Nat} {f : Int → Option Value} (h : MapOf w b N f) {es : Array MapEntry} {clock : Nat} (hb : w.heap[b]? = some (.map es clock)) (hb' : w'.heap[b']? = some (.map es clock)) : MapOf w' b' N f := by
  obtain ⟨D, ⟨es', clock', h1, F, hs, hD⟩, h2, h3⟩ := h
  rw [hb] at h1
  cases h1
  exact ⟨D, ⟨es, clock, hb', F, hs, hD⟩, h2, h3⟩

theorem MapOf.look {w : World} {b N : Nat} {f : Int → Option Value} (h : MapOf w b N f) {t e : TypeId} (ht : Try.prog.underlying t = some (.map 3 e)) {z : Value} (hz : (zeroValue e).run Try.prog w = .ok z w) {x : Int} (h1 : -9223372036854775808 ≤ x) (h2 : x ≤ 9223372036854775807) :
    (Instr.lookup t (.map (some b)) (.int .i64 x) true).run Try.prog w = .ok (.tuple #[(f x).getD z, .bool (f x).isSome]) w := by
  obtain ⟨D, ho, hh, ha⟩ := h
  obtain ⟨v, ps, hr, hv⟩ := ho.look_ok keyed3 ht hz (zd := .held z) (zp := []) rfl (key3 h1 h2)
  rw [hr, hh x]
  simp only [tokR, Option.some.injEq, Prod.mk.injEq] at hv
  obtain ⟨hv, _⟩ := hv
  cases hf : f x with
  | some u =>
    rw [ha x u hf] at hv
    cases hv
    rfl
  | none =>
    rw [atKey_of_not_has (by rw [hh x, hf]; rfl)] at hv
    cases hv
    rfl
theorem MapOf.look1 {w : World} {b N : Nat} {f : Int → Option Value} (h : MapOf w b N f) {t e : TypeId} (ht : Try.prog.underlying t = some (.map 3 e)) {z : Value} (hz : (zeroValue e).run Try.prog w = .ok z w) {x : Int} (h1 : -9223372036854775808 ≤ x) (h2 : x ≤ 9223372036854775807) :
    (Instr.lookup t (.map (some b)) (.int .i64 x) false).run Try.prog w = .ok ((f x).getD z) w := by
  obtain ⟨D, ho, hh, ha⟩ := h
  obtain ⟨v, ps, hr, hv⟩ := ho.lookup keyed3 ht hz (zd := .held z) (zp := []) rfl (key3 h1 h2)
  rw [hr]
  simp only [tokR, Option.some.injEq, Prod.mk.injEq] at hv
  obtain ⟨hv, _⟩ := hv
  cases hf : f x with
  | some u =>
    rw [ha x u hf] at hv
    cases hv
    rfl
  | none =>
    rw [atKey_of_not_has (by rw [hh x, hf]; rfl)] at hv
    cases hv
    rfl

theorem isKeyInt (x : Int) : WideAt.IsKeyLit (.int .i64 x) := trivial

theorem MapOf.store {w : World} {b N : Nat} {f : Int → Option Value} (h : MapOf w b N f) {t e : TypeId} (ht : Try.prog.underlying t = some (.map 3 e)) (hN : N < 1099511627776) (v : Value) {x : Int} (h1 : -9223372036854775808 ≤ x) (h2 : x ≤ 9223372036854775807) :
    ∃ w', (Instr.mapUpdate t (.map (some b)) (.int .i64 x) v).run Try.prog w = .ok () w' ∧ MapOf w' b (N + 1) (updF f x (some v)) ∧ w.mapTurned w' b := by
  obtain ⟨D, ho, hh, ha⟩ := h
  obtain ⟨w', hr, ho', ht'⟩ := ho.store keyed3 ht (by unfold maxLen; omega) (val := v) (d := .held v) (ps := []) (key3 h1 h2) rfl
  refine ⟨w', hr, ⟨_, ho', fun y => ?_, fun y u hu z => ?_⟩, ht'⟩
  · unfold updF
    by_cases hy : y = x
    · subst hy; rw [if_pos rfl, has_put_same ho.isMap (isKeyInt _)]; rfl
    · rw [if_neg hy, has_put_other (by simpa using hy), hh]
  · unfold updF at hu
    by_cases hy : y = x
    · subst hy; rw [if_pos rfl] at hu; cases hu; exact atKey_put_same ho.isMap (isKeyInt _) _ _
    · rw [if_neg hy] at hu; rw [atKey_put_other (by simpa using hy)]; exact ha y u hu z

theorem MapOf.drop {w : World} {b N : Nat} {f : Int → Option Value} (h : MapOf w b N f) {t e : TypeId} (ht : Try.prog.underlying t = some (.map 3 e)) {x : Int} (h1 : -9223372036854775808 ≤ x) (h2 : x ≤ 9223372036854775807) (ty : TypeId) :
    ∃ w', (Builtin.delete_ #[t, 3] ty #[.map (some b), .int .i64 x]).run Try.prog w = .ok (.tuple #[]) w' ∧ MapOf w' b N (updF f x none) ∧ w.mapTurned w' b := by
  obtain ⟨D, ho, hh, ha⟩ := h
  obtain ⟨w', hr, ho', ht'⟩ := ho.drop keyed3 ht (key3 h1 h2) ty
  refine ⟨w', hr, ⟨_, ho', fun y => ?_, fun y u hu z => ?_⟩, ht'⟩
  · unfold updF
    by_cases hy : y = x
    · subst hy; rw [if_pos rfl, has_del_same]; rfl
    · rw [if_neg hy, has_del_other (by simpa using hy), hh]
  · unfold updF at hu
    by_cases hy : y = x
    · subst hy; rw [if_pos rfl] at hu; cases hu
    · rw [if_neg hy] at hu; rw [atKey_del_other (by simpa using hy)]; exact ha y u hu z

theorem MapOf.clear {w : World} {b N : Nat} {f : Int → Option Value} (h : MapOf w b N f) {t e : TypeId} (ht : Try.prog.underlying t = some (.map 3 e)) (ty : TypeId) :
    ∃ w', (Builtin.clear_ #[t] ty #[.map (some b)]).run Try.prog w = .ok (.tuple #[]) w' ∧ MapOf w' b 0 (fun _ => none) ∧ w.mapTurned w' b := by
  obtain ⟨D, ⟨es, clock, hb, F, hs, hD⟩, hh, ha⟩ := h
  refine ⟨setBlock w b (.map #[] clock), ?_, ⟨.map [], ⟨#[], clock, heap_setBlock_same hb _, ⟨by simp, ?_, by simp⟩, Nat.le_refl _, rfl⟩, fun _ => rfl, fun _ _ h => by cases h⟩, ⟨es, clock, #[], clock, hb, rfl⟩⟩
  · simp [Builtin.clear_, run_underlying ht, MapKept.run_getObj_map hb, MapKept.run_setObj_map _ hb, Result.andThen, setBlock]
  · exact stamped_empty clock

end Go.Proofs.Ytccfoafcfnhejaa
