/-
  A MAP FROM TEXTS TO THINGS, READ AS A FUNCTION: block b holds n entries, what stands at x is f x. What ranging over it meets.
-/
import Derived.Test.YtifolddmcibkdaaMpS
import Derived.Maps.RangeWalk
import Derived.Sort.KeysCollected
namespace Go.Proofs.Ytifolddmcibkdaa
open Go.RowKit Go.Maps Go.ChangeMaps Go.MapKept Go.WideMaps

/-- block b of w is a map of n entries that reads as D, whose thing at x is f x -/
def MapD {α : Type} (mk : α → Value) (w : World) (b n : Nat) (f : ByteArray → Option α) (D : DataW Value) : Prop :=
  w.ownsMap Try.prog 9 tokT b n D ∧ Maps.size D = n ∧ (∀ x, Maps.has D (.string x.data.toList) = (f x).isSome) ∧ (∀ x s, f x = some s → ∀ z, D.atKey (.string x.data.toList) z = .held (mk s))
def MapV {α : Type} (mk : α → Value) (w : World) (b n : Nat) (f : ByteArray → Option α) : Prop := ∃ D, MapD mk w b n f D
def updV {α : Type} (f : ByteArray → Option α) (x : ByteArray) (v : Option α) : ByteArray → Option α := fun y => if y = x then v else f y
variable {α : Type} {mk : α → Value} {w : World} {b n : Nat} {f : ByteArray → Option α}
theorem MapV.lt (h : MapV mk w b n f) : b < w.heap.size := by
  obtain ⟨D, h1, _⟩ := h
  exact h1.lt
theorem MapV.isMap (h : MapV mk w b n f) : ∃ es c, w.heap[b]? = some (.map es c) := by
  obtain ⟨D, ⟨es, clock, h1, -⟩, -⟩ := h
  exact ⟨es, clock, h1⟩
theorem MapV.of_entries {w' : World} {b' : Nat} {es : Array MapEntry} {c : Nat} (h : MapV mk w b n f) (hb : w.heap[b]? = some (.map es c)) (hb' : w'.heap[b']? = some (.map es c)) : MapV mk w' b' n f := by
  obtain ⟨D, ⟨es1, clock, h1, F, hs, hD⟩, h2⟩ := h
  rw [hb] at h1
  simp only [Option.some.injEq, Obj.map.injEq] at h1
  obtain ⟨rfl, rfl⟩ := h1
  exact ⟨D, ⟨es, c, hb', F, hs, hD⟩, h2⟩
theorem MapV.of_block {w' : World} (h : MapV mk w b n f) (hb : w'.heap[b]? = w.heap[b]?) : MapV mk w' b n f := by
  obtain ⟨es, c, h1⟩ := h.isMap
  exact h.of_entries h1 (hb.trans h1)
theorem MapV.made (mk : α → Value) (w : World) : MapV mk (w.alloc (.map #[] 0)) w.heap.size 0 (fun _ => none) :=
  ⟨.map [], World.ownsMap_made w _ _ _, rfl, fun _ => rfl, fun _ _ h => by cases h⟩
theorem MapV.look (h : MapV mk w b n f) {t E : TypeId} (ht : Try.prog.underlying t = some (.map 9 E)) {z : Value} (hz : (zeroValue E).run Try.prog w = .ok z w) {x : ByteArray} (hx : x.size ≤ 1099511627) :
    (Instr.lookup t (.map (some b)) (.string x) true).run Try.prog w = .ok (.tuple #[((f x).map mk).getD z, .bool (f x).isSome]) w := by
  obtain ⟨D, ho, -, hh, ha⟩ := h
  obtain ⟨v, ps, hr, hv⟩ := ho.look_ok keyed9 ht (z := z) hz (zd := .held z) (zp := []) rfl (key9 hx)
  rw [hr, hh x]
  simp only [tokT, Option.some.injEq, Prod.mk.injEq] at hv
  obtain ⟨hv, _⟩ := hv
  cases hf : f x with
  | some u =>
    rw [ha x u hf] at hv
    cases hv
    rfl
  | none =>
    rw [atKey_of_not_has (by rw [hh x, hf]; rfl)] at hv
    cases hv
    rfl
theorem MapV.len (h : MapV mk w b n f) {t E : TypeId} (ht : Try.prog.underlying t = some (.map 9 E)) (ty : TypeId) : (Builtin.len_ #[t] ty #[.map (some b)]).run Try.prog w = .ok (.int .i64 (n : Int)) w := by
  obtain ⟨D, ho, hs, -⟩ := h
  rw [ho.len ht ty, hs]
theorem MapV.store (h : MapV mk w b n f) {t E : TypeId} (ht : Try.prog.underlying t = some (.map 9 E)) (hn : n < 1099511627) (s : α) {x : ByteArray} (hx : x.size ≤ 1099511627) :
    ∃ w', (Instr.mapUpdate t (.map (some b)) (.string x) (mk s)).run Try.prog w = .ok () w' ∧ MapV mk w' b (if (f x).isSome then n else n + 1) (updV f x (some s)) ∧ w.mapTurned w' b := by
  obtain ⟨D, ho, hs, hh, ha⟩ := h
  obtain ⟨w', hr, ho', ht'⟩ := ho.store keyed9 ht (by unfold maxLen; omega) (val := mk s) (d := .held (mk s)) (ps := []) (key9 hx) rfl
  have hz : Maps.size (D.put (.string x.data.toList) (.held (mk s))) = if (f x).isSome then n else n + 1 := by
    rw [size_put (ho.tidy keyed9), hh x, hs]
  refine ⟨w', hr, ⟨_, hz ▸ tight_map ho', hz, fun y => ?_, fun y u hu z => ?_⟩, ht'⟩
  · unfold updV
    by_cases hy : y = x
    · subst hy; rw [if_pos rfl, has_put_same ho.isMap (isKeyStr _)]; rfl
    · rw [if_neg hy, has_put_other (key_ne hy), hh]
  · unfold updV at hu
    by_cases hy : y = x
    · subst hy; rw [if_pos rfl] at hu; cases hu; exact atKey_put_same ho.isMap (isKeyStr _) _ _
    · rw [if_neg hy] at hu; rw [atKey_put_other (key_ne hy)]; exact ha y u hu z
theorem MapV.drop (h : MapV mk w b n f) {t E : TypeId} (ht : Try.prog.underlying t = some (.map 9 E)) {x : ByteArray} (hx : x.size ≤ 1099511627) (ty : TypeId) :
    ∃ w', (Builtin.delete_ #[t, 9] ty #[.map (some b), .string x]).run Try.prog w = .ok (.tuple #[]) w' ∧ MapV mk w' b (if (f x).isSome then n - 1 else n) (updV f x none) ∧ w.mapTurned w' b := by
  obtain ⟨D, ho, hs, hh, ha⟩ := h
  obtain ⟨w', hr, ho', ht'⟩ := ho.drop keyed9 ht (key9 hx) ty
  have hz : Maps.size (D.del (.string x.data.toList)) = if (f x).isSome then n - 1 else n := by
    have := size_del (k := .string x.data.toList) (ho.tidy keyed9)
    rw [hh x, hs] at this
    split <;> simp_all <;> omega
  refine ⟨w', hr, ⟨_, hz ▸ tight_map ho', hz, fun y => ?_, fun y u hu z => ?_⟩, ht'⟩
  · unfold updV
    by_cases hy : y = x
    · subst hy; rw [if_pos rfl, has_del_same]; rfl
    · rw [if_neg hy, has_del_other (key_ne hy), hh]
  · unfold updV at hu
    by_cases hy : y = x
    · subst hy; rw [if_pos rfl] at hu; cases hu
    · rw [if_neg hy] at hu; rw [atKey_del_other (key_ne hy)]; exact ha y u hu z

/-- the keys met so far, while what is left is left: each once, just those that are there and are no longer to come -/
theorem collected_end {D : DataW Value} {left : Lit → Bool} {ss : List (List UInt8)} (hD : MapD mk w b n f D) (hC : Collected D left ss) (hl : ∀ k, left k = false) : (ss.map fun x => (⟨x.toArray⟩ : ByteArray)).Nodup ∧ ∀ q, q ∈ (ss.map fun x => (⟨x.toArray⟩ : ByteArray)) ↔ (f q).isSome = true := by
  have hn : (ss.map fun x => (⟨x.toArray⟩ : ByteArray)).Nodup := by
    refine List.pairwise_map.2 (List.Pairwise.imp (fun {a c} hac e2 => hac ?_) hC.1)
    have := congrArg (fun s : ByteArray => s.data.toList) e2
    simpa using this
  refine ⟨hn, fun q => ?_⟩
  · rw [List.mem_map, ← hD.2.2.1 q]
    constructor
    · rintro ⟨x, hx, rfl⟩
      have := ((hC.2 x).1 hx).1
      simpa using this
    · intro h
      exact ⟨q.data.toList, (hC.2 _).2 ⟨h, hl _⟩, ByteArray.ext (by simp)⟩

end Go.Proofs.Ytifolddmcibkdaa
