/-
  RulesStands: what Parse answered, where the lines begin; the law's inner codes.
-/
import Derived.Test.YthpipbkbldlfjaaLrStK
import Derived.Test.YthpipbkbldlfjaaLrWorks
import Derived.Test.YthpipbkbldlfjaaXBad
import Derived.Deep.RegionHeld3
namespace Go.Proofs.Ythpipbkbldlfjaa
open Go.RowKit

/-- what Parse answered, in one shape -/
def StRes (w : World) (B : Nat) (v : Value) (n : Nat) (er l c : Int) : Lx.R (Int × Int × Int) (List Rl.It) → Prop
  | .bad x => x = (er, l, c) ∧ n = 0
  | .ok A => n = A.length ∧ er = 0 ∧ l = 0 ∧ c = 0 ∧ ItsS w B v A
theorem StRes.below {w w' : World} {B B' : Nat} {v : Value} {n : Nat} {er l c : Int} {r : Lx.R (Int × Int × Int) (List Rl.It)} (h : StRes w B v n er l c r) (hb : Below B' w w') (hB : B ≤ B') : StRes w' B v n er l c r := by
  cases r with
  | bad x => exact h
  | ok A => exact ⟨h.1, h.2.1, h.2.2.1, h.2.2.2.1, h.2.2.2.2.below hb hB⟩
theorem st_res {e : Ending} {w' : World} {r : Lx.R (Int × Int × Int) (List Rl.It)} (h : PsEnd e w' r) : ∃ ad n c' er l c, e = .returned (.tuple #[.slice ad n c', .agg #[.int .i64 er, .string .empty, .int .i64 l, .int .i64 c]]) ∧ StRes w' w'.heap.size (.slice ad n c') n er l c r := by
  cases r with
  | bad x =>
    obtain ⟨ad, c', he⟩ := h
    exact ⟨ad, 0, c', x.1, x.2.1, x.2.2, he, rfl, rfl⟩
  | ok A =>
    obtain ⟨ad, c', he, hI⟩ := h
    exact ⟨ad, A.length, c', 0, 0, 0, he, rfl, rfl, rfl, rfl, hI⟩
/-- where an error is told to stand -/
theorem Rl.bad_at {t : List UInt8} {x : Int × Int × Int} (h : Rl.answer t = .bad x) : x.1 ≠ 0 ∧ ∃ a, a < t.length ∧ x.2.1 = ((Lx.place t a).1 : Nat) ∧ x.2.2 = ((Lx.place t a).2 : Nat) := by
  refine ⟨Rl.answer_bad h, ?_⟩
  unfold Rl.answer at h
  split at h
  · rename_i hl
    cases h
    exact ⟨32768, hl, rfl, rfl⟩
  · split at h
    · rename_i a hb
      cases h
      exact ⟨a, Lx.lex_bad_lt hb, rfl, rfl⟩
    · rename_i ls hl
      obtain ⟨a, h1, h2, h3, -⟩ := Rl.parse_bad (Lx.lex_stands hl) h
      exact ⟨a, h1, h2, h3⟩
/-- items stand one behind the other -/
theorem Rl.ok_its {t : List UInt8} {A : List Rl.It} (h : Rl.answer t = .ok A) : ∃ q, Rl.Its t 0 A q := by
  obtain ⟨-, ls, h1, h2⟩ := Rl.answer_ok h
  exact Rl.parse_stands (Lx.lex_stands h1) (Nat.zero_le _) h2
/-- a line that begins behind a place has a greater number -/
theorem place_more (s : ByteArray) {a b : Nat} (h : Lx.Begins (bs s) b) (hab : a < b) (hb : b ≤ s.size) : (Lx.place (bs s) a).1 < (Lx.place (bs s) b).1 := by
  rcases h with rfl | ⟨q, rfl, hq⟩
  · omega
  · have hq' : q < s.size := by omega
    have hx : s[q] = 10 := by
      have h2 := hq
      rw [List.getElem?_eq_getElem (by rw [bs_length]; exact hq')] at h2
      simp only [Option.some.injEq] at h2
      exact h2
    rw [place_step s q hq', if_pos hx]
    have := place_mono (bs s) (a := a) (b := q) (by omega)
    show _ < _ + 1
    omega
/-- the box of a slice of numbers -/
def SBox (w : World) (g : Nat) (v : Value) : Prop := w.heap[g]? = some (.cells #[v] 50 (0, 0))
theorem SBox.cell {w : World} {g : Nat} {v : Value} (h : SBox w g v) : w.cell? ⟨g, 0, none⟩ = some v := by
  unfold SBox at h
  simp [World.cell?, h]
theorem SBox.lt {w : World} {g : Nat} {v : Value} (h : SBox w g v) : g < w.heap.size := (Array.getElem?_eq_some_iff.1 h).1
theorem SBox.below {w w' : World} {g : Nat} {v : Value} (h : SBox w g v) (hb : Below w.heap.size w w') : SBox w' g v := (hb.block g h.lt).trans h
theorem SBox.set {w : World} {g : Nat} {v : Value} (h : SBox w g v) (u : Value) : SBox (w.setCell ⟨g, 0, none⟩ u) g u := by
  unfold SBox at h ⊢
  rw [heap_setCell_same w g 0 _ _ _ h]
  rfl
/-- a row of numbers that grew, laid into its box -/
theorem SBox.grown {w w' : World} {g base : Nat} {v v' : Value} {l l' : List Nat} (h : SBox w g v) (hO : IntR.Own w base v l) (hg : w.grownBy w' v.ownBlock) (hO' : IntR.Own w' base v' l') : SBox w' g v ∧ SBox (w'.setCell ⟨g, 0, none⟩ v') g v' ∧ IntR.Own (w'.setCell ⟨g, 0, none⟩ v') base v' l' := by
  have h1 : SBox w' g v := (hg.block g h.lt (fun e => Row.ne hO h (by decide) e.symm rfl)).trans h
  refine ⟨h1, h1.set v', ?_⟩
  exact Row.turn hO' (S := [g]) ((Turn.refl _ w').set (p := ⟨g, 0, none⟩) (by simp) _) fun q hq => by
    rw [List.mem_singleton]
    exact Row.ne hO' h1 (by decide) hq
/-- a place's line begins in the row -/
theorem starts_cell {s : ByteArray} {ST : List Nat} {w : World} {B b4 o4 c5 : Nat} (sa : ∀ a, a ≤ s.size → 1 ≤ (Lx.place (bs s) a).1 ∧ (Lx.place (bs s) a).1 ≤ ST.length ∧ ST.getD ((Lx.place (bs s) a).1 - 1) 0 = a - (Lx.place (bs s) a).2) (h : IntR.Sl w B (.slice (some ⟨b4, o4, none⟩) ST.length c5) ST) (a : Nat) (ha : a ≤ s.size) :
    ∃ pl pc st : Nat, (Lx.place (bs s) a).1 = pl + 1 ∧ (Lx.place (bs s) a).2 = pc ∧ st + pc = a ∧ pl < ST.length ∧ w.cell? ⟨b4, o4 + pl, none⟩ = some (.int .i64 (st : Int)) := by
  obtain ⟨h1, h2, h3⟩ := sa a ha
  have hle := (place_le s a).2
  refine ⟨(Lx.place (bs s) a).1 - 1, (Lx.place (bs s) a).2, a - (Lx.place (bs s) a).2, by omega, rfl, by omega, by omega, ?_⟩
  obtain ⟨b, o, c, e, hb, hc⟩ := IntR.at h ((Lx.place (bs s) a).1 - 1) (by omega)
  simp only [Value.slice.injEq, Option.some.injEq, Addr.mk.injEq, and_true] at e
  obtain ⟨⟨rfl, rfl⟩, -⟩ := e
  rw [h3] at hc
  exact hc
/-- the world in which the lines' beginnings are gathered -/
structure StB (w2 Y : World) (er l c : Int) : Prop where
  wh : Y.heap[w2.heap.size]? = some (.cells #[.int .i64 er, .string .empty, .int .i64 l, .int .i64 c] 26 (0, 0))
  row : IntR.Own Y (w2.heap.size + 1) (.slice (some ⟨w2.heap.size + 1, 0, none⟩) 1 1) [0]
  box : SBox Y (w2.heap.size + 1 + 1) (.slice (some ⟨w2.heap.size + 1, 0, none⟩) 1 1)
  below : Below w2.heap.size w2 Y
theorem st_begin (w2 : World) (er l c : Int) : StB w2 (((w2.alloc (.cells #[.int .i64 er, .string .empty, .int .i64 l, .int .i64 c] 26)).alloc (.cells #[.int .i64 0] 3)).alloc (.cells #[.slice (some ⟨w2.heap.size + 1, 0, none⟩) 1 1] 50)) er l c := by
  have h0 := heap_alloc_new w2 (.cells #[.int .i64 er, .string .empty, .int .i64 l, .int .i64 c] 26)
  have hz1 : (w2.alloc (.cells #[.int .i64 er, .string .empty, .int .i64 l, .int .i64 c] 26)).heap.size = w2.heap.size + 1 := Array.size_push ..
  have b1 := below_box w2 (.cells #[.int .i64 er, .string .empty, .int .i64 l, .int .i64 c] 26)
  generalize w2.alloc (.cells #[.int .i64 er, .string .empty, .int .i64 l, .int .i64 c] 26) = W1 at *
  have h1 := heap_alloc_new W1 (.cells #[.int .i64 0] 3)
  have hz2 : (W1.alloc (.cells #[.int .i64 0] 3)).heap.size = w2.heap.size + 1 + 1 := by rw [← hz1]; exact Array.size_push ..
  have b2 := b1.alloc (by omega) (.cells #[.int .i64 0] 3)
  have h02 := (Below.heap_alloc W1 (.cells #[.int .i64 0] 3) w2.heap.size (by omega)).trans h0
  have hI : IntR.Own (W1.alloc (.cells #[.int .i64 0] 3)) W1.heap.size (.slice (some ⟨W1.heap.size, 0, none⟩) 1 1) [0] := by
    refine ⟨rfl, .inr ⟨W1.heap.size, 1, #[.int .i64 0], rfl, ?_, h1, ?_⟩⟩
    · exact Nat.le_refl _
    · exact ⟨Nat.le_refl _, by unfold maxLen; decide, rfl, rfl⟩
  rw [hz1] at hI
  generalize W1.alloc (.cells #[.int .i64 0] 3) = W2 at *
  have h2 := heap_alloc_new W2 (.cells #[.slice (some ⟨w2.heap.size + 1, 0, none⟩) 1 1] 50)
  rw [hz2] at h2
  have h03 := (Below.heap_alloc W2 (.cells #[.slice (some ⟨w2.heap.size + 1, 0, none⟩) 1 1] 50) w2.heap.size (by omega)).trans h02
  exact ⟨h03, hI.alloc _, h2, b2.alloc (by omega) _⟩

/-- the loops of a code, the outer ones first -/
def loopsOf : Code → List Code
  | .loop c => c :: loopsOf c
  | .seq a b => loopsOf a ++ loopsOf b
  | .block _ c => loopsOf c
  | .scope c => loopsOf c
  | .cond _ a b => loopsOf a ++ loopsOf b
  | _ => []
/-- the regions of a code that bear this number -/
def regsOf (n : Nat) : Code → List Code
  | .region k ops d => if k = n then [.region k ops d] else []
  | .loop c => regsOf n c
  | .seq a b => regsOf n a ++ regsOf n b
  | .block _ c => regsOf n c
  | .scope c => regsOf n c
  | .cond _ a b => regsOf n a ++ regsOf n b
  | _ => []
noncomputable def st17 : Code := ((Try.f10.body.map (regsOf 17)).getD []).getD 0 .skip
noncomputable def st3 : Code := ((Try.f10.body.map loopsOf).getD []).getD 2 .skip

end Go.Proofs.Ythpipbkbldlfjaa
