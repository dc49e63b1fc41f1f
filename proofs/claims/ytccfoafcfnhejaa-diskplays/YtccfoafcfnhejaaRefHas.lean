/-
  THE DOCUMENT'S DEVICE IN MEMORY: two rows of rows, the faults, three numbers; how it goes with the device as plain data.
-/
import Derived.Test.YtccfoafcfnhejaaRws
namespace Go.Proofs.Ytccfoafcfnhejaa
open Go.RowKit

/-- block g holds the 256 bytes X, and maybe more behind them -/
def RB (w : World) (g c : Nat) (X : Dk.Blk) : Prop :=
  ∃ cur : Array Value, w.heap[g]? = some (.cells cur 5 (0, 0)) ∧ cur.toList.take 256 = bV X ∧ X.length = 256 ∧ 256 ≤ c

/-- what a row's cell holds: nothing, or 256 bytes -/
def Cel (w : World) (v : Value) : Option Dk.Blk → Prop
  | none => v = .slice none 0 0
  | some X => ∃ g c, v = .slice (some ⟨g, 0, none⟩) 256 c ∧ RB w g c X

def RwO (w : World) (R n cap : Nat) (f : Nat → Option Dk.Blk) : Prop :=
  ∃ cur : Array Value, w.heap[R]? = some (.cells cur 27 (0, 0)) ∧ n ≤ cap ∧ cap ≤ maxLen ∧ cur.size = cap ∧ ∀ i, i < n → ∃ v, cur[i]? = some v ∧ Cel w v (f i)

/-- the blocks of bytes of w are in w' what they were -/
def Kept5 (w w' : World) : Prop := ∀ (b : Nat) (c : Array Value), w.heap[b]? = some (Obj.cells c 5 (0, 0)) → w'.heap[b]? = w.heap[b]?

theorem Kept5.below {w w' : World} (h : Below w.heap.size w w') : Kept5 w w' := fun b _ hb => h.block b (lt_of_heap hb)
theorem Kept5.set {w : World} {R : Nat} {c : Array Value} {t : TypeId} (hR : w.heap[R]? = some (.cells c t (0, 0))) (ht : t ≠ 5) (i : Nat) (v : Value) : Kept5 w (w.setCell ⟨R, i, none⟩ v) := fun b cb hb =>
  Below.heap_setCell w ⟨R, i, none⟩ v b (fun e => by
    rw [show b = R from e, hR] at hb
    simp only [Option.some.injEq, Obj.cells.injEq] at hb
    exact ht hb.2.1)
theorem Kept5.turn {w w' : World} {x : Pl} {N : Nat} {d : Dk.Dev} (hk : Has w x N d) (ht : Turn x.bl w w') : Kept5 w w' := fun b _ hb => ht.block b (lt_of_heap hb) (hk.not_in hb (.inr rfl))

theorem RB.kept {w w' : World} {g c : Nat} {X : Dk.Blk} (h : RB w g c X) (hk : Kept5 w w') : RB w' g c X := by
  obtain ⟨cur, h1, h2⟩ := h
  exact ⟨cur, (hk g cur h1).trans h1, h2⟩
theorem RB.lt {w : World} {g c : Nat} {X : Dk.Blk} (h : RB w g c X) : g < w.heap.size := by
  obtain ⟨cur, h1, _⟩ := h
  exact lt_of_heap h1
theorem RB.cell {w : World} {g c : Nat} {X : Dk.Blk} (h : RB w g c X) {j : Nat} (hj : j < 256) : w.cell? ⟨g, j, none⟩ = some (.int .u8 ((X.getD j 0).toNat : Int)) := by
  obtain ⟨cur, h1, h2, h3, h4⟩ := h
  rw [cell_of_row w g j cur 5 (0, 0) h1]
  have h5 : (cur.toList.take 256)[j]? = some (.int .u8 ((X.getD j 0).toNat : Int)) := by
    rw [h2]
    have : j < X.length := by omega
    simp [bV, List.getD, List.getElem?_eq_getElem this]
  rw [List.getElem?_take, if_pos hj, Array.getElem?_toList] at h5
  exact h5
theorem RB.byts {w : World} {g c : Nat} {X : Dk.Blk} (h : RB w g c X) : Byts w w.heap.size (.slice (some ⟨g, 0, none⟩) 256 c) X := by
  have h3 : X.length = 256 := by obtain ⟨_, _, _, h, _⟩ := h; exact h
  have h4 : 256 ≤ c := by obtain ⟨_, _, _, _, h⟩ := h; exact h
  refine ⟨_, c, by rw [h3], by omega, (fun e => by cases e), fun _ => ⟨g, 0, rfl, h.lt, fun j hj => ?_⟩⟩
  rw [Nat.zero_add]
  exact h.cell (by omega)
theorem RB.blk {w : World} {g : Nat} {X : Dk.Blk} (h : Blk w g X) (hl : X.length = 256) {c : Nat} (hc : 256 ≤ c) : RB w g c X :=
  ⟨_, h, by rw [List.toList_toArray, List.take_of_length_le (by rw [bV_length]; omega)], hl, hc⟩
theorem Cel.kept {w w' : World} {v : Value} {o : Option Dk.Blk} (h : Cel w v o) (hk : Kept5 w w') : Cel w' v o := by
  cases o with
  | none => exact h
  | some X =>
    obtain ⟨g, c, e, hB⟩ := h
    exact ⟨g, c, e, hB.kept hk⟩
theorem Cel.byts {w : World} {v : Value} {X : Dk.Blk} (h : Cel w v (some X)) : Byts w w.heap.size v X := by
  obtain ⟨g, c, rfl, hB⟩ := h
  exact hB.byts
theorem Cel.own {w : World} {base : Nat} {v : Value} {X : Dk.Blk} (h : Own w base v X) (hl : X.length = 256) : Cel w v (some X) := by
  rcases h.2 with ⟨_, h0⟩ | ⟨g, cap, cur, rfl, hb, hg, h1, h2, h3, h4⟩
  · omega
  · exact ⟨g, cap, by rw [hl], cur, hg, by rw [hl] at h4; exact h4, hl, by omega⟩

theorem RwO.lt {w : World} {R n cap : Nat} {f : Nat → Option Dk.Blk} (h : RwO w R n cap f) : R < w.heap.size := by
  obtain ⟨cur, h1, _⟩ := h
  exact lt_of_heap h1
theorem RwO.kept {w w' : World} {R n cap : Nat} {f : Nat → Option Dk.Blk} (h : RwO w R n cap f) (hR : w'.heap[R]? = w.heap[R]?) (hk : Kept5 w w') : RwO w' R n cap f := by
  obtain ⟨cur, h1, h2, h3, h4, h5⟩ := h
  refine ⟨cur, hR.trans h1, h2, h3, h4, fun i hi => ?_⟩
  obtain ⟨v, hv, hc⟩ := h5 i hi
  exact ⟨v, hv, hc.kept hk⟩
theorem RwO.cell {w : World} {R n cap : Nat} {f : Nat → Option Dk.Blk} (h : RwO w R n cap f) {i : Nat} (hi : i < n) : ∃ v, w.cell? ⟨R, i, none⟩ = some v ∧ Cel w v (f i) := by
  obtain ⟨cur, h1, h2, h3, h4, h5⟩ := h
  obtain ⟨v, hv, hc⟩ := h5 i hi
  exact ⟨v, by rw [cell_of_row w R i cur 27 (0, 0) h1]; exact hv, hc⟩
theorem RwO.free {w : World} {R n cap : Nat} {f : Nat → Option Dk.Blk} (h : RwO w R n cap f) (i : Nat) : w.frozen? ⟨R, i, none⟩ = false := by
  obtain ⟨cur, h1, _⟩ := h
  simp [World.frozen?, h1]

def updN (f : Nat → Option Dk.Blk) (i : Nat) (o : Option Dk.Blk) : Nat → Option Dk.Blk := fun j => if j = i then o else f j

theorem RwO.set {w : World} {R n cap : Nat} {f : Nat → Option Dk.Blk} (h : RwO w R n cap f) {i : Nat} (hi : i < n) {v : Value} {o : Option Dk.Blk} (hv : Cel w v o) : RwO (w.setCell ⟨R, i, none⟩ v) R n cap (updN f i o) := by
  obtain ⟨cur, h1, h2, h3, h4, h5⟩ := h
  have hk : Kept5 w (w.setCell ⟨R, i, none⟩ v) := Kept5.set h1 (by decide) i v
  refine ⟨_, heap_setCell_at h1 i v, h2, h3, by rw [Array.size_setIfInBounds]; exact h4, fun j hj => ?_⟩
  unfold updN
  by_cases e : j = i
  · subst e
    exact ⟨v, by rw [Array.getElem?_setIfInBounds_self_of_lt (by omega)], by rw [if_pos rfl]; exact hv.kept hk⟩
  · obtain ⟨u, hu, hc⟩ := h5 j hj
    exact ⟨u, by rw [Array.getElem?_setIfInBounds_ne (fun h => e h.symm)]; exact hu, by rw [if_neg e]; exact hc.kept hk⟩
theorem RwO.set_other {w : World} {R R' n cap : Nat} {f : Nat → Option Dk.Blk} (h : RwO w R n cap f) (hne : R ≠ R') {cc : Array Value} {t : TypeId} (hR : w.heap[R']? = some (.cells cc t (0, 0))) (ht : t ≠ 5) (i : Nat) (v : Value) : RwO (w.setCell ⟨R', i, none⟩ v) R n cap f :=
  h.kept (Below.heap_setCell w ⟨R', i, none⟩ v R hne) (Kept5.set hR ht i v)

/-! the faults -/
def fltV (F : List (Int × Int)) : List Value := F.flatMap fun e => [Value.int .i64 e.1, Value.int .i64 e.2]
def Flt (w : World) (v : Value) (F : List (Int × Int)) : Prop := w.ownsRow 0 106 2 v F.length (fltV F)
def lastF (F : List (Int × Int)) (k : Int) : Option Int := F.foldl (fun a e => if e.1 = k then some e.2 else a) none
theorem fltV_len (F : List (Int × Int)) : (fltV F).length = F.length * 2 := by
  induction F with
  | nil => rfl
  | cons e F ih => simp only [fltV, List.flatMap_cons, List.length_append, List.length_cons, List.length_nil] at *; omega
theorem fltV_get (F : List (Int × Int)) : ∀ j, j < F.length → (fltV F)[j * 2]? = some (.int .i64 (F.getD j (0, 0)).1) ∧ (fltV F)[j * 2 + 1]? = some (.int .i64 (F.getD j (0, 0)).2) := by
  induction F with
  | nil => intro j hj; simp at hj
  | cons e F ih =>
    intro j hj
    cases j with
    | zero => exact ⟨rfl, rfl⟩
    | succ j =>
      have := ih j (by simpa using hj)
      simp only [fltV, List.flatMap_cons] at *
      rw [show (j + 1) * 2 = j * 2 + 2 by omega, List.getElem?_append_right (by simp), List.getElem?_append_right (by simp)]
      simpa using this
theorem lastF_snoc (F : List (Int × Int)) (a e k : Int) : lastF (F ++ [(a, e)]) k = if a = k then some e else lastF F k := by
  unfold lastF
  rw [List.foldl_append]
  rfl
theorem lastF_take (F : List (Int × Int)) (k : Int) {j : Nat} (hj : j < F.length) : lastF (F.take (j + 1)) k = if (F.getD j (0, 0)).1 = k then some (F.getD j (0, 0)).2 else lastF (F.take j) k := by
  have : F.take (j + 1) = F.take j ++ [F.getD j (0, 0)] := by
    rw [List.take_add_one, List.getElem?_eq_getElem hj]
    simp [List.getD, List.getElem?_eq_getElem hj]
  rw [this]
  exact lastF_snoc _ _ _ _
theorem Flt.of_block {w w' : World} {v : Value} {F : List (Int × Int)} (h : Flt w v F) (hb : ∀ k, v.ownBlock = some k → w'.heap[k]? = w.heap[k]?) : Flt w' v F := by
  refine ⟨h.1, ?_⟩
  rcases h.2 with h0 | ⟨g, cap, cur, rfl, h1, h2, h3⟩
  · exact .inl h0
  · exact .inr ⟨g, cap, cur, rfl, h1, (hb g rfl).trans h2, h3⟩
theorem Flt.shape {w : World} {v : Value} {F : List (Int × Int)} (h : Flt w v F) : ∃ ad c, v = .slice ad F.length c ∧ F.length ≤ maxLen ∧ (F ≠ [] → ∃ g, ad = some ⟨g, 0, none⟩ ∧ ∀ j, j < F.length → w.cell? ⟨g, j * 2, none⟩ = some (.int .i64 (F.getD j (0, 0)).1) ∧ w.cell? ⟨g, j * 2 + 1, none⟩ = some (.int .i64 (F.getD j (0, 0)).2)) := by
  have hc := fun (j : Nat) (g cap : Nat) (hj : j < F.length * 2) (hv : v = .slice (some ⟨g, 0, none⟩) F.length cap) => World.ownsRow.cellAt (w := w) (base := 0) (e := 106) (size := 2) (g := g) (n := F.length) (cap := cap) (xs := fltV F) (by rw [← hv]; exact h) j hj
  rcases h.2 with ⟨rfl, h0⟩ | ⟨g, cap, cur, rfl, h1, h2, h3, h4, h5, h6⟩
  · exact ⟨none, 0, by rw [h0], by unfold maxLen; omega, fun hne => absurd (List.eq_nil_of_length_eq_zero h0) hne⟩
  · refine ⟨_, cap, rfl, by omega, fun _ => ⟨g, rfl, fun j hj => ?_⟩⟩
    obtain ⟨e1, e2⟩ := fltV_get F j hj
    exact ⟨(hc (j * 2) g cap (by omega) rfl).trans e1, (hc (j * 2 + 1) g cap (by omega) rfl).trans e2⟩
theorem Flt.ty {w : World} {v : Value} {F : List (Int × Int)} (h : Flt w v F) {k : Nat} (hk : v.ownBlock = some k) : ∃ cur, w.heap[k]? = some (.cells cur 106 (0, 0)) := by
  rcases h.2 with ⟨rfl, h0⟩ | ⟨g, cap, cur, rfl, h1, h2, h3⟩
  · cases hk
  · cases hk; exact ⟨cur, h2⟩

/-! the whole -/
structure RPl where
  p : Nat
  b : Nat
  bc : Nat
  c : Nat
  cc : Nat
  fv : Value
  fl : List (Int × Int)
  last : Int
  cut : Int

def RPl.bl (y : RPl) : List Nat := y.p :: y.b :: y.c :: y.fv.ownBlock.toList
def rf (y : RPl) (n op : Nat) : Array Value := #[.slice (some ⟨y.b, 0, none⟩) n y.bc, .slice (some ⟨y.c, 0, none⟩) n y.cc, .int .i64 y.last, .int .i64 (op : Int), y.fv, .int .i64 y.cut]

structure RMem (w : World) (y : RPl) (n op : Nat) (bs cs : Nat → Option Dk.Blk) : Prop where
  hp : w.heap[y.p]? = some (.cells (rf y n op) 54 (0, 0))
  hb : RwO w y.b n y.bc bs
  hc : RwO w y.c n y.cc cs
  hf : Flt w y.fv y.fl
  ne : y.b ≠ y.c

section
variable {w w' : World} {y : RPl} {n op : Nat} {bs cs : Nat → Option Dk.Blk}
theorem RMem.kept (h : RMem w y n op bs cs) (hb : ∀ k, k ∈ y.bl → w'.heap[k]? = w.heap[k]?) (hk : Kept5 w w') : RMem w' y n op bs cs :=
  ⟨(hb _ (by simp [RPl.bl])).trans h.hp, h.hb.kept (hb _ (by simp [RPl.bl])) hk, h.hc.kept (hb _ (by simp [RPl.bl])) hk, h.hf.of_block fun k e => hb k (by simp [RPl.bl, e]), h.ne⟩
theorem RMem.lt (h : RMem w y n op bs cs) : ∀ k, k ∈ y.bl → k < w.heap.size := by
  intro k hk
  simp only [RPl.bl, List.mem_cons, Option.mem_toList] at hk
  rcases hk with rfl | rfl | rfl | hk
  · exact lt_of_heap h.hp
  · exact h.hb.lt
  · exact h.hc.lt
  · obtain ⟨cur, h1⟩ := h.hf.ty hk
    exact lt_of_heap h1
theorem RMem.below (h : RMem w y n op bs cs) (hb : Below w.heap.size w w') : RMem w' y n op bs cs := h.kept (fun k hk => hb.block k (h.lt k hk)) (Kept5.below hb)
theorem RMem.drew (h : RMem w y n op bs cs) : RMem w.drew y n op bs cs := h.kept (w' := w.drew) (fun _ _ => rfl) (fun _ _ _ => rfl)
/-- the types of its blocks -/
theorem RMem.ty (h : RMem w y n op bs cs) {k : Nat} (hk : k ∈ y.bl) : ∃ c t, w.heap[k]? = some (.cells c t (0, 0)) ∧ (t = 54 ∨ t = 27 ∨ t = 106) := by
  simp only [RPl.bl, List.mem_cons, Option.mem_toList] at hk
  rcases hk with rfl | rfl | rfl | hk
  · exact ⟨_, _, h.hp, .inl rfl⟩
  · obtain ⟨cur, h1, _⟩ := h.hb; exact ⟨_, _, h1, .inr (.inl rfl)⟩
  · obtain ⟨cur, h1, _⟩ := h.hc; exact ⟨_, _, h1, .inr (.inl rfl)⟩
  · obtain ⟨cur, h1⟩ := h.hf.ty hk; exact ⟨_, _, h1, .inr (.inr rfl)⟩
theorem RMem.not_in (h : RMem w y n op bs cs) {k : Nat} {c : Array Value} {t : TypeId} (hk : w.heap[k]? = some (.cells c t (0, 0))) (ht : t ≠ 54 ∧ t ≠ 27 ∧ t ≠ 106) : k ∉ y.bl := by
  intro hm
  obtain ⟨c', t', h1, h2⟩ := h.ty hm
  rw [h1] at hk
  simp only [Option.some.injEq, Obj.cells.injEq] at hk
  obtain ⟨_, rfl, _⟩ := hk
  rcases h2 with h2 | h2 | h2
  · exact ht.1 h2
  · exact ht.2.1 h2
  · exact ht.2.2 h2
theorem RMem.pne (h : RMem w y n op bs cs) : y.b ≠ y.p ∧ y.c ≠ y.p ∧ (∀ k, y.fv.ownBlock = some k → k ≠ y.p ∧ k ≠ y.b ∧ k ≠ y.c) := by
  obtain ⟨cb, hb, _⟩ := h.hb
  obtain ⟨cc, hc, _⟩ := h.hc
  have hp := h.hp
  refine ⟨fun e => ?_, fun e => ?_, fun k hk => ?_⟩
  · rw [e, hp] at hb; simp at hb
  · rw [e, hp] at hc; simp at hc
  · obtain ⟨cf, hf⟩ := h.hf.ty hk
    refine ⟨fun e => ?_, fun e => ?_, fun e => ?_⟩
    · rw [e, hp] at hf; simp at hf
    · rw [e, hb] at hf; simp at hf
    · rw [e, hc] at hf; simp at hf
theorem RMem.cells (h : RMem w y n op bs cs) : w.cell? ⟨y.p, 0, none⟩ = some (.slice (some ⟨y.b, 0, none⟩) n y.bc) ∧ w.cell? ⟨y.p, 1, none⟩ = some (.slice (some ⟨y.c, 0, none⟩) n y.cc) ∧ w.cell? ⟨y.p, 2, none⟩ = some (.int .i64 y.last) ∧ w.cell? ⟨y.p, 3, none⟩ = some (.int .i64 (op : Int)) ∧ w.cell? ⟨y.p, 4, none⟩ = some y.fv ∧ w.cell? ⟨y.p, 5, none⟩ = some (.int .i64 y.cut) ∧ ∀ j, w.frozen? ⟨y.p, j, none⟩ = false :=
  ⟨by rw [cell_of_row w y.p 0 _ 54 (0, 0) h.hp]; rfl, by rw [cell_of_row w y.p 1 _ 54 (0, 0) h.hp]; rfl, by rw [cell_of_row w y.p 2 _ 54 (0, 0) h.hp]; rfl, by rw [cell_of_row w y.p 3 _ 54 (0, 0) h.hp]; rfl, by rw [cell_of_row w y.p 4 _ 54 (0, 0) h.hp]; rfl, by rw [cell_of_row w y.p 5 _ 54 (0, 0) h.hp]; rfl, fun j => by simp [World.frozen?, h.hp]⟩
/-- a field is written; the rows and the faults stay -/
theorem RMem.setF (h : RMem w y n op bs cs) (j : Nat) (v : Value) {op' : Nat} (last' cut' : Int) (hr : (rf y n op).setIfInBounds j v = rf { y with last := last', cut := cut' } n op') : RMem (w.setCell ⟨y.p, j, none⟩ v) { y with last := last', cut := cut' } n op' bs cs := by
  obtain ⟨e1, e2, e3⟩ := h.pne
  refine ⟨by rw [← hr]; exact heap_setCell_at h.hp j v, h.hb.set_other e1 h.hp (by decide) j v, h.hc.set_other e2 h.hp (by decide) j v, h.hf.of_block fun k hk => Below.heap_setCell w ⟨y.p, j, none⟩ v k (e3 k hk).1, h.ne⟩
theorem RMem.setB (h : RMem w y n op bs cs) {i : Nat} (hi : i < n) {v : Value} {o : Option Dk.Blk} (hv : Cel w v o) : RMem (w.setCell ⟨y.b, i, none⟩ v) y n op (updN bs i o) cs := by
  obtain ⟨e1, e2, e3⟩ := h.pne
  obtain ⟨cb, hb, hbr⟩ := h.hb
  exact ⟨(Below.heap_setCell w ⟨y.b, i, none⟩ v y.p (Ne.symm e1)).trans h.hp, h.hb.set hi hv, h.hc.set_other (Ne.symm h.ne) hb (by decide) i v, h.hf.of_block fun k hk => Below.heap_setCell w ⟨y.b, i, none⟩ v k (e3 k hk).2.1, h.ne⟩
theorem RMem.setC (h : RMem w y n op bs cs) {i : Nat} (hi : i < n) {v : Value} {o : Option Dk.Blk} (hv : Cel w v o) : RMem (w.setCell ⟨y.c, i, none⟩ v) y n op bs (updN cs i o) := by
  obtain ⟨e1, e2, e3⟩ := h.pne
  obtain ⟨cb, hb, hbr⟩ := h.hc
  exact ⟨(Below.heap_setCell w ⟨y.c, i, none⟩ v y.p (Ne.symm e2)).trans h.hp, h.hb.set_other h.ne hb (by decide) i v, h.hc.set hi hv, h.hf.of_block fun k hk => Below.heap_setCell w ⟨y.c, i, none⟩ v k (e3 k hk).2.2, h.ne⟩
end
theorem turn_rset (w : World) (y : RPl) {k : Nat} (hk : k ∈ y.bl) (j : Nat) (v : Value) : Turn y.bl w (w.setCell ⟨k, j, none⟩ v) := (Turn.refl _ w).set (fun _ => hk) v

/-! beside the device -/
structure RTie (y : RPl) (d : Dk.Dev) : Prop where
  la : ∀ i b, d.di i = some b → y.last = d.la
  fa : ∀ k : Int, (d.op : Int) ≤ k → lastF y.fl k = d.fa k
  cu : (y.cut = -1 ∧ d.cu = 9223372036854775807) ∨ (y.cut = d.cu ∧ 0 ≤ d.cu ∧ d.cu < 9223372036854775807)

structure RHas (w : World) (y : RPl) (d : Dk.Dev) : Prop where
  m : RMem w y d.st.length d.op (fun i => some (d.stab i)) (fun i => d.di i)
  t : RTie y d
  ok : Dk.Ok d

theorem RHas.below {w w' : World} {y : RPl} {d : Dk.Dev} (h : RHas w y d) (hb : Below w.heap.size w w') : RHas w' y d := ⟨h.m.below hb, h.t, h.ok⟩
theorem RHas.drew {w : World} {y : RPl} {d : Dk.Dev} (h : RHas w y d) : RHas w.drew y d := ⟨h.m.drew, h.t, h.ok⟩
theorem RTie.begun {y : RPl} {d : Dk.Dev} (h : RTie y d) : RTie y d.begun := by
  refine ⟨h.la, fun k hk => ?_, h.cu⟩
  have hk' : (d.op : Int) + 1 ≤ k := by
    have : ((d.op + 1 : Nat) : Int) ≤ k := hk
    omega
  rw [h.fa k (by omega)]
  show _ = if k = (d.op : Int) then none else d.fa k
  rw [if_neg (by omega)]
end Go.Proofs.Ytccfoafcfnhejaa
