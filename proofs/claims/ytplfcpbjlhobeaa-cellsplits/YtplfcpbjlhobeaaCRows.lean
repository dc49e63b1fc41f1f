/-
  ROWS OF ITEMS, ROWS OF NUMBERS: a call's own; append, slices.Clone.
-/
import Derived.Test.YtplfcpbjlhobeaaCKit
import Derived.Test.YtplfcpbjlhobeaaREq
namespace Go.Proofs.Ytplfcpbjlhobeaa
open Go.RowKit

def itsV (l : List Cm.It) : List Value := l.flatMap fun x => (itA x).toList
theorem itsV_length (l : List Cm.It) : (itsV l).length = l.length * 4 := by
  induction l with
  | nil => rfl
  | cons x r ih =>
    show ((itA x).toList ++ itsV r).length = _
    rw [List.length_append, ih, List.length_cons]
    have : (itA x).toList.length = 4 := rfl
    omega
theorem itsV_append (a b : List Cm.It) : itsV (a ++ b) = itsV a ++ itsV b := by simp [itsV]
theorem itsV_get : ∀ (l : List Cm.It) (j f : Nat), j < l.length → f < 4 → (itsV l)[j * 4 + f]? = (itA (l.getD j Cm.zero)).toList[f]? := by
  intro l
  induction l with
  | nil => intro j f h; simp at h
  | cons x r ih =>
    intro j f hj hf
    show ((itA x).toList ++ itsV r)[j * 4 + f]? = _
    have hl : (itA x).toList.length = 4 := rfl
    cases j with
    | zero =>
      rw [List.getElem?_append_left (by rw [hl]; omega)]
      simp [List.getD]
    | succ j =>
      rw [List.getElem?_append_right (by rw [hl]; omega), hl, show (j + 1) * 4 + f - 4 = j * 4 + f by omega, ih j f (by simpa using hj) hf]
      simp [List.getD]
theorem itsV_one (l : List Cm.It) : ∀ u ∈ itsV l, u.oneCell' = true := by
  intro u hu
  simp only [itsV, List.mem_flatMap] at hu
  obtain ⟨x, _, hx⟩ := hu
  simp only [itA, List.mem_cons, List.not_mem_nil, or_false] at hx
  rcases hx with rfl | rfl | rfl | rfl <;> rfl
def intsV (l : List Int) : List Value := l.map fun x => Value.int .i64 x
theorem intsV_length (l : List Int) : (intsV l).length = l.length := by simp [intsV]
theorem intsV_one (l : List Int) : ∀ u ∈ intsV l, u.oneCell' = true := by
  intro u hu
  simp only [intsV, List.mem_map] at hu
  obtain ⟨x, _, rfl⟩ := hu
  rfl

/-- w's row v, among the blocks from base on, holds just the items l; likewise the numbers l -/
def OwnC (w : World) (base : Nat) (v : Value) (l : List Cm.It) : Prop := w.ownsRow base 24 4 v l.length (itsV l)
def OwnN (w : World) (base : Nat) (v : Value) (l : List Int) : Prop := w.ownsRow base 3 1 v l.length (intsV l)
theorem OwnC.nil (w : World) (base : Nat) : OwnC w base (.slice none 0 0) [] := World.ownsRow_nil w base 24 4
theorem OwnN.nil (w : World) (base : Nat) : OwnN w base (.slice none 0 0) [] := World.ownsRow_nil w base 3 1
theorem OwnC.alloc {w : World} {base : Nat} {v : Value} {l : List Cm.It} (h : OwnC w base v l) (o : Obj) : OwnC (w.alloc o) base v l := World.ownsRow.alloc h o
theorem OwnN.alloc {w : World} {base : Nat} {v : Value} {l : List Int} (h : OwnN w base v l) (o : Obj) : OwnN (w.alloc o) base v l := World.ownsRow.alloc h o
theorem OwnC.below {w w' : World} {base B : Nat} {v : Value} {l : List Cm.It} (h : OwnC w base v l) (hb : Below B w w') (hB : w.heap.size ≤ B) : OwnC w' base v l :=
  World.ownsRow.kept h (row := none) ⟨hb.os, hb.tape, hb.output, hb.size, fun k hk _ => hb.block k (by omega)⟩ (by cases hv : v.ownBlock <;> simp)
theorem OwnN.below {w w' : World} {base B : Nat} {v : Value} {l : List Int} (h : OwnN w base v l) (hb : Below B w w') (hB : w.heap.size ≤ B) : OwnN w' base v l :=
  World.ownsRow.kept h (row := none) ⟨hb.os, hb.tape, hb.output, hb.size, fun k hk _ => hb.block k (by omega)⟩ (by cases hv : v.ownBlock <;> simp)
theorem OwnC.its {w : World} {base : Nat} {v : Value} {l : List Cm.It} (h : OwnC w base v l) : Its w w.heap.size v l := by
  have hlt := World.ownsRow.lt h
  have hcs := fun g hg => World.ownsRow.cells (g := g) h hg
  rcases h.2 with ⟨rfl, h0⟩ | ⟨g, cap, cur, rfl, _, _, hle, _⟩
  · refine ⟨none, 0, by rw [h0], by omega, fun _ => rfl, fun hne => ?_⟩
    exact absurd (List.eq_nil_of_length_eq_zero h0) hne
  · refine ⟨_, _, rfl, hle, (fun h => by cases h), fun _ => ⟨g, 0, rfl, (hlt g rfl).2, fun j hj => ?_⟩⟩
    have e : ∀ f, (⟨g, 0, none⟩ : Addr).add (j * 4 + f) = ⟨g, 0 + j * 4 + f, none⟩ := fun f => by rw [addr_add]; congr 1; omega
    have k0 := hcs g rfl (j * 4 + 0) _ ((itsV_get l j 0 hj (by omega)).trans rfl)
    have k1 := hcs g rfl (j * 4 + 1) _ ((itsV_get l j 1 hj (by omega)).trans rfl)
    have k2 := hcs g rfl (j * 4 + 2) _ ((itsV_get l j 2 hj (by omega)).trans rfl)
    have k3 := hcs g rfl (j * 4 + 3) _ ((itsV_get l j 3 hj (by omega)).trans rfl)
    rw [e] at k0 k1 k2 k3
    exact ⟨k0, k1, k2, k3⟩
theorem OwnN.ints {w : World} {base : Nat} {v : Value} {l : List Int} (h : OwnN w base v l) : Ints w w.heap.size v l := by
  have hlt := World.ownsRow.lt h
  have hcs := fun g hg => World.ownsRow.cells (g := g) h hg
  rcases h.2 with ⟨rfl, h0⟩ | ⟨g, cap, cur, rfl, _, _, hle, _⟩
  · refine ⟨none, 0, by rw [h0], by omega, fun _ => rfl, fun hne => ?_⟩
    exact absurd (List.eq_nil_of_length_eq_zero h0) hne
  · refine ⟨_, _, rfl, hle, (fun h => by cases h), fun _ => ⟨g, 0, rfl, (hlt g rfl).2, fun j hj => ?_⟩⟩
    have := hcs g rfl j (.int .i64 (l.getD j 0)) (by simp [intsV, List.getD, List.getElem?_eq_getElem hj])
    rwa [addr_add] at this

theorem its_news {w : World} {b o : Nat} {l : List Cm.It} (h : ∀ j, j < l.length → w.cell? ⟨b, o + j * 4, none⟩ = some (.string (l.getD j Cm.zero).key) ∧ w.cell? ⟨b, o + j * 4 + 1, none⟩ = some (.string (l.getD j Cm.zero).val) ∧
    w.cell? ⟨b, o + j * 4 + 2, none⟩ = some (.int .i64 (l.getD j Cm.zero).page) ∧ w.cell? ⟨b, o + j * 4 + 3, none⟩ = some (.int .i64 (l.getD j Cm.zero).len)) :
    ∀ j u, (itsV l)[j]? = some u → w.cell? ((⟨b, o, none⟩ : Addr).add j) = some u := by
  intro j u hu
  have hj : j < l.length * 4 := by
    rcases Nat.lt_or_ge j (l.length * 4) with h | h
    · exact h
    · rw [List.getElem?_eq_none (by rw [itsV_length]; exact h)] at hu; cases hu
  have hq : j / 4 < l.length := by omega
  have hr : j % 4 < 4 := by omega
  have hjj : j = j / 4 * 4 + j % 4 := by omega
  obtain ⟨c0, c1, c2, c3⟩ := h (j / 4) hq
  rw [hjj, itsV_get l _ _ hq hr] at hu
  rw [addr_add, hjj]
  generalize j % 4 = r at *
  generalize j / 4 = q at *
  rw [← Nat.add_assoc]
  match r, hr with
  | 0, _ => rw [Nat.add_zero, c0]; exact hu
  | 1, _ => rw [c1]; exact hu
  | 2, _ => rw [c2]; exact hu
  | 3, _ => rw [c3]; exact hu
theorem ints_news {w : World} {b o : Nat} {l : List Int} (h : ∀ j, j < l.length → w.cell? ⟨b, o + j, none⟩ = some (.int .i64 (l.getD j 0))) :
    ∀ j u, (intsV l)[j]? = some u → w.cell? ((⟨b, o, none⟩ : Addr).add j) = some u := by
  intro j u hu
  have hj : j < l.length := by
    rcases Nat.lt_or_ge j l.length with h | h
    · exact h
    · rw [List.getElem?_eq_none (by rw [intsV_length]; exact h)] at hu; cases hu
  rw [addr_add, h j hj]
  simp only [intsV, List.getElem?_map, List.getElem?_eq_getElem hj, Option.map_some, Option.some.injEq] at hu
  rw [← hu]
  simp [List.getD, List.getElem?_eq_getElem hj]

theorem infoC : (Try.prog.info? 24).map (fun i => (i.zero, i.size, i.bytes)) = some (some (.agg #[.string .empty, .string .empty, .int .i64 0, .int .i64 0]), 4, 48) := by kernel_rfl
theorem infoN : (Try.prog.info? 3).map (fun i => (i.zero, i.size, i.bytes)) = some (some (.int .i64 0), 1, 8) := by kernel_rfl

/-- 'append(out, l...)' on a row of the call's own, l whatever items -/
theorem wpList_append_its {ops : Array Oper} {rest : List Oper} {o : Oper} {a : Act} {Q : Exit → Act → World → Prop} {w : World} (hgd : o.guard = none) (s x : Operand)
    (ho : o.op = .call { callee := .builtin .append, args := #[s, x], argTypes := #[25, 25] }) (base B : Nat) (v vx : Value) (l m : List Cm.It)
    (hs : a.eval s = v) (hown : OwnC w base v l) (hx : a.eval x = vx) (hb : Its w B vx m) (hlen : Hid (l.length + m.length ≤ 1099511627)) (hbase : base ≤ w.heap.size)
    (h : ∀ v' w', OwnC w' base v' (l ++ m) → w.grownBy w' v.ownBlock → wpList Try.prog ops Q rest (a.put o.dst v') w') :
    wpList Try.prog ops Q (o :: rest) a w := by
  obtain ⟨i0, hi, hz0, hz1, hz2⟩ := info_parts infoC
  have hl := hlen.out
  obtain ⟨ad, c, rfl, hle, hn, hcells⟩ := hb
  cases ad with
  | none =>
    have hc0 := hn rfl
    subst hc0
    have hm : m = [] := List.eq_nil_of_length_eq_zero (by omega)
    subst hm
    refine wpList_append_own_none hgd s x 25 ho base 24 i0 4 Try.underlying25 hi v l.length (itsV l) hs hown hx ?_
    refine h v w ?_ ⟨rfl, rfl, rfl, Nat.le_refl _, fun _ _ _ => rfl⟩
    rw [List.append_nil]; exact hown
  | some ad =>
    refine wpList_append_own _ hgd s x 25 ho base 24 i0 _ 4 48 Try.underlying25 hi hz0 hz1 hz2 rfl (by decide) v l.length (itsV l) hs hown ad m.length c (itsV m) hx (itsV_length m) ?_ (itsV_one m) ?_ ?_ hbase ?_
    · by_cases hne : m = []
      · subst hne; intro j u hu; simp [itsV] at hu
      · obtain ⟨b, o', e, _, hcell⟩ := hcells hne
        simp only [Option.some.injEq] at e
        subst e
        exact its_news hcell
    · unfold maxLen; omega
    · omega
    · intro v' w' h1 h2 _
      refine h v' w' ?_ h2
      unfold OwnC; rw [itsV_append, List.length_append]; exact h1
theorem wpList_append_ints {ops : Array Oper} {rest : List Oper} {o : Oper} {a : Act} {Q : Exit → Act → World → Prop} {w : World} (hgd : o.guard = none) (s x : Operand)
    (ho : o.op = .call { callee := .builtin .append, args := #[s, x], argTypes := #[26, 26] }) (base B : Nat) (v vx : Value) (l m : List Int)
    (hs : a.eval s = v) (hown : OwnN w base v l) (hx : a.eval x = vx) (hb : Ints w B vx m) (hlen : Hid (l.length + m.length ≤ 1099511627)) (hbase : base ≤ w.heap.size)
    (h : ∀ v' w', OwnN w' base v' (l ++ m) → w.grownBy w' v.ownBlock → wpList Try.prog ops Q rest (a.put o.dst v') w') :
    wpList Try.prog ops Q (o :: rest) a w := by
  obtain ⟨i0, hi, hz0, hz1, hz2⟩ := info_parts infoN
  have hl := hlen.out
  obtain ⟨ad, c, rfl, hle, hn, hcells⟩ := hb
  cases ad with
  | none =>
    have hc0 := hn rfl
    subst hc0
    have hm : m = [] := List.eq_nil_of_length_eq_zero (by omega)
    subst hm
    refine wpList_append_own_none hgd s x 26 ho base 3 i0 1 Try.underlying26 hi v l.length (intsV l) hs hown hx ?_
    refine h v w ?_ ⟨rfl, rfl, rfl, Nat.le_refl _, fun _ _ _ => rfl⟩
    rw [List.append_nil]; exact hown
  | some ad =>
    refine wpList_append_own _ hgd s x 26 ho base 3 i0 _ 1 8 Try.underlying26 hi hz0 hz1 hz2 rfl (by decide) v l.length (intsV l) hs hown ad m.length c (intsV m) hx (by rw [intsV_length, Nat.mul_one]) ?_ (intsV_one m) ?_ ?_ hbase ?_
    · by_cases hne : m = []
      · subst hne; intro j u hu; simp [intsV] at hu
      · obtain ⟨b, o', e, _, hcell⟩ := hcells hne
        simp only [Option.some.injEq] at e
        subst e
        exact ints_news hcell
    · unfold maxLen; omega
    · omega
    · intro v' w' h1 h2 _
      refine h v' w' ?_ h2
      unfold OwnN intsV; rw [List.map_append, List.length_append]; exact h1

set_option maxRecDepth 100000 in
set_option maxHeartbeats 1000000 in
theorem CloneC_any (l : List Cm.It) (v : Value) (B : Nat) (w : World) (hv : Its w B v l) (hB : B ≤ w.heap.size) (hl : l.length ≤ 1000000) :
    Calls Try.prog 24 #[v] w fun e w' => ∃ v', e = .returned v' ∧ OwnC w' w.heap.size v' l ∧ Below w.heap.size w w' := by
  have hv0 := hv
  obtain ⟨ad, c, rfl, _, hn, _⟩ := hv0
  cases ad with
  | none =>
    have hc0 := hn rfl
    subst hc0
    have hm : l = [] := List.eq_nil_of_length_eq_zero (by omega)
    subst hm
    have hnil := fun W : World => Lib.run_eql_slice_nil (P := Try.prog) W 25 24 none 0 0 0 0 Try.underlying25
    go_enter Try.func24, Try.ntmps24
    go_wp2
    go_ret
    exact ⟨_, rfl, OwnC.nil _ _, Below.refl _ _⟩
  | some x =>
    have Hl : Hid (([] : List Cm.It).length + l.length ≤ 1099511627) := by show _ ≤ _; simp; omega
    clear hl
    have h0 : OwnC (w.alloc (.cells #[] 24)) w.heap.size (.slice (some ⟨w.heap.size, 0, none⟩) 0 0) [] := World.ownsRow_lit (size := 4) w #[] 0 (Nat.le_refl _) (by decide) rfl
    have hnil := fun W : World => Lib.run_eql_slice_nil (P := Try.prog) W 25 24 (some x) l.length c 0 0 Try.underlying25
    go_enter Try.func24, Try.ntmps24
    go_wp2_with (at_builtin; go_must (refine wpList_append_its rfl (.tmp 5) (.tmp 6) rfl w.heap.size B _ _ [] l rfl h0 rfl (hv.alloc hB _) Hl (by simp) ?_))
    intro v' w' h1 h2
    go_wp2
    go_ret
    exact ⟨_, rfl, h1, ((Below.refl _ w).alloc (Nat.le_refl _) _).grown h2 (by simp) fun k hk => (World.ownsRow.lt h0 k hk).1⟩
set_option maxRecDepth 100000 in
set_option maxHeartbeats 1000000 in
theorem CloneN_any (l : List Int) (v : Value) (B : Nat) (w : World) (hv : Ints w B v l) (hB : B ≤ w.heap.size) (hl : l.length ≤ 1000000) :
    Calls Try.prog 36 #[v] w fun e w' => ∃ v', e = .returned v' ∧ OwnN w' w.heap.size v' l ∧ Below w.heap.size w w' := by
  have hv0 := hv
  obtain ⟨ad, c, rfl, _, hn, _⟩ := hv0
  cases ad with
  | none =>
    have hc0 := hn rfl
    subst hc0
    have hm : l = [] := List.eq_nil_of_length_eq_zero (by omega)
    subst hm
    have hnil := fun W : World => Lib.run_eql_slice_nil (P := Try.prog) W 26 3 none 0 0 0 0 Try.underlying26
    go_enter Try.func36, Try.ntmps36
    go_wp2
    go_ret
    exact ⟨_, rfl, OwnN.nil _ _, Below.refl _ _⟩
  | some x =>
    have Hl : Hid (([] : List Int).length + l.length ≤ 1099511627) := by show _ ≤ _; simp; omega
    clear hl
    have h0 : OwnN (w.alloc (.cells #[] 3)) w.heap.size (.slice (some ⟨w.heap.size, 0, none⟩) 0 0) [] := World.ownsRow_lit (size := 1) w #[] 0 (Nat.le_refl _) (by decide) rfl
    have hnil := fun W : World => Lib.run_eql_slice_nil (P := Try.prog) W 26 3 (some x) l.length c 0 0 Try.underlying26
    go_enter Try.func36, Try.ntmps36
    go_wp2_with (at_builtin; go_must (refine wpList_append_ints rfl (.tmp 5) (.tmp 6) rfl w.heap.size B _ _ [] l rfl h0 rfl (hv.alloc hB _) Hl (by simp) ?_))
    intro v' w' h1 h2
    go_wp2
    go_ret
    exact ⟨_, rfl, h1, ((Below.refl _ w).alloc (Nat.le_refl _) _).grown h2 (by simp) fun k hk => (World.ownsRow.lt h0 k hk).1⟩
end Go.Proofs.Ytplfcpbjlhobeaa
