/-
  THE WALKS OF New, and of Text and List on no cursor.
-/
import Derived.Test.YtoablejghckaeaaKit
import Derived.Test.YtoablejghckaeaaCur
import Derived.Laws.AppendOwnNone
namespace Go.Proofs.Ytoablejghckaeaa
open Go.RowKit

theorem Text_nil (most : Int) (w : World) :
    Calls Try.prog 16 #[.pointer none, .int .i64 most] w fun e w' => e = .returned (.tuple #[.string .empty, .int .i64 1]) ∧ Below w.heap.size w w' := by
  go_enter_defers Try.func16, Try.ntmps16
  go_wp2
  simp only [bodyPostD, Leaves, results, Try.results16]
  simp [go_sem]
  exact ⟨rfl, ((Below.refl _ w).alloc (Nat.le_refl _) _).alloc (by simp) _⟩
theorem List_nil (most longest : Int) (w : World) :
    Calls Try.prog 17 #[.pointer none, .int .i64 most, .int .i64 longest] w fun e w' => e = .returned (.tuple #[.slice none 0 0, .int .i64 1]) ∧ Below w.heap.size w w' := by
  go_enter_defers Try.func17, Try.ntmps17
  go_wp2
  simp only [bodyPostD, Leaves, results, Try.results17]
  simp [go_sem]
  exact ((Below.refl _ w).alloc (Nat.le_refl _) _).alloc (by simp) _

theorem bV_oneCell (l : List UInt8) : ∀ u ∈ bV l, u.oneCell' = true := by
  intro u hu
  simp only [bV, List.mem_map] at hu
  obtain ⟨b, _, rfl⟩ := hu
  rfl

/-- the cells that an append copies -/
theorem byts_news {w : World} {b o : Nat} {l : List UInt8} (h : ∀ j, j < l.length → w.cell? ⟨b, o + j, none⟩ = some (.int .u8 ((l.getD j 0).toNat : Int))) :
    ∀ j u, (bV l)[j]? = some u → w.cell? ((⟨b, o, none⟩ : Addr).add j) = some u := by
  intro j u hu
  have hj : j < l.length := by
    rcases Nat.lt_or_ge j l.length with h | h
    · exact h
    · rw [List.getElem?_eq_none (by rw [bV_length]; exact h)] at hu; cases hu
  have e : (⟨b, o, none⟩ : Addr).add j = ⟨b, o + j, none⟩ := by unfold Addr.add; split <;> simp_all
  rw [e, h j hj]
  simp only [bV, List.getElem?_map, List.getElem?_eq_getElem hj, Option.map_some, Option.some.injEq] at hu
  rw [← hu]
  simp [List.getD, List.getElem?_eq_getElem hj]

/-- 'append(out, b...)' on a row of the call's own, b whatever bytes -/
theorem wpList_append_byts {ops : Array Oper} {rest : List Oper} {o : Oper} {a : Act} {Q : Exit → Act → World → Prop} {w : World} (hgd : o.guard = none) (s x : Operand)
    (ho : o.op = .call { callee := .builtin .append, args := #[s, x], argTypes := #[24, 24] }) (base B : Nat) (v vx : Value) (l m : List UInt8)
    (hs : a.eval s = v) (hown : Own w base v l) (hx : a.eval x = vx) (hb : Byts w B vx m) (hlen : Hid (l.length + m.length ≤ 1099511627800)) (hbase : base ≤ w.heap.size)
    (h : ∀ v' w', Own w' base v' (l ++ m) → w.grownBy w' v.ownBlock → wpList Try.prog ops Q rest (a.put o.dst v') w') :
    wpList Try.prog ops Q (o :: rest) a w := by
  obtain ⟨i0, hi, hz0, hz1, hz2⟩ := info_parts info5
  have hl := hlen.out
  obtain ⟨ad, c, rfl, hle, hn, hcells⟩ := hb
  cases ad with
  | none =>
    have hc0 := hn rfl
    subst hc0
    have hm : m = [] := List.eq_nil_of_length_eq_zero (by omega)
    subst hm
    refine wpList_append_own_none hgd s x 24 ho base 5 i0 1 Try.underlying24 hi v l.length (bV l) hs hown hx ?_
    refine h v w ?_ (grownBy_refl w _)
    rw [List.append_nil]; exact hown
  | some ad =>
    refine wpList_append_own _ hgd s x 24 ho base 5 i0 (.int .u8 0) 1 1 Try.underlying24 hi hz0 hz1 hz2 rfl (by decide) v l.length (bV l) hs hown ad m.length c (bV m) hx (by rw [bV_length, Nat.mul_one]) ?_ (bV_oneCell m) ?_ ?_ hbase ?_
    · by_cases hne : m = []
      · subst hne; intro j u hu; simp [bV] at hu
      · obtain ⟨b, o', e, _, hcell⟩ := hcells hne
        simp only [Option.some.injEq] at e
        subst e
        exact byts_news hcell
    · unfold maxLen; omega
    · omega
    · intro v' w' h1 h2 _
      refine h v' w' ?_ h2
      unfold Own; rw [bV_append, List.length_append]; exact h1

set_option maxRecDepth 100000 in
theorem New_any (v : Value) (bs : List UInt8) (B : Nat) (w : World) (hb : Byts w B v bs) (hbs : bs.length ≤ 1099511627776) :
    Calls Try.prog 14 #[v] w fun e w' => ∃ p v', e = .returned (.pointer (some ⟨p, 0, none⟩)) ∧ w.heap.size ≤ p ∧ HasCur w' p v' 0 ∧ Own w' w.heap.size v' bs ∧ Below w.heap.size w w' := by
  have Hl : Hid (([] : List UInt8).length + bs.length ≤ 1099511627800) := by show _ ≤ _; simp; omega
  clear hbs
  go_enter Try.func14, Try.ntmps14
  go_wp2_with (at_builtin; go_must (refine wpList_append_byts rfl (.const (.slice none 0 0)) (.tmp 3) rfl w.heap.size B _ _ [] bs rfl (Own.nil _ _) rfl hb Hl (Nat.le_refl _) ?_))
  intro v' w1 ho hg
  have hs := hg.size
  obtain ⟨ad, c, hv, _⟩ := ho.byts
  subst hv
  go_wp2
  go_ret
  refine ⟨w1.heap.size, _, rfl, hs, heap_alloc_new w1 _, ho.alloc _, ?_⟩
  exact ((Below.refl _ w).grown hg (Nat.le_refl _) (by intro k hk; simp [Value.ownBlock] at hk)).alloc hs _

end Go.Proofs.Ytoablejghckaeaa
