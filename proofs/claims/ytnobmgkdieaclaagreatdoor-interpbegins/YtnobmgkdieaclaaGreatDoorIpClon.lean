/-
  WHAT cloneCode DOES.
-/
import Derived.Test.YtnobmgkdieaclaaGreatDoorIpAns
import Derived.Test.YtnobmgkdieaclaaGreatDoorIpMay
namespace Go.Proofs.YtnobmgkdieaclaaGreatDoor
open Go.RowKit

section
theorem Rc.appendW {α : Type} {ops : Array Oper} {rest : List Oper} {o : Oper} {a : Act} {Q : Exit → Act → World → Prop} {w : World} (R : Rc α) (hgd : o.guard = none) (s x : Operand)
    (ho : o.op = .call { callee := .builtin .append, args := #[s, x], argTypes := #[R.st, R.st] }) (base B : Nat) (v vx : Value) (l m : List α)
    (hs : a.eval s = v) (hown : R.Own w base v l) (hx : a.eval x = vx) (hb : R.Sl w B vx m) (hlen : Hid (l.length + m.length ≤ 9223372036854775807 ∧ (l.length + m.length) * R.bytes ≤ 140737488355328)) (hbase : base ≤ w.heap.size)
    (h : ∀ v' w', R.Own w' base v' (l ++ m) → w.grownBy w' v.ownBlock → wpList Tryz.prog ops Q rest (a.put o.dst v') w') :
    wpList Tryz.prog ops Q (o :: rest) a w := by
  obtain ⟨i0, hi, hz0, hz1, hz2⟩ := info_parts R.info
  have hl := hlen.out
  obtain ⟨ad, c, rfl, hle, hn, hcells⟩ := hb
  cases ad with
  | none =>
    have hc0 := hn rfl
    subst hc0
    have hm : m = [] := List.eq_nil_of_length_eq_zero (by omega)
    subst hm
    refine wpList_append_own_none hgd s x R.st ho base R.e i0 R.k R.under hi v l.length (R.vals l) hs hown hx ?_
    refine h v w ?_ ⟨rfl, rfl, rfl, Nat.le_refl _, fun _ _ _ => rfl⟩
    rw [List.append_nil]; exact hown
  | some ad =>
    refine wpList_append_own _ hgd s x R.st ho base R.e i0 _ R.k R.bytes R.under hi hz0 hz1 hz2 R.zk R.pos v l.length (R.vals l) hs hown ad m.length c (R.vals m) hx (R.vals_length m) ?_ (R.vals_one m) ?_ ?_ hbase ?_
    · by_cases hne : m = []
      · subst hne; intro j u hu; simp [Rc.vals] at hu
      · obtain ⟨b, o', e, _, hcell⟩ := hcells hne
        simp only [Option.some.injEq] at e
        subst e
        intro j u hu
        rw [addr_at]
        exact hcell j u hu
    · unfold maxLen; omega
    · exact hl.2
    · intro v' w' h1 h2 _
      refine h v' w' ?_ h2
      unfold Rc.Own; rw [R.vals_append, List.length_append]; exact h1
end

set_option maxRecDepth 100000 in
theorem CloneT_wide (l : List (List UInt8)) (v : Value) (B : Nat) (w : World) (hv : TxR.Sl w B v l) (hB : B ≤ w.heap.size) (hl : l.length * 16 ≤ 140737488351232) :
    Calls Tryz.prog 45 #[v] w fun e w' => ∃ a n c, e = .returned (.slice a n c) ∧ TxR.Own w' w.heap.size (.slice a n c) l ∧ Below w.heap.size w w' := by
  have hv0 := hv
  obtain ⟨ad, c, rfl, _, hn, _⟩ := hv0
  cases ad with
  | none =>
    have hc0 := hn rfl
    subst hc0
    have hm : l = [] := List.eq_nil_of_length_eq_zero (by omega)
    subst hm
    have hnil := fun W : World => Lib.run_eql_slice_nil (P := Tryz.prog) W 23 9 none 0 0 0 0 Tryz.underlying23
    go_enter Tryz.func45, Tryz.ntmps45
    go_wp2
    go_ret
    exact ⟨_, _, _, rfl, Rc.Own.nil _ _, Below.refl _ _⟩
  | some x =>
    have Hl : Hid (([] : List (List UInt8)).length + l.length ≤ 9223372036854775807 ∧ (([] : List (List UInt8)).length + l.length) * TxR.bytes ≤ 140737488355328) := ⟨by simp; omega, by show (0 + l.length) * 16 ≤ _; omega⟩
    clear hl
    have h0 : TxR.Own (w.alloc (.cells #[] 9)) w.heap.size (.slice (some ⟨w.heap.size, 0, none⟩) 0 0) [] := World.ownsRow_lit (size := 1) w #[] 0 (Nat.le_refl _) (by decide) rfl
    have hnil := fun W : World => Lib.run_eql_slice_nil (P := Tryz.prog) W 23 9 (some x) l.length c 0 0 Tryz.underlying23
    go_enter Tryz.func45, Tryz.ntmps45
    go_wp2_with (at_builtin; go_must (refine Rc.appendW TxR rfl (.tmp 5) (.tmp 6) rfl w.heap.size B _ _ [] l rfl h0 rfl (hv.alloc hB _) Hl (by simp) ?_))
    intro v' w' h1 h2
    obtain ⟨a7, n7, c7, rfl⟩ := h1.isSl
    go_wp2
    go_ret
    exact ⟨_, _, _, rfl, h1, ((Below.refl _ w).alloc (Nat.le_refl _) _).grown h2 (by simp) fun k hk => (World.ownsRow.lt h0 k hk).1⟩


theorem Rc.Own.rwI {α : Type} {R : Rc α} {w : World} {base : Nat} {v : Value} {l : List α} (h : R.Own w base v l) {g : Nat} (hg : v.ownBlock = some g) : ∃ cs, Rw w g cs R.e := by
  rcases h.2 with ⟨rfl, _⟩ | ⟨k, cap, cur, rfl, _, hgg, _⟩
  · simp [Value.ownBlock] at hg
  · simp only [Value.ownBlock, Option.some.injEq] at hg
    subst hg
    exact ⟨cur, hgg⟩
theorem Rc.Own.setAt {α : Type} {R : Rc α} {w : World} {base g n c : Nat} {l : List α} (h : R.Own w base (.slice (some ⟨g, 0, none⟩) n c) l) (k f : Nat) (hk : k < l.length) (hf : f < R.k) :
    w.frozen? ⟨g, k * R.k + f, none⟩ = false ∧ ∀ (x : α) (u : Value), R.enc x = (R.enc l[k]).set f u → R.Own (w.setCell ⟨g, k * R.k + f, none⟩ u) base (.slice (some ⟨g, 0, none⟩) n c) (l.set k x) := by
  obtain ⟨g', cap, e, -, -, h1, h2⟩ := h.set k f hk hf
  simp only [Value.slice.injEq, Option.some.injEq, Addr.mk.injEq, and_true] at e
  obtain ⟨rfl, rfl, rfl⟩ := e
  exact ⟨h1, h2⟩
theorem Rc.Own.cellAt {α : Type} {R : Rc α} {w : World} {base g n c : Nat} {l : List α} (h : R.Own w base (.slice (some ⟨g, 0, none⟩) n c) l) (k f : Nat) (hk : k < l.length) (hf : f < R.k) {u : Value} (hu : (R.enc l[k])[f]? = some u) : w.cell? ⟨g, k * R.k + f, none⟩ = some u := by
  obtain ⟨b, o, c', e, -, hc⟩ := h.sl.cells k hk
  simp only [Value.slice.injEq, Option.some.injEq, Addr.mk.injEq, and_true] at e
  obtain ⟨⟨rfl, rfl⟩, -, -⟩ := e
  have := hc f u hf hu
  rwa [Nat.zero_add] at this
theorem take_set_at {α : Type} : ∀ (l : List α) (k : Nat) (x : α), k < l.length → (l.set k x).take (k + 1) = l.take k ++ [x]
  | [], _, _, h => by simp at h
  | _ :: _, 0, _, _ => by simp
  | a :: r, k + 1, x, h => by
    show a :: (r.set k x).take (k + 1) = a :: (r.take k ++ [x])
    rw [take_set_at r k x (by simpa using h)]
/-- how wide statements can be that are copied -/
def Ac.lite : Ac.Fo → Prop
  | .nil => True
  | .cons _ a _ b t => a.length * 16 ≤ 140737488351232 ∧ b.len ≤ 1000000 ∧ Ac.lite b ∧ Ac.lite t
theorem Ac.lite_at : ∀ {f : Ac.Fo} {k : Nat} {o : Int} {a : List (List UInt8)} {n : Int} {b r : Ac.Fo}, Ac.lite f → f.drop k = .cons o a n b r → a.length * 16 ≤ 140737488351232 ∧ b.len ≤ 1000000 ∧ Ac.lite b
  | .nil, k, _, _, _, _, _, _, e => by rw [Ac.Fo.drop_nil] at e; cases e
  | .cons _ _ _ _ _, 0, _, _, _, _, _, h, e => by
    simp only [Ac.Fo.drop, Ac.Fo.cons.injEq] at e
    obtain ⟨rfl, rfl, rfl, rfl, rfl⟩ := e
    exact ⟨h.1, h.2.1, h.2.2.1⟩
  | .cons _ _ _ _ _, k + 1, _, _, _, _, _, h, e => Ac.lite_at (k := k) h.2.2.2 e
theorem Ac.take_all : ∀ f : Ac.Fo, f.take f.len = f
  | .nil => rfl
  | .cons _ _ _ _ t => by rw [Ac.Fo.len, Ac.Fo.take, Ac.take_all t]
theorem Ac.take_next' : ∀ {f : Ac.Fo} {k : Nat} {o : Int} {a : List (List UInt8)} {n : Int} {b r : Ac.Fo}, f.drop k = .cons o a n b r → f.take (k + 1) = (f.take k).app (.cons o a n b .nil)
  | .nil, k, _, _, _, _, _, e => by rw [Ac.Fo.drop_nil] at e; cases e
  | .cons _ _ _ _ t, 0, _, _, _, _, _, e => by
    simp only [Ac.Fo.drop, Ac.Fo.cons.injEq] at e
    obtain ⟨rfl, rfl, rfl, rfl, rfl⟩ := e
    cases t <;> simp [Ac.Fo.take, Ac.Fo.app]
  | .cons _ _ _ _ t, k + 1, _, _, _, _, _, e => by
    have := Ac.take_next' (f := t) (k := k) e
    rw [Ac.Fo.take, Ac.Fo.take, this]
    rfl
set_option maxRecDepth 100000 in
set_option maxHeartbeats 2000000 in
theorem cloneCode_any : ∀ (f : Ac.Fo) (v : Value) (w : World) (B : Nat), FoS w B v f → B ≤ w.heap.size → f.len ≤ 1000000 → Ac.lite f →
    Calls Tryz.prog 46 #[v] w fun e w' => ∃ a n c, e = .returned (.slice a n c) ∧ FoNew w' w.heap.size (.slice a n c) f ∧ Below w.heap.size w w' := by
  refine Ac.fo_ind fun f ih => ?_
  intro v w B h hB hl hli
  obtain ⟨rs, h1, h2⟩ := h
  have hlen := h2.len
  have hCl := CloneS_any rs v B w h1 hB (by omega)
  have HI : Hid _ := ih
  clear ih
  go_enter Tryz.func46, Tryz.ntmps46
  go_upto_region 2 with (first | (go_at_call 64; refine hCl.mono ?_; rintro e w1 ⟨ao, no, co, rfl, p1, hb1⟩) | fail)
  obtain ⟨ad0, c0, e0, -⟩ := p1.sl.shape
  simp only [Value.slice.injEq] at e0
  obtain ⟨rfl, rfl, rfl⟩ := e0
  rw [hlen] at p1 ⊢
  have lb : (f.len : Int) ≤ 1000000 := by omega
  have HL : Hid (Ac.lite f) := hli
  have H2 : Hid (FoRow w B f rs) := h2
  have HB : Hid (B ≤ w.heap.size) := hB
  clear hCl hli h2 h1 hB
  go_wp2
  go_loopw [10] (fun i wr => ∃ (k : Nat) (qs : List RawS), k ≤ f.len ∧ i = .int .i64 (k : Int) ∧ qs.length = f.len ∧ SmR.Own wr w.heap.size (.slice ao f.len co) qs ∧ Els wr w.heap.size (Value.slice ao f.len co).ownBlock (f.take k) (qs.take k) ∧ Hid (qs.drop k = rs.drop k) ∧ Below w.heap.size w wr) (fun i _ => f.len - (intOf i).toNat)
  case atStart => exact ⟨0, rs, Nat.zero_le _, rfl, hlen, p1, by cases f <;> exact rfl, rfl, hb1⟩
  case round =>
    obtain ⟨k, qs, hk, rfl, hql, hown, hels, HD, hbw⟩ := hrel
    by_cases hlt : k < f.len
    · have i1 : (k : Int) < (f.len : Int) := by omega
      obtain ⟨o, a, n, b, r, e⟩ := Ac.Fo.drop_lt hlt
      have hkr : k < rs.length := by omega
      have hkq : k < qs.length := by omega
      have hqr : qs[k] = rs[k] := by
        have := HD.out
        rw [List.drop_eq_getElem_cons hkq, List.drop_eq_getElem_cons hkr] at this
        exact (List.cons.inj this).1
      obtain ⟨e1, e2, e3, e4⟩ := H2.out.at e hkr
      rw [← hqr] at e1 e2 e3 e4
      obtain ⟨l1, l2, l3⟩ := Ac.lite_at HL.out e
      obtain ⟨g, og, c', ev, hg2, hc⟩ := hown.sl.cells k hkq
      obtain ⟨g', cap, ev', hg1, -⟩ := hown.set k 1 hkq (by decide)
      have ev2 := ev.symm.trans ev'
      simp only [Value.slice.injEq, Option.some.injEq, Addr.mk.injEq, and_true, true_and] at ev ev' ev2
      obtain ⟨⟨rfl, rfl⟩, -⟩ := ev2
      obtain ⟨rfl, -, rfl⟩ := ev
      clear ev'
      have e5 := e3.shape
      have e6 := e4.shape
      obtain ⟨cs, hcs⟩ := Rc.Own.rwI hown (g := g) rfl
      obtain ⟨q, hq⟩ : ∃ q, qs[k] = q := ⟨_, rfl⟩
      rw [hq] at hc e1 e2 e3 e4 e5 e6 hqr
      obtain ⟨qo, qaa, qan, qac, qn, qba, qbn, qbc⟩ := q
      simp only at e1 e2
      subst e1 e2
      obtain ⟨_, _, e5, -⟩ := e5
      obtain ⟨_, _, e6, -⟩ := e6
      simp only [RawS.args, RawS.body, Value.slice.injEq] at e5 e6
      obtain ⟨-, rfl, -⟩ := e5
      obtain ⟨-, rfl, -⟩ := e6
      have k0 : wr.cell? ⟨g, k * 4, none⟩ = some (.int .i64 qo) := by have := hc 0 _ (by decide) rfl; rwa [Nat.zero_add] at this
      have k1 : wr.cell? ⟨g, k * 4 + 1, none⟩ = some (.slice qaa a.length qac) := by have := hc 1 _ (by decide) rfl; rwa [Nat.zero_add] at this
      have k2 : wr.cell? ⟨g, k * 4 + 2, none⟩ = some (.int .i64 qn) := by have := hc 2 _ (by decide) rfl; rwa [Nat.zero_add] at this
      have k3 : wr.cell? ⟨g, k * 4 + 3, none⟩ = some (.slice qba b.len qbc) := by have := hc 3 _ (by decide) rfl; rwa [Nat.zero_add] at this
      have rZ := Rw.new wr #[.int .i64 qo, .slice qaa a.length qac, .int .i64 qn, .slice qba b.len qbc] 75
      have bZ := (Below.refl wr.heap.size wr).alloc (Nat.le_refl _) (.cells #[.int .i64 qo, .slice qaa a.length qac, .int .i64 qn, .slice qba b.len qbc] 75)
      have zZ := size_alloc wr (.cells #[.int .i64 qo, .slice qaa a.length qac, .int .i64 qn, .slice qba b.len qbc] 75)
      go_upto_region 5 with fail
      generalize wr.alloc (.cells #[.int .i64 qo, .slice qaa a.length qac, .int .i64 qn, .slice qba b.len qbc] 75) = Z at *
      have z1 : Z.cell? ⟨wr.heap.size, 1, none⟩ = some (.slice qaa a.length qac) := rZ.cell 1
      have bwZ := hbw.trans (bZ.mono hbw.size)
      have hCt := CloneT_wide a (.slice qaa a.length qac) B Z (e3.below bwZ HB.out) (by have := HB.out; have := bwZ.size; omega) l1
      have hOZ := hown.below bZ (Nat.le_refl _)
      go_upto_region 6 with (first | (go_at_call 45; refine hCt.mono ?_; rintro e w2 ⟨aa', an', ac', rfl, pa, hb2⟩; have hO2 := hOZ.below hb2 (Nat.le_refl _); obtain ⟨f2, hS2⟩ := hO2.setAt k 1 hkq (by decide); replace f2 : w2.frozen? ⟨g, k * 4 + 1, none⟩ = false := f2; have c2 : w2.cell? ⟨g, k * 4 + 1, none⟩ = some (.slice qaa a.length qac) := ((bZ.trans (hb2.mono bZ.size)).cell (p := ⟨g, k * 4 + 1, none⟩) hg2).trans k1) | fail)
      have HS2 : Hid _ := hS2 ⟨qo, aa', an', ac', qn, qba, b.len, qbc⟩ (.slice aa' an' ac') (by rw [hq]; rfl)
      have T1 : Turn [g] Z (w2.setCell ⟨g, k * 4 + 1, none⟩ (.slice aa' an' ac')) := ((Turn.of_below hb2).mono (S' := [g]) (by simp)).trans (Turn.put1 w2 g (k * 4 + 1) _) (fun b hb _ => hb)
      have hn2 := pa.lt
      have pa' := pa.put g (k * 4 + 1) (.slice aa' an' ac') (by omega)
      have hOV := HS2.out
      change SmR.Own (w2.setCell ⟨g, k * 4 + 1, none⟩ (.slice aa' an' ac')) _ _ _ at hOV
      have z2 : w2.heap.size = (w2.setCell ⟨g, k * 4 + 1, none⟩ (.slice aa' an' ac')).heap.size := (size_setCell _ _ _).symm
      clear hS2 HS2 f2 c2 hO2 pa hCt
      generalize w2.setCell ⟨g, k * 4 + 1, none⟩ (.slice aa' an' ac') = V1 at *
      have bV : Below w.heap.size w V1 := T1.bel bwZ (by simp; omega)
      have z3 : V1.cell? ⟨wr.heap.size, 3, none⟩ = some (.slice qba b.len qbc) := (rZ.turn T1 (by simp; omega)).cell 3
      have hCc := HI.out k qo a qn b r e (.slice qba b.len qbc) V1 B (e4.below bV HB.out) (by have := HB.out; have := bV.size; omega) l2 l3
      go_upto_region 7 with (first | (go_at_call 46; refine hCc.mono ?_; rintro e w3 ⟨ba', bn', bc', rfl, pb, hb3⟩; have hO3 := hOV.below hb3 (Nat.le_refl _); obtain ⟨f3, hS3⟩ := hO3.setAt k 3 (by simp; omega) (by decide); replace f3 : w3.frozen? ⟨g, k * 4 + 3, none⟩ = false := f3; have c3 : w3.cell? ⟨g, k * 4 + 3, none⟩ = some (.slice qba b.len qbc) := hO3.cellAt k 3 (by simp; omega) (by decide) (by rw [List.getElem_set_self]; rfl)) | fail)
      have HS3 : Hid _ := hS3 ⟨qo, aa', an', ac', qn, ba', bn', bc'⟩ (.slice ba' bn' bc') (by rw [List.getElem_set_self]; rfl)
      have T2 : Turn [g] V1 (w3.setCell ⟨g, k * 4 + 3, none⟩ (.slice ba' bn' bc')) := ((Turn.of_below hb3).mono (S' := [g]) (by simp)).trans (Turn.put1 w3 g (k * 4 + 3) _) (fun b hb _ => hb)
      have hOW := HS3.out
      rw [List.set_set] at hOW
      change SmR.Own (w3.setCell ⟨g, k * 4 + 3, none⟩ (.slice ba' bn' bc')) _ _ _ at hOW
      have z4 : w3.heap.size = (w3.setCell ⟨g, k * 4 + 3, none⟩ (.slice ba' bn' bc')).heap.size := (size_setCell _ _ _).symm
      have hFp := (pb.foP (P := fun q => V1.heap.size ≤ q ∧ q < w3.heap.size) (fun _ h1 h2 => ⟨h1, h2⟩)).keep (w' := w3.setCell ⟨g, k * 4 + 3, none⟩ (.slice ba' bn' bc')) (P' := fun q => w.heap.size ≤ q ∧ q < (w3.setCell ⟨g, k * 4 + 3, none⟩ (.slice ba' bn' bc')).heap.size ∧ (Value.slice (some ⟨g, 0, none⟩) f.len co).ownBlock ≠ some q) (fun q hq => (Turn.put1 w3 g (k * 4 + 3) _).block q hq.2 (by have := T1.size; simp; omega)) (fun q hq => ⟨by have := bV.size; omega, by omega, by have := T1.size; simp [Value.ownBlock]; omega⟩)
      have hpA := (pa'.turnP T2 (fun q hq => by have := hn2 q hq; simp; omega)).low (B' := w.heap.size) (by have := hbw.size; omega)
      have TT : Turn [g] wr (w3.setCell ⟨g, k * 4 + 3, none⟩ (.slice ba' bn' bc')) := (((Turn.of_below bZ).mono (S' := [g]) (by simp)).trans T1 (fun b hb _ => hb)).trans T2 (fun b hb _ => hb)
      have hE2 := (Els.turn TT (own' := (Value.slice (some ⟨g, 0, none⟩) f.len co).ownBlock) (fun x hx => by
        rw [List.mem_singleton] at hx
        subst hx
        exact .inr ⟨rfl, cs, _, hcs, by decide⟩) (fun _ _ h => h) hels).snoc (op := qo) (a := a) (n := qn) (b := b) (r := ⟨qo, aa', an', ac', qn, ba', bn', bc'⟩) rfl rfl hpA hFp
      have htk : (qs.set k ⟨qo, aa', an', ac', qn, ba', bn', bc'⟩).take (k + 1) = qs.take k ++ [⟨qo, aa', an', ac', qn, ba', bn', bc'⟩] := take_set_at qs k _ hkq
      have hdr : (qs.set k ⟨qo, aa', an', ac', qn, ba', bn', bc'⟩).drop (k + 1) = rs.drop (k + 1) := by
        rw [List.drop_set_of_lt (by omega)]
        have := congrArg (List.drop 1) HD.out
        simpa [List.drop_drop] using this
      rw [← Ac.take_next' e, ← htk] at hE2
      have hEnd : Hid (SmR.Own (w3.setCell ⟨g, k * 4 + 3, none⟩ (.slice ba' bn' bc')) w.heap.size (Value.slice (some ⟨g, 0, none⟩) f.len co) (qs.set k ⟨qo, aa', an', ac', qn, ba', bn', bc'⟩) ∧ Els (w3.setCell ⟨g, k * 4 + 3, none⟩ (.slice ba' bn' bc')) w.heap.size (Value.slice (some ⟨g, 0, none⟩) f.len co).ownBlock (f.take (k + 1)) ((qs.set k ⟨qo, aa', an', ac', qn, ba', bn', bc'⟩).take (k + 1)) ∧ (qs.set k ⟨qo, aa', an', ac', qn, ba', bn', bc'⟩).drop (k + 1) = rs.drop (k + 1) ∧ Below w.heap.size w (w3.setCell ⟨g, k * 4 + 3, none⟩ (.slice ba' bn' bc'))) := ⟨hOW, hE2, hdr, T2.bel bV (by simp; omega)⟩
      clear hE2 hdr htk TT hpA hFp hOW HS3 hS3 hO3 pb f3 c3 hCc hOV hels hown
      go_wp2
      exact ⟨⟨k + 1, qs.set k ⟨qo, aa', an', ac', qn, ba', bn', bc'⟩, by omega, by go_num, by simp; omega, hEnd.out.1, hEnd.out.2.1, hEnd.out.2.2.1, hEnd.out.2.2.2⟩, by simp [intOf]; omega⟩
    · obtain rfl : k = f.len := by omega
      have i1 : ¬ (f.len : Int) < (f.len : Int) := by omega
      rw [Ac.take_all f, ← hql, List.take_length, hql] at hels
      have hN : Hid (FoNew wr w.heap.size (.slice ao f.len co) f) := ⟨qs, hown, hels⟩
      clear hels HI H2 HD HL
      go_wp2
      go_ret
      exact ⟨_, _, _, rfl, hN.out, hbw⟩
end Go.Proofs.YtnobmgkdieaclaaGreatDoor

namespace Go.Proofs.YtnobmgkdieaclaaGreatDoor
open Go.RowKit Go.MapKept Go.Maps

theorem Rc.Own.litI {α : Type} {R : Rc α} (w : World) (base n : Nat) (cs : Array Value) (l : List α) (hb : base ≤ w.heap.size) (hn : n = l.length) (hm : n ≤ 1099511627) (hcs : cs.toList = R.vals l) : R.Own (w.alloc (.cells cs R.e)) base (.slice (some ⟨w.heap.size, 0, none⟩) n n) l := by
  subst hn
  have h := World.ownsRow_lit (base := base) (e := R.e) (size := R.k) w cs l.length hb (by unfold maxLen; omega) (by rw [← Array.length_toList, hcs, R.vals_length])
  unfold Rc.Own
  rw [← hcs]
  exact h
/-- what New is handed -/
structure Handed (w : World) (B : Nat) (vc vt : Value) (f : Ac.Fo) (ts : List (List UInt8)) : Prop where
  code : FoS w B vc f
  tgs : TxR.Sl w B vt ts
  low : B ≤ w.heap.size
  len : f.len ≤ 140737488351232
  wid : Ac.wid f
  lite : Ac.may f = true → f.len ≤ 1000000 ∧ Ac.lite f
  many : ts.length ≤ 140737488351232
  wide : ∀ s ∈ ts, s.length ≤ 140737488351232
theorem Handed.below {w w' : World} {B : Nat} {vc vt : Value} {f : Ac.Fo} {ts : List (List UInt8)} (h : Handed w B vc vt f ts) (hb : Below w.heap.size w w') : Handed w' B vc vt f ts := ⟨h.code.below hb h.low, h.tgs.below hb h.low, Nat.le_trans h.low hb.size, h.len, h.wid, h.lite, h.many, h.wide⟩
set_option maxRecDepth 100000 in
set_option maxHeartbeats 1000000 in
theorem New_no (f : Ac.Fo) (ts : List (List UInt8)) (fuel : Int) (vc vt : Value) (w : World) (B : Nat) (h : Handed w B vc vt f ts) (hL : Laid w) (h1 : -9223372036854775808 ≤ fuel) (h2 : fuel ≤ 9223372036854775807) (hno : Ip.mayNew f ts fuel = false) :
    Calls Tryz.prog 14 #[vc, vt, .int .i64 fuel] w fun e w' => e = .returned (.tuple #[.pointer none, .int .i64 2]) ∧ Below w.heap.size w w' := by
  have hM := May_any f vc w B h.code h.low hL h.len h.wid
  have hT := fun W hW => mayTargets_any ts vt W B ((h.below hW).tgs) (h.below hW).low h.many h.wide
  clear h
  unfold Ip.mayNew at hno
  cases hm : Ac.may f with
  | false =>
    rw [hm] at hM
    clear hno hm
    go_enter Tryz.func14, Tryz.ntmps14
    go_wp2_with (first | (go_at_call 43; refine hM.mono ?_; rintro e w1 ⟨rfl, hb1⟩) | fail)
    go_ret2
    exact ⟨rfl, hb1⟩
  | true =>
    rw [hm, Bool.true_and] at hno
    rw [hm] at hM
    cases ht : Ip.mayT ts with
    | false =>
      rw [ht] at hT
      clear hno ht hm
      go_enter Tryz.func14, Tryz.ntmps14
      go_wp2_with (first | (go_at_call 43; refine hM.mono ?_; rintro e w1 ⟨rfl, hb1⟩) | (go_at_call 44; refine (hT _ hb1).mono ?_; rintro e w2 ⟨rfl, hb2⟩) | fail)
      go_ret2
      exact ⟨rfl, hb1.trans (hb2.mono hb1.size)⟩
    | true =>
      rw [ht, Bool.true_and, decide_eq_false_iff_not] at hno
      rw [ht] at hT
      clear ht hm
      by_cases hf : fuel < 0
      · clear hno
        go_enter Tryz.func14, Tryz.ntmps14
        go_wp2_with (first | (go_at_call 43; refine hM.mono ?_; rintro e w1 ⟨rfl, hb1⟩) | (go_at_call 44; refine (hT _ hb1).mono ?_; rintro e w2 ⟨rfl, hb2⟩) | fail)
        go_ret2
        exact ⟨rfl, hb1.trans (hb2.mono hb1.size)⟩
      · have hf2 : 65536 < fuel := by omega
        clear hno
        go_enter Tryz.func14, Tryz.ntmps14
        go_wp2_with (first | (go_at_call 43; refine hM.mono ?_; rintro e w1 ⟨rfl, hb1⟩) | (go_at_call 44; refine (hT _ hb1).mono ?_; rintro e w2 ⟨rfl, hb2⟩) | fail)
        go_ret2
        exact ⟨rfl, hb1.trans (hb2.mono hb1.size)⟩
set_option maxRecDepth 100000 in
set_option maxHeartbeats 1000000 in
theorem New_yes (f : Ac.Fo) (ts : List (List UInt8)) (fuel : Int) (vc vt : Value) (w : World) (B : Nat) (O : List Nat) (h : Handed w B vc vt f ts) (hL : Laid w) (h1 : -9223372036854775808 ≤ fuel) (h2 : fuel ≤ 9223372036854775807) (hyes : Ip.mayNew f ts fuel = true) (hO : ∀ b ∈ O, b < w.heap.size) :
    Calls Tryz.prog 14 #[vc, vt, .int .i64 fuel] w fun e w' => ∃ x, e = .returned (.tuple #[.pointer (some ⟨x.p, 0, none⟩), .int .i64 0]) ∧ RunS w' (x.own ++ O) x (Ip.new f ts fuel.toNat) ∧ (∀ b ∈ x.own, w.heap.size ≤ b) ∧ Below w.heap.size w w' := by
  have hM := May_any f vc w B h.code h.low hL h.len h.wid
  have hT := fun W hW => mayTargets_any ts vt W B ((h.below hW).tgs) (h.below hW).low h.many h.wide
  unfold Ip.mayNew at hyes
  simp only [Bool.and_eq_true, decide_eq_true_eq] at hyes
  obtain ⟨⟨hm, ht⟩, hf1, hf2⟩ := hyes
  rw [hm] at hM
  rw [ht] at hT
  have hln : ts.length ≤ 4 := by
    unfold Ip.mayT at ht
    simp only [Bool.and_eq_true, decide_eq_true_eq] at ht
    omega
  obtain ⟨l1, l2⟩ := h.lite hm
  have hCt := fun W hW => CloneT_any ts vt B W ((h.below hW).tgs) (h.below hW).low (by omega)
  have hCc := fun W hW => cloneCode_any f vc W B ((h.below hW).code) (h.below hW).low l1 l2
  have nf1 : ¬ fuel < 0 := by omega
  have nf2 : ¬ 65536 < fuel := by omega
  clear h ht hm
  go_enter Tryz.func14, Tryz.ntmps14
  go_upto_region 3 with (first | (go_at_call 43; refine hM.mono ?_; rintro e w1 ⟨rfl, hb1⟩) | (go_at_call 44; refine (hT _ hb1).mono ?_; rintro e w2 ⟨rfl, hb2⟩) | fail)
  have hbw := hb1.trans (hb2.mono hb1.size)
  have hmm := @run_makeMap Tryz.prog
  go_wp2_with (first | (go_at_call 45; refine (hCt _ hbw).mono ?_; rintro e w3 ⟨a3, n3, c3, rfl, p3, hb3⟩; have hbx := hbw.trans (hb3.mono hbw.size)) | (go_at_call 46; refine (hCc _ hbx).mono ?_; rintro e w4 ⟨a4, n4, c4, rfl, p4, hb4⟩) | fail)
  go_ret2
  obtain ⟨fu, rfl⟩ : ∃ fu : Nat, fuel = (fu : Int) := ⟨fuel.toNat, by omega⟩
  rw [Int.toNat_natCast]
  have s1 := size_alloc w4 (.cells #[.slice a4 n4 c4, .int .i64 0, .string ⟨#[]⟩, .slice none 0 0] 86)
  have b1 := (Below.refl w4.heap.size w4).alloc (Nat.le_refl _) (.cells #[.slice a4 n4 c4, .int .i64 0, .string ⟨#[]⟩, .slice none 0 0] 86)
  have o1 := Rc.Own.litI (R := BoR) w4 7 1 #[.slice a4 n4 c4, .int .i64 0, .string ⟨#[]⟩, .slice none 0 0] [⟨a4, n4, c4, 0, [], none, 0, 0⟩] (by have := hL.size; have := hbx.size; have := hb4.size; omega) rfl (by omega) rfl
  change BoR.Own (w4.alloc (.cells #[.slice a4 n4 c4, .int .i64 0, .string ⟨#[]⟩, .slice none 0 0] 86)) _ _ _ at o1
  generalize w4.alloc (.cells #[.slice a4 n4 c4, .int .i64 0, .string ⟨#[]⟩, .slice none 0 0] 86) = A1 at *
  have s2 := size_alloc A1 (.map #[] 0)
  have b2 := (Below.refl A1.heap.size A1).alloc (Nat.le_refl _) (.map #[] 0)
  have m1 := MapV.made heldV A1
  generalize A1.alloc (.map #[] 0) = A2 at *
  have s3 := size_alloc A2 (.map #[] 0)
  have b3 := (Below.refl A2.heap.size A2).alloc (Nat.le_refl _) (.map #[] 0)
  have m2 := MapV.made heldV A2
  generalize A2.alloc (.map #[] 0) = A3 at *
  have r4 := Rw.new A3 #[.slice a3 n3 c3, .int .i64 (fu : Int), .int .i64 0, .slice (some ⟨w4.heap.size, 0, none⟩) 1 1, .bool false, .string ⟨#[]⟩, .map (some (w4.heap.size + 1)), .map (some (w4.heap.size + 1 + 1)), .slice none 0 0, .int .i64 0, .string ⟨#[]⟩, .int .i64 0, .string ⟨#[]⟩] 62
  have b4 := (Below.refl A3.heap.size A3).alloc (Nat.le_refl _) (.cells #[.slice a3 n3 c3, .int .i64 (fu : Int), .int .i64 0, .slice (some ⟨w4.heap.size, 0, none⟩) 1 1, .bool false, .string ⟨#[]⟩, .map (some (w4.heap.size + 1)), .map (some (w4.heap.size + 1 + 1)), .slice none 0 0, .int .i64 0, .string ⟨#[]⟩, .int .i64 0, .string ⟨#[]⟩] 62)
  have s4 := size_alloc A3 (.cells #[.slice a3 n3 c3, .int .i64 (fu : Int), .int .i64 0, .slice (some ⟨w4.heap.size, 0, none⟩) 1 1, .bool false, .string ⟨#[]⟩, .map (some (w4.heap.size + 1)), .map (some (w4.heap.size + 1 + 1)), .slice none 0 0, .int .i64 0, .string ⟨#[]⟩, .int .i64 0, .string ⟨#[]⟩] 62)
  generalize A3.alloc (.cells #[.slice a3 n3 c3, .int .i64 (fu : Int), .int .i64 0, .slice (some ⟨w4.heap.size, 0, none⟩) 1 1, .bool false, .string ⟨#[]⟩, .map (some (w4.heap.size + 1)), .map (some (w4.heap.size + 1 + 1)), .slice none 0 0, .int .i64 0, .string ⟨#[]⟩, .int .i64 0, .string ⟨#[]⟩] 62) = A4 at *
  have bA : Below w4.heap.size w4 A4 := b1.trans (((b2.trans (b3.mono (by omega))).trans (b4.mono (by omega))).mono (by omega))
  have b14 : Below A1.heap.size A1 A4 := (b2.trans (b3.mono (by omega))).trans (b4.mono (by omega))
  have b24 : Below A2.heap.size A2 A4 := b3.trans (b4.mono (by omega))
  have z4 := hb4.size
  have z3 := hbx.size
  have z7 := hL.size
  have hb : ∀ b ∈ (⟨A3.heap.size, A1.heap.size, A2.heap.size, a3, n3, c3, some ⟨w4.heap.size, 0, none⟩, 1, 1, none, 0, 0⟩ : RP).own, w4.heap.size ≤ b ∧ b < A4.heap.size := by
    intro b hb
    rcases RP.own_cases hb with rfl | rfl | rfl | e | e
    · exact ⟨by show w4.heap.size ≤ A3.heap.size; omega, by show A3.heap.size < _; omega⟩
    · exact ⟨by show w4.heap.size ≤ A1.heap.size; omega, by show A1.heap.size < _; omega⟩
    · exact ⟨by show w4.heap.size ≤ A2.heap.size; omega, by show A2.heap.size < _; omega⟩
    · obtain rfl : w4.heap.size = b := Option.some.inj e
      exact ⟨Nat.le_refl _, by omega⟩
    · cases e
  have hnd : (⟨A3.heap.size, A1.heap.size, A2.heap.size, a3, n3, c3, some ⟨w4.heap.size, 0, none⟩, 1, 1, none, 0, 0⟩ : RP).own.Nodup := by
    show (A3.heap.size :: A1.heap.size :: A2.heap.size :: ([w4.heap.size] ++ [])).Nodup
    simp
    omega
  have hO2 : ∀ b, w.heap.size ≤ b → b < w4.heap.size → b < A4.heap.size ∧ b ∉ (⟨A3.heap.size, A1.heap.size, A2.heap.size, a3, n3, c3, some ⟨w4.heap.size, 0, none⟩, 1, 1, none, 0, 0⟩ : RP).own ++ O := fun b h1 h2 => ⟨by omega, fun hx => by
    rcases List.mem_append.1 hx with hx | hx
    · have := hb b hx; omega
    · have := hO b hx; omega⟩
  have e1 : w4.heap.size + 1 = A1.heap.size := s1.symm
  have e2 : w4.heap.size + 1 + 1 = A2.heap.size := by omega
  have e3 : w4.heap.size + 1 + 1 + 1 = A3.heap.size := by omega
  rw [e2, e1] at r4
  have hz2 := hbw.size
  refine ⟨⟨A3.heap.size, A1.heap.size, A2.heap.size, a3, n3, c3, some ⟨w4.heap.size, 0, none⟩, 1, 1, none, 0, 0⟩, by rw [e3]; rfl, ⟨r4, ?_, ?_, ⟨0, MapV.of_block m1 (b24.block _ (by show A1.heap.size < A2.heap.size; omega)), Nat.le_refl _⟩, ⟨0, MapV.of_block m2 (b4.block _ (by show A2.heap.size < A3.heap.size; omega)), Nat.zero_le _⟩, Rc.Own.nil _ _, hnd, fun b hx => List.mem_append_left _ hx, fun b hx => by have := hb b hx; omega, fun b hx => ?_⟩, fun b hx => by have := hb b hx; omega, (hbx.trans (hb4.mono hbx.size)).trans (bA.mono (by omega))⟩
  · exact p3.slP.keep (fun b hx => (hb4.trans (bA.mono hb4.size)).block b (p3.lt b hx).2) (fun b hx => hO2 b (by have := (p3.lt b hx).1; omega) (by have := (p3.lt b hx).2; omega))
  · refine ⟨_, o1.below b14 (Nat.le_refl _), _, [], rfl, ⟨rfl, rfl, ?_, ?_⟩, rfl⟩
    · exact (p4.foP (P := fun q => w3.heap.size ≤ q ∧ q < w4.heap.size) (fun _ h1 h2 => ⟨h1, h2⟩)).keep (fun b hx => bA.block b hx.2) (fun b hx => hO2 b (by omega) hx.2)
    · exact ⟨none, 0, rfl, Nat.le_refl _, fun _ => rfl, fun h => absurd rfl h⟩
  · rcases List.mem_append.1 hx with hx | hx
    · exact (hb b hx).2
    · have := hO b hx; omega
end Go.Proofs.YtnobmgkdieaclaaGreatDoor
