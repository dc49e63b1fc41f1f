/-
  WHAT THE LANDED CODE's appendLines, Lines DO.
-/
import Derived.Test.YtfgdlnidfkjbdaaDoorAOwnL
import Derived.Test.YtfgdlnidfkjbdaaDoorAMayL
import Derived.Test.YtfgdlnidfkjbdaaDoorRecStep
namespace Go.Proofs.YtfgdlnidfkjbdaaDoor
open Go.RowKit

/-- lines, each a row of its own -/
def LiE (w : World) (base : Nat) : List (List (List UInt8)) → List RawT → Prop
  | [], rs => rs = []
  | a :: t, rs => ∃ r rs', rs = r :: rs' ∧ TxR.Own w base r.val a ∧ LiE w base t rs'
theorem LiE.len {w : World} {base : Nat} : ∀ {ls : List (List (List UInt8))} {rs : List RawT}, LiE w base ls rs → rs.length = ls.length
  | [], _, h => by rw [h]; rfl
  | _ :: _, _, ⟨_, _, h1, _, h5⟩ => by rw [h1, List.length_cons, LiE.len h5]; rfl
theorem LiE.turn {w w' : World} {base : Nat} {S : List Nat} (hT : Turn S w w') (hS : ∀ x ∈ S, x < base ∨ ∃ cs t, Rw w x cs t ∧ t ≠ 9) : ∀ {ls : List (List (List UInt8))} {rs : List RawT}, LiE w base ls rs → LiE w' base ls rs
  | [], _, h => h
  | _ :: _, _, ⟨r, rs', h1, h2, h5⟩ => by
    refine ⟨r, rs', h1, Row.turn h2 hT fun g hg hx => ?_, LiE.turn hT hS h5⟩
    rcases hS g hx with h | ⟨cs, t, hR, ht⟩
    · have := (h2.lt g hg).1
      omega
    · exact Rw.ne_row hR h2 ht hg rfl
theorem LiE.app {w : World} {base : Nat} : ∀ {ls ms : List (List (List UInt8))} {rs qs : List RawT}, LiE w base ls rs → LiE w base ms qs → LiE w base (ls ++ ms) (rs ++ qs)
  | [], _, _, _, h, k => by rw [show _ = _ from h]; exact k
  | _ :: _, _, _, _, ⟨r, rs', h1, h2, h5⟩, k => by
    rw [h1]
    exact ⟨r, rs' ++ _, rfl, h2, LiE.app h5 k⟩
theorem LiE.low {w : World} {base base' : Nat} (hb : base' ≤ base) : ∀ {ls : List (List (List UInt8))} {rs : List RawT}, LiE w base ls rs → LiE w base' ls rs
  | [], _, h => h
  | _ :: _, _, ⟨r, rs', h1, h2, h5⟩ => ⟨r, rs', h1, Rc.Own.low h2 hb, LiE.low hb h5⟩
theorem LiE.row {w : World} {base : Nat} : ∀ {ls : List (List (List UInt8))} {rs : List RawT}, LiE w base ls rs → LiRow w w.heap.size ls rs
  | [], _, h => h
  | _ :: _, _, ⟨_, rs', h1, h2, h5⟩ => ⟨_, rs', h1, h2.sl, LiE.row h5⟩
/-- lines being laid: what they are, and what has turned -/
structure AlI (w wr : World) (base : Nat) (v0 v : Value) (ls : List (List (List UInt8))) (rs : List RawT) : Prop where
  own : LiR.Own wr base v rs
  els : LiE wr base ls rs
  turn : Turn v0.ownBlock.toList w wr
  from_ : ∀ g, v.ownBlock = some g → g < w.heap.size → v0.ownBlock = some g
theorem ownL {v : Value} {g : Nat} (h : g ∈ v.ownBlock.toList) : v.ownBlock = some g := by
  cases hv : v.ownBlock with
  | none => rw [hv] at h; simp at h
  | some x => rw [hv] at h; simp at h; rw [h]
theorem memL {v : Value} {g : Nat} (h : v.ownBlock = some g) : g ∈ v.ownBlock.toList := by rw [h]; simp
theorem AlI.below {w wr X : World} {base : Nat} {v0 v : Value} {ls : List (List (List UInt8))} {rs : List RawT} (h : AlI w wr base v0 v ls rs) (hb : Below wr.heap.size wr X) : AlI w X base v0 v ls rs :=
  ⟨h.own.below hb (Nat.le_refl _), h.els.turn (Turn.of_below hb) (by simp), h.turn.belowTrans hb, h.from_⟩
/-- one more line -/
theorem AlI.push {w X W9 : World} {base g9 c9 n9 : Nat} {v0 v : Value} {ls : List (List (List UInt8))} {line : List (List UInt8)} {rs : List RawT} {r : RawT} (h : AlI w X base v0 v ls rs) (hr : TxR.Own X base r.val line)
    (hO9 : LiR.Own W9 base (.slice (some ⟨g9, 0, none⟩) n9 c9) (rs ++ [r])) (hG : X.grownBy W9 v.ownBlock) (hg : v.ownBlock = some g9 ∨ g9 = X.heap.size) : AlI w W9 base v0 (.slice (some ⟨g9, 0, none⟩) n9 c9) (ls ++ [line]) (rs ++ [r]) := by
  have hT := Turn.of_grown hG
  have hS : ∀ x ∈ v.ownBlock.toList, x < base ∨ ∃ cs t, Rw X x cs t ∧ t ≠ 9 := fun x hx => by
    obtain ⟨cs, h'⟩ := own_rw h.own (ownL hx)
    exact .inr ⟨cs, _, h', by decide⟩
  refine ⟨hO9, (h.els.turn hT hS).app ⟨r, [], rfl, Row.turn hr hT fun g hg' hx => ?_, rfl⟩, h.turn.trans hT fun x hx hl => memL (h.from_ x (ownL hx) hl), fun g hg' hl => ?_⟩
  · obtain ⟨cs, h'⟩ := own_rw h.own (ownL hx)
    exact Rw.ne_row h' hr (by decide) hg' rfl
  · simp only [Value.ownBlock, Option.some.injEq] at hg'
    subst hg'
    rcases hg with hg | hg
    · exact h.from_ _ hg hl
    · have := h.turn.size
      omega
theorem AlI.trans {w X W1 : World} {base : Nat} {v0 v v1 : Value} {ls ls1 : List (List (List UInt8))} {rs rs1 : List RawT} (h : AlI w X base v0 v ls rs) (k : AlI X W1 base v v1 ls1 rs1) : AlI w W1 base v0 v1 ls1 rs1 :=
  ⟨k.own, k.els, h.turn.trans k.turn fun x hx hl => memL (h.from_ x (ownL hx) hl), fun g hg hl => h.from_ g (k.from_ g hg (Nat.lt_of_lt_of_le hl h.turn.size)) hl⟩
/-- the last line, and what stays beside it -/
theorem AlI.fin {w X W2 : World} {base g2 c2 n2 gs : Nat} {cs : Array Value} {v0 v : Value} {ls : List (List (List UInt8))} {line : List (List UInt8)} {rs : List RawT} {r : RawT} (h : AlI w X base v0 v ls rs) (hr : TxR.Own X base r.val line) (hR : Rw X gs cs 34 ∧ Laid X) (h7 : 7 ≤ base)
    (hO : LiR.Own W2 base (.slice (some ⟨g2, 0, none⟩) n2 c2) (rs ++ [r])) (hG : X.grownBy W2 v.ownBlock) (hg : v.ownBlock = some g2 ∨ g2 = X.heap.size) : AlI w W2 base v0 (.slice (some ⟨g2, 0, none⟩) n2 c2) (ls ++ [line]) (rs ++ [r]) ∧ (Rw W2 gs cs 34 ∧ Laid W2) :=
  ⟨h.push hr hO hG hg, hR.1.turn (Turn.of_grown hG) (fun hx => Rw.ne_row hR.1 h.own (by decide) (ownL hx) rfl), hR.2.turn (Turn.of_grown hG) fun x hx => by have := (h.own.lt x (ownL hx)).1; omega⟩
theorem Ac.nar_mono : ∀ {f : Ac.Fo}, Ac.nar 1099511600 f → Ac.nar 1099511627 f
  | .nil, _ => trivial
  | .cons _ _ _ _ _, ⟨h1, h2, h3⟩ => ⟨by omega, Ac.nar_mono h2, Ac.nar_mono h3⟩
theorem Ac.one_at : ∀ {f : Ac.Fo} {k : Nat} {o : Int} {a : List (List UInt8)} {n : Int} {b r : Ac.Fo}, Ac.one f = true → f.drop k = .cons o a n b r → Ac.ok1 o a n = true ∧ Ac.one b = true
  | .cons _ _ _ _ _, 0, _, _, _, _, _, h, e => by
    simp only [Ac.Fo.drop, Ac.Fo.cons.injEq] at e
    obtain ⟨rfl, rfl, rfl, rfl, rfl⟩ := e
    simp only [Ac.one, Bool.and_eq_true] at h
    exact ⟨h.1.1.1, h.1.2⟩
  | .cons _ _ _ _ _, k + 1, _, _, _, _, _, h, e => by
    simp only [Ac.one, Bool.and_eq_true] at h
    exact Ac.one_at (k := k) h.2 e
  | .nil, 0, _, _, _, _, _, _, e => by simp [Ac.Fo.drop] at e
  | .nil, k + 1, _, _, _, _, _, _, e => by simp [Ac.Fo.drop] at e

set_option maxRecDepth 100000 in
set_option maxHeartbeats 2000000 in
theorem appendLines_any : ∀ (f : Ac.Fo) (v0 : Value) (ls0 : List (List (List UInt8))) (rs0 : List RawT) (v : Value) (w : World) (B base : Nat), FoS w B v f → B ≤ base → 7 ≤ base → base ≤ w.heap.size → LiR.Own w base v0 rs0 → LiE w base ls0 rs0 → Laid w → Ac.one f = true → Ac.nar 1099511600 f → Ac.size f ≤ 1099511627 → (ls0 ++ Ac.all f).length ≤ 1099511 →
    Calls Tryd.prog 30 #[v0, v] w fun e w' => ∃ va vn vc rs', e = .returned (.slice va vn vc) ∧ AlI w w' base v0 (.slice va vn vc) (ls0 ++ Ac.all f) rs' := by
  refine Ac.fo_ind fun f ih => ?_
  intro v0 ls0 rs0 v w B base h hB h7 hbase hO0 hE0 hL hone hnar hsz hlen
  obtain ⟨ad, c, rfl, hle⟩ := h.shape
  obtain ⟨a0, n0, c0, rfl⟩ := hO0.isSl
  have hfl := Ac.len_size f
  have HI : Hid _ := ih
  have HONE : Hid _ := hone
  have HNAR : Hid _ := hnar
  have HLEN : Hid _ := hlen
  have HE0 : Hid _ := hE0
  clear ih hone hnar hlen hE0
  go_enter Tryd.func30, Tryd.ntmps30
  go_wp2
  go_loopw [0, 9] (fun v i wr => ∃ (j : Nat) (ls : List (List (List UInt8))) (rs : List RawT) (va : Option Addr) (vn vc : Nat), j ≤ f.len ∧ i = .int .i64 (j : Int) ∧ v = .slice va vn vc ∧ Hid (AlI w wr base (.slice a0 n0 c0) (.slice va vn vc) ls rs) ∧ Hid (ls ++ Ac.all (f.drop j) = ls0 ++ Ac.all f)) (fun _ i _ => f.len - (intOf i).toNat)
  case atStart => exact ⟨0, ls0, rs0, a0, n0, c0, Nat.zero_le _, rfl, rfl, ⟨hO0, HE0.out, Turn.refl _ _, fun _ h _ => h⟩, by show _ = _; simp [Ac.Fo.drop]⟩
  case round =>
    obtain ⟨j, ls, rs, va, vn, vc, hj, rfl, rfl, HA, HM⟩ := hrel
    have b2 : (f.len : Int) ≤ 1099511627 := by omega
    by_cases hlt : j < f.len
    · have i1 : (j : Int) < (f.len : Int) := by omega
      obtain ⟨o, a, n, b, r, e⟩ := Ac.Fo.drop_lt hlt
      have hTw := HA.out.turn
      have hbw : Below base w wr := hTw.below' hbase fun x hx => (hO0.lt x (ownL hx)).1
      obtain ⟨g, og, c', aa, ac, ba, bc, e1, hg, c0', c1, c2, c3, htx, hbd⟩ := (h.below hbw hB).at e hlt
      simp only [Value.slice.injEq] at e1
      obtain ⟨rfl, -, rfl⟩ := e1
      obtain ⟨hok, hob⟩ := Ac.one_at HONE.out e
      obtain ⟨hal, hnb⟩ := Ac.nar_at HNAR.out e
      have hbs := Ac.size_body e
      have h1 := HM.out
      rw [e, Ac.all] at h1
      have h2 := Ac.Fo.drop_next e
      have hll : ls.length + 1 + (if Ac.opens o = true then Ac.all b ++ [[Ac.sEnd]] else []).length ≤ 1099511 := by
        have h3 := congrArg List.length h1
        have := HLEN.out
        simp only [List.length_append, List.length_cons] at h3 this ⊢
        omega
      have hZn := Rw.new wr #[.int .i64 o, .slice aa a.length ac, .int .i64 n, .slice ba b.len bc] 34
      have hZb := (Below.refl wr.heap.size wr).alloc (Nat.le_refl _) (.cells #[.int .i64 o, .slice aa a.length ac, .int .i64 n, .slice ba b.len bc] 34)
      have hLr : Laid wr := hL.below hbw h7
      have hbz : base ≤ wr.heap.size := Nat.le_trans hbase hTw.size
      have hOw := fun W (hW : Below wr.heap.size wr W) => ownLine_any hok aa ac ba b.len bc B W (hLr.below hW hLr.size) (htx.below hW (by omega)) (by have := hW.size; omega) hal
      obtain ⟨k, rfl⟩ : ∃ k : Nat, o = (k : Int) := by
        unfold Ac.ok1 at hok
        simp only [Bool.and_eq_true, decide_eq_true_eq] at hok
        have := Ac.word_of hok.1.1.1
        exact ⟨o.toNat, by omega⟩
      have hk12 : 1 ≤ k ∧ k ≤ 12 := by
        unfold Ac.ok1 at hok
        simp only [Bool.and_eq_true, decide_eq_true_eq] at hok
        have := Ac.word_of hok.1.1.1
        omega
      have hop : Ac.kb k = Ac.opens (k : Int) := by
        unfold Ac.opens Ac.kb
        congr 1
        rw [eq_iff_iff]
        omega
      have hKB : ∀ Z, Laid Z → Z.cell? ⟨0, k * 5 + 4, none⟩ = some (.bool (Ac.kb k)) := fun Z hZ => hZ.kinds _ _ ((Ac.kCells_at k (by omega) 4 (by omega)).trans rfl)
      rw [hop] at hKB
      have j3 : (0 : Int) ≤ (k : Int) := by omega
      have j4 : (k : Int) < 13 := by omega
      obtain ⟨line, hline⟩ : ∃ line, Ac.lineOf (k : Int) a n = line := ⟨_, rfl⟩
      rw [hline] at hOw h1
      have H1 : Hid _ := h1
      have H2 : Hid _ := h2
      have HLL : Hid _ := hll
      have HBD : Hid _ := hbd
      have HNB : Hid _ := hnb
      have HE : Hid _ := e
      clear hline h1 h2 hll hbd hok htx hal hop e HM
      go_upto_region 4 with fail
      generalize wr.alloc (.cells #[.int .i64 (k : Int), .slice aa a.length ac, .int .i64 n, .slice ba b.len bc] 34) = Z at hZn hZb ⊢
      have t0 : Z.cell? ⟨wr.heap.size, 0, none⟩ = some (.int .i64 (k : Int)) := hZn.cell 0
      have t1 : Z.cell? ⟨wr.heap.size, 1, none⟩ = some (.slice aa a.length ac) := hZn.cell 1
      have t2 : Z.cell? ⟨wr.heap.size, 2, none⟩ = some (.int .i64 n) := hZn.cell 2
      have t3 : Z.cell? ⟨wr.heap.size, 3, none⟩ = some (.slice ba b.len bc) := hZn.cell 3
      have hOwZ : Calls Tryd.prog 47 #[.agg #[.int .i64 (k : Int), .slice aa a.length ac, .int .i64 n, .slice ba b.len bc]] Z fun e w' => (∃ la ln lc, e = .returned (.slice la ln lc) ∧ TxR.Own w' Z.heap.size (.slice la ln lc) line) ∧ Below Z.heap.size Z w' := by
        refine (hOw Z hZb).mono ?_
        rintro e w' ⟨⟨va, rfl, hO⟩, hb⟩
        obtain ⟨la, ln, lc, rfl⟩ := hO.isSl
        exact ⟨⟨la, ln, lc, rfl, hO⟩, hb⟩
      have HLn : Hid (rs.length + 1 ≤ 1099511627) := by show _ ≤ _; have := HA.out.els.len; have := HLL.out; omega
      clear hOw
      go_wp2_with (first
        | (go_at_call 47; refine hOwZ.mono ?_; rintro e w1 ⟨⟨la, ln, lc, rfl, hOl⟩, hb1⟩; have hbx := hZb.trans (hb1.mono hZb.size); have hbx2 := hbx.alloc hbx.size (.cells #[.slice la ln lc] 32); have hAx := HA.out.below hbx2; have hLit := Rc.lit (R := LiR) w1 ⟨la, ln, lc⟩ #[.slice la ln lc] rfl; have hzl : base ≤ (w1.alloc (.cells #[.slice la ln lc] 32)).heap.size := Nat.le_trans hbz hbx2.size)
        | (at_builtin; go_must (refine LiR.append_at rfl _ _ rfl base (w1.heap.size + 1) _ _ rs [⟨la, ln, lc⟩] rfl hAx.own rfl hLit (by simp) HLn hzl ?_))
        | fail)
      intro g9 c9 W9 hO9 hG9 hg9 hl9
      have hA9 := hAx.push (r := ⟨la, ln, lc⟩) (Rc.Own.low (hOl.alloc (.cells #[.slice la ln lc] 32)) (Nat.le_trans hbz hZb.size)) hO9 hG9 (by rw [size_alloc]; exact hg9)
      have hbWW : Below base wr W9 := (hbx2.mono hbz).trans ((Turn.of_grown hG9).below' hzl fun x hx => (HA.out.own.lt x (ownL hx)).1)
      have hS9 := ((hZn.below hb1 hZn.lt).alloc (.cells #[.slice la ln lc] 32)).turn (Turn.of_grown hG9) (fun hx => by have := (HA.out.own.lt _ (ownL hx)).2; omega)
      have hLW : Laid W9 := hL.below (hA9.turn.below' hbase fun x hx => (hO0.lt x (ownL hx)).1) h7
      have HA9 : Hid _ := hA9
      have s0 : W9.cell? ⟨wr.heap.size, 0, none⟩ = some (.int .i64 (k : Int)) := hS9.cell 0
      have s3 : W9.cell? ⟨wr.heap.size, 3, none⟩ = some (.slice ba b.len bc) := hS9.cell 3
      have kk := hKB W9 hLW
      clear hKB hOwZ hOl hb1 hbx hbx2 hAx hLit hzl hG9 hg9 hO9 t0 t1 t2 t3 hZn hZb HA
      cases hop : Ac.opens (k : Int) with
      | false =>
        rw [hop] at kk
        have HN : Hid ((ls ++ [line]) ++ Ac.all (f.drop (j + 1)) = ls0 ++ Ac.all f) := by
          show _ = _
          rw [H2.out, ← H1.out, if_neg (by rw [hop]; simp)]
          simp
        clear H1 H2 HLL HBD HNB hop
        go_wp2
        exact ⟨⟨j + 1, _, _, _, _, _, by omega, by go_num, rfl, HA9, HN.out⟩, by simp [intOf]; omega⟩
      | true =>
        rw [hop] at kk
        have HLL2 : Hid (ls.length + 1 + (Ac.all b).length + 1 ≤ 1099511) := by
          show _ ≤ _
          have := HLL.out
          rw [if_pos hop] at this
          simp at this
          omega
        have HN : Hid ((ls ++ [line] ++ Ac.all b ++ [[Ac.sEnd]]) ++ Ac.all (f.drop (j + 1)) = ls0 ++ Ac.all f) := by
          show _ = _
          rw [H2.out, ← H1.out, if_pos hop]
          simp
        have hbB : Below base w W9 := HA9.out.turn.below' hbase fun x hx => (hO0.lt x (ownL hx)).1
        have hzW : base ≤ W9.heap.size := Nat.le_trans hbase hbB.size
        have hcall : ∀ X, Below W9.heap.size W9 X → Calls Tryd.prog 30 #[.slice (some ⟨g9, 0, none⟩) (rs.length + 1) c9, .slice ba b.len bc] X fun e w' => ∃ va vn vc rs', e = .returned (.slice va vn vc) ∧ AlI X w' base (.slice (some ⟨g9, 0, none⟩) (rs.length + 1) c9) (.slice va vn vc) (ls ++ [line] ++ Ac.all b) rs' := by
          intro X hX
          have hAX := HA9.out.below hX
          exact HI.out j (k : Int) a n b r HE.out _ _ _ _ X B base ((FoS.below HBD.out hbWW hB).below hX (by omega)) hB h7 (Nat.le_trans hzW hX.size) hAX.own hAX.els (hLW.below hX hLW.size) hob HNB.out (by omega) (by simp only [List.length_append, List.length_cons, List.length_nil]; have := HLL2.out; omega)
        have k00 : ∀ X, Below W9.heap.size W9 X → X.cell? ⟨0, 0, none⟩ = some (.string ⟨#[101, 110, 100]⟩) := fun X hX => (hLW.below hX hLW.size).kinds 0 _ rfl
        have hgw : ∀ x ∈ (Value.slice (some ⟨g9, 0, none⟩) (rs.length + 1) c9).ownBlock.toList, x ≠ wr.heap.size ∧ base ≤ x := fun x hx => ⟨fun e => Rw.ne_row hS9 HA9.out.own (by decide) (ownL hx) e, (HA9.out.own.lt x (ownL hx)).1⟩
        have hRow : ∀ X, Below W9.heap.size W9 X → ∀ Y, Turn (Value.slice (some ⟨g9, 0, none⟩) (rs.length + 1) c9).ownBlock.toList X Y → Rw Y wr.heap.size #[.int .i64 (k : Int), .slice aa a.length ac, .int .i64 n, .slice ba b.len bc] 34 ∧ Laid Y := fun X hX Y hY => ⟨(hS9.below hX hS9.lt).turn hY (fun hx => (hgw _ hx).1 rfl), (hLW.below hX hLW.size).turn hY fun x hx => by have := (hgw x hx).2; omega⟩
        have hSS : ∀ Y, Rw Y wr.heap.size #[.int .i64 (k : Int), .slice aa a.length ac, .int .i64 n, .slice ba b.len bc] 34 ∧ Laid Y → Y.cell? ⟨wr.heap.size, 3, none⟩ = some (.slice ba b.len bc) ∧ Y.cell? ⟨0, 0, none⟩ = some (.string ⟨#[101, 110, 100]⟩) := fun Y h => ⟨h.1.cell 3, h.2.kinds 0 _ rfl⟩
        have B0 : Below W9.heap.size W9 W9.drew := (Below.refl _ W9).drew
        have B1 : ∀ o, Below W9.heap.size W9 (W9.alloc o).drew := fun o => ((Below.refl _ W9).alloc (Nat.le_refl _) o).drew
        have B2 : ∀ o o', Below W9.heap.size W9 ((W9.alloc o).alloc o').drew := fun o o' => (((Below.refl _ W9).alloc (Nat.le_refl _) o).alloc ((Below.refl W9.heap.size W9).alloc (Nat.le_refl _) o).size o').drew
        have xd := hSS _ (hRow _ B0 _ (Turn.refl _ _))
        have xa := fun o => hSS _ (hRow _ (B1 o) _ (Turn.refl _ _))
        have xb := fun o o' => hSS _ (hRow _ (B2 o o') _ (Turn.refl _ _))
        have hg9l : g9 < W9.heap.size := (HA9.out.own.lt g9 rfl).2
        have hnew : ∀ g, (Value.slice (some ⟨W9.heap.size, 0, none⟩) 1 1).ownBlock = some g → g ∈ (Value.slice (some ⟨g9, 0, none⟩) (rs.length + 1) c9).ownBlock.toList → False := fun g hg hx => by simp [Value.ownBlock] at hg hx; omega
        have hnew2 : W9.heap.size + 1 ∈ (Value.slice (some ⟨g9, 0, none⟩) (rs.length + 1) c9).ownBlock.toList → False := fun hx => by simp [Value.ownBlock] at hx; omega
        have HLn3 : Hid (ls.length + 1 + (Ac.all b).length + 1 ≤ 1099511) := HLL2
        go_upto_region 6 with fail
        go_region_held3 (fun X : World => X.cell? ⟨wr.heap.size, 3, none⟩ = some (.slice ba b.len bc) ∧ X.cell? ⟨0, 0, none⟩ = some (.string ⟨#[101, 110, 100]⟩)) (first | with_reducible exact xd | with_reducible exact xa _ | with_reducible exact xb _ _ | with_reducible exact sk | with_reducible exact sk1 _ | with_reducible exact sk2 _ _ | with_reducible exact sz | fail)
          (first
            | (go_at_call 30; first
                | (refine (hcall _ B0).mono ?_; rintro e w1 ⟨va', vn', vc', rs1, rfl, hA1⟩; have hR1 := hRow _ B0; have hAA := (HA9.out.below B0).trans hA1)
                | (refine (hcall _ (B1 (.cells #[.string ⟨#[101, 110, 100]⟩] 9))).mono ?_; rintro e w1 ⟨va', vn', vc', rs1, rfl, hA1⟩; have hR1 := hRow _ (B1 (.cells #[.string ⟨#[101, 110, 100]⟩] 9)); have hAA := (HA9.out.below (B1 (.cells #[.string ⟨#[101, 110, 100]⟩] 9))).trans hA1)
                | (refine (hcall _ (B2 (.cells #[.string ⟨#[101, 110, 100]⟩] 9) (.cells #[.slice (some ⟨W9.heap.size, 0, none⟩) 1 1] 32))).mono ?_; rintro e w1 ⟨va', vn', vc', rs1, rfl, hA1⟩; have hR1 := hRow _ (B2 (.cells #[.string ⟨#[101, 110, 100]⟩] 9) (.cells #[.slice (some ⟨W9.heap.size, 0, none⟩) 1 1] 32)); have hAA := (HA9.out.below (B2 (.cells #[.string ⟨#[101, 110, 100]⟩] 9) (.cells #[.slice (some ⟨W9.heap.size, 0, none⟩) 1 1] 32))).trans hA1)
               have HLn1 : Hid (rs1.length + 1 ≤ 1099511627) := by show _ ≤ _; have h := hAA.els.len; simp only [List.length_append, List.length_cons, List.length_nil] at h; have := HLn3.out; omega
               have hw1 : base ≤ w1.heap.size := Nat.le_trans hbase hAA.turn.size
               have sk := hSS _ (hR1 _ hA1.turn)
               have sk1 := fun o => hSS _ (hR1 _ (hA1.turn.alloc o))
               have sk2 := fun o o' => hSS _ (hR1 _ ((hA1.turn.alloc o).alloc o')))
            | (have hlA := Rc.lit (R := LiR) (w1.alloc (.cells #[.string ⟨#[101, 110, 100]⟩] 9)) ⟨some ⟨w1.heap.size, 0, none⟩, 1, 1⟩ #[.slice (some ⟨w1.heap.size, 0, none⟩) 1 1] rfl; rw [size_alloc w1 (.cells #[.string ⟨#[101, 110, 100]⟩] 9)] at hlA; have hrA := (Own.litN (R := TxR) w1 base 1 #[.string ⟨#[101, 110, 100]⟩] [Ac.sEnd] hw1 rfl (by decide) rfl).alloc (.cells #[.slice (some ⟨w1.heap.size, 0, none⟩) 1 1] 32); have hX := (hAA.below (((Below.refl w1.heap.size w1).alloc (Nat.le_refl _) (.cells #[.string ⟨#[101, 110, 100]⟩] 9)).alloc (by rw [size_alloc]; omega) (.cells #[.slice (some ⟨w1.heap.size, 0, none⟩) 1 1] 32))); have hz1 : base ≤ ((w1.alloc (.cells #[.string ⟨#[101, 110, 100]⟩] 9)).alloc (.cells #[.slice (some ⟨w1.heap.size, 0, none⟩) 1 1] 32)).heap.size := Nat.le_trans hbase hX.turn.size; refine Rc.step_app_at LiR ?_ (.tmp 26) (.tmp 31) ?_ base (w1.heap.size + 1 + 1) (.slice va' vn' vc') _ rs1 [⟨some ⟨w1.heap.size, 0, none⟩, 1, 1⟩] ?_ hX.own ?_ hlA (by simp) HLn1 hz1 ?_; (next => rfl); (next => rfl); (next => rfl); (next => rfl); intro g2 cc2 W2 hO2 hG2 hg2; have hfn := AlI.fin (line := [Ac.sEnd]) (r := ⟨some ⟨w1.heap.size, 0, none⟩, 1, 1⟩) hX hrA (hR1 _ ((hA1.turn.alloc (.cells #[.string ⟨#[101, 110, 100]⟩] 9)).alloc (.cells #[.slice (some ⟨w1.heap.size, 0, none⟩) 1 1] 32))) h7 hO2 hG2 hg2; have sz := hSS _ hfn.2)
            | (have hTn := ((Turn.refl (Value.slice (some ⟨g9, 0, none⟩) (rs.length + 1) c9).ownBlock.toList (W9.alloc (.cells #[.string ⟨#[101, 110, 100]⟩] 9))).drew).trans hA1.turn (fun _ h _ => h); have hlB := Rc.lit (R := LiR) w1 ⟨some ⟨W9.heap.size, 0, none⟩, 1, 1⟩ #[.slice (some ⟨W9.heap.size, 0, none⟩) 1 1] rfl; have hrB := Rc.Own.alloc (Row.turn (Own.litN (R := TxR) W9 base 1 #[.string ⟨#[101, 110, 100]⟩] [Ac.sEnd] hzW rfl (by decide) rfl) hTn (fun g hg hx => hnew g hg hx)) (.cells #[.slice (some ⟨W9.heap.size, 0, none⟩) 1 1] 32); have hX := (hAA.below ((Below.refl w1.heap.size w1).alloc (Nat.le_refl _) (.cells #[.slice (some ⟨W9.heap.size, 0, none⟩) 1 1] 32))); have hz1 : base ≤ (w1.alloc (.cells #[.slice (some ⟨W9.heap.size, 0, none⟩) 1 1] 32)).heap.size := Nat.le_trans hbase hX.turn.size; refine Rc.step_app_at LiR ?_ (.tmp 26) (.tmp 31) ?_ base (w1.heap.size + 1) (.slice va' vn' vc') _ rs1 [⟨some ⟨W9.heap.size, 0, none⟩, 1, 1⟩] ?_ hX.own ?_ hlB (by simp) HLn1 hz1 ?_; (next => rfl); (next => rfl); (next => rfl); (next => rfl); intro g2 cc2 W2 hO2 hG2 hg2; have hfn := AlI.fin (line := [Ac.sEnd]) (r := ⟨some ⟨W9.heap.size, 0, none⟩, 1, 1⟩) hX hrB (hR1 _ (hA1.turn.alloc (.cells #[.slice (some ⟨W9.heap.size, 0, none⟩) 1 1] 32))) h7 hO2 hG2 hg2; have sz := hSS _ hfn.2)
            | (have hTn := ((Turn.refl (Value.slice (some ⟨g9, 0, none⟩) (rs.length + 1) c9).ownBlock.toList ((W9.alloc (.cells #[.string ⟨#[101, 110, 100]⟩] 9)).alloc (.cells #[.slice (some ⟨W9.heap.size, 0, none⟩) 1 1] 32))).drew).trans hA1.turn (fun _ h _ => h); have k1 := (Rw.new (W9.alloc (.cells #[.string ⟨#[101, 110, 100]⟩] 9)) #[.slice (some ⟨W9.heap.size, 0, none⟩) 1 1] 32).turn hTn (fun hx => by rw [size_alloc] at hx; exact hnew2 hx); rw [size_alloc] at k1; have hlC := Rc.ofRw (R := LiR) (l := [⟨some ⟨W9.heap.size, 0, none⟩, 1, 1⟩]) (n := 1) k1 rfl rfl k1.lt; have hrC := Row.turn (Rc.Own.alloc (Own.litN (R := TxR) W9 base 1 #[.string ⟨#[101, 110, 100]⟩] [Ac.sEnd] hzW rfl (by decide) rfl) (.cells #[.slice (some ⟨W9.heap.size, 0, none⟩) 1 1] 32)) hTn (fun g hg hx => hnew g hg hx); have hX := hAA; have hz1 : base ≤ (w1).heap.size := Nat.le_trans hbase hX.turn.size; refine Rc.step_app_at LiR ?_ (.tmp 26) (.tmp 31) ?_ base (w1.heap.size) (.slice va' vn' vc') _ rs1 [⟨some ⟨W9.heap.size, 0, none⟩, 1, 1⟩] ?_ hX.own ?_ hlC (by simp) HLn1 hz1 ?_; (next => rfl); (next => rfl); (next => rfl); (next => rfl); intro g2 cc2 W2 hO2 hG2 hg2; have hfn := AlI.fin (line := [Ac.sEnd]) (r := ⟨some ⟨W9.heap.size, 0, none⟩, 1, 1⟩) hX hrC (hR1 _ hA1.turn) h7 hO2 hG2 hg2; have sz := hSS _ hfn.2)
            | fail)
        all_goals go_wp2
        all_goals exact ⟨⟨j + 1, _, _, _, _, _, by omega, by go_num, rfl, hfn.1, HN.out⟩, by simp [intOf]; omega⟩
    · obtain rfl : j = f.len := by omega
      have i1 : ¬ (f.len : Int) < (f.len : Int) := by omega
      have HF : Hid (ls = ls0 ++ Ac.all f) := by
        have := HM.out
        rw [Ac.Fo.drop_len, Ac.all, List.append_nil] at this
        exact this
      clear HM HI
      go_wp2
      go_ret
      rw [← HF.out]
      first | exact ⟨_, _, _, _, rfl, HA.out⟩ | exact ⟨_, _, _, rfl, _, HA.out⟩
theorem Ac.all_len : ∀ f : Ac.Fo, (Ac.all f).length ≤ 2 * Ac.size f
  | .nil => by simp [Ac.all, Ac.size]
  | .cons o a n b r => by
    have h1 := Ac.all_len b
    have h2 := Ac.all_len r
    rw [Ac.all, Ac.size]
    split
    · simp only [List.length_cons, List.length_append, List.length_nil]
      omega
    · simp only [List.length_cons, List.length_append, List.length_nil]
      omega
/-- how Lines ends -/
def LisEnd (w : World) (base : Nat) (e : Ending) (f : Ac.Fo) : Bool → Prop
  | false => e = .returned (.tuple #[.slice none 0 0, .int .i64 2])
  | true => ∃ va vn vc rs, e = .returned (.tuple #[.slice va vn vc, .int .i64 0]) ∧ LiR.Own w base (.slice va vn vc) rs ∧ LiE w base (Ac.all f) rs

set_option maxRecDepth 100000 in
theorem ALines_any (f : Ac.Fo) (v : Value) (w : World) (B : Nat) (h : FoS w B v f) (hB : B ≤ w.heap.size) (hL : Laid w) (hs : Ac.size f ≤ 1099511627) (hn : Ac.nar 1099511600 f) :
    Calls Tryd.prog 16 #[v] w fun e w' => LisEnd w' w.heap.size e f (Ac.may f) ∧ Below w.heap.size w w' := by
  have hM := May_any f v w B h hB hL hs (Ac.nar_mono hn)
  obtain ⟨ad, c, rfl, hle⟩ := h.shape
  cases hm : Ac.may f with
  | false =>
    rw [hm] at hM
    go_enter Tryd.func16, Tryd.ntmps16
    go_wp2_with (first | (go_at_call 18; refine hM.mono ?_; rintro e w1 ⟨rfl, hb1⟩) | fail)
    go_ret2
    exact ⟨rfl, hb1⟩
  | true =>
    rw [hm] at hM
    obtain ⟨m1, m2, m3⟩ := Ac.may_iff.1 hm
    have hal := Ac.all_len f
    have hA := fun W (hW : Below w.heap.size w W) => appendLines_any f (.slice none 0 0) [] [] (.slice ad f.len c) W B w.heap.size (h.below hW hB) hB hL.size hW.size (Rc.Own.nil _ _) rfl (hL.below hW hL.size) m1 hn hs (by rw [List.nil_append]; omega)
    rw [List.nil_append] at hA
    clear hm m1 m2 m3 hal hs hn
    go_enter Tryd.func16, Tryd.ntmps16
    go_wp2_with (first
      | (go_at_call 18; refine hM.mono ?_; rintro e w1 ⟨rfl, hb1⟩)
      | (go_at_call 30; refine (hA w1 hb1).mono ?_; rintro e w2 ⟨va, vn, vc, rs, rfl, hAl⟩)
      | fail)
    go_ret2
    exact ⟨⟨va, vn, vc, rs, rfl, hAl.own, hAl.els⟩, hAl.turn.bel hb1 (by simp [Value.ownBlock])⟩

end Go.Proofs.YtfgdlnidfkjbdaaDoor
