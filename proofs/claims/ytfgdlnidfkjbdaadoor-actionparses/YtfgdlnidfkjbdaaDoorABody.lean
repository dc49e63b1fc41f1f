/-
  WHAT THE LANDED CODE's body DOES: bodies one in another.
-/
import Derived.Test.YtfgdlnidfkjbdaaDoorAFoP
import Derived.WalkMore
namespace Go.Proofs.YtfgdlnidfkjbdaaDoor
open Go.RowKit

theorem Ac.opens_kb (k : Nat) : Ac.opens (k : Int) = Ac.kb k := by
  unfold Ac.opens Ac.kb
  congr 1
  rw [eq_iff_iff]
  omega
theorem Ac.chk_err : ∀ {ls : List (List (List UInt8))} {o m i : Nat} {e : Int} {j : Nat}, Ac.chk o m i ls = some (e, j) → ¬ e = 0
  | [], o, m, i, e, j, h => by
    rw [Ac.chk] at h
    split at h
    · simp only [Option.some.injEq, Prod.mk.injEq] at h
      omega
    · cases h
  | l :: r, o, m, i, e, j, h => by
    rw [Ac.chk] at h
    have here : ∀ x : Int, x ≠ 0 → (some (x, i) : Option (Int × Nat)) = some (e, j) → ¬ e = 0 := by
      intro x hx h
      simp only [Option.some.injEq, Prod.mk.injEq] at h
      omega
    split at h
    · split at h
      · exact here 131 (by decide) h
      · exact Ac.chk_err h
    · cases hs : Ac.stmtOf l with
      | none => rw [hs] at h; exact here 130 (by decide) h
      | some x =>
        obtain ⟨op, a, n⟩ := x
        rw [hs] at h
        simp only at h
        split at h
        · exact here 3 (by decide) h
        · split at h
          · split at h
            · exact here 132 (by decide) h
            · exact Ac.chk_err h
          · exact Ac.chk_err h
/-- what is read is behind what was read -/
def Ac.pre (acc : Ac.Fo) : Lx.R (Int × Nat) (Ac.Fo × Nat × Nat × List (List (List UInt8))) → Lx.R (Int × Nat) (Ac.Fo × Nat × Nat × List (List (List UInt8)))
  | .bad e => .bad e
  | .ok (t, x) => .ok (acc.app t, x)
theorem Ac.pre_nil (x : Lx.R (Int × Nat) (Ac.Fo × Nat × Nat × List (List (List UInt8)))) : Ac.pre .nil x = x := by
  cases x with
  | bad e => rfl
  | ok y => rfl
/-- the reader's blocks -/
structure RdrW (w : World) (B gl gt rb : Nat) (v : Value) (ls : List (List (List UInt8))) (i m : Nat) : Prop where
  tk : TkW w B gl gt v ls i
  rd : Rw w rb #[.func (.func 40) #[] #[.pointer (some ⟨gt, 0, none⟩), .pointer (some ⟨gl, 0, none⟩)], .int .i64 (m : Int)] 56
  ne : rb ≠ gl ∧ rb ≠ gt
  up : B ≤ rb
  far : 7 ≤ gt ∧ 7 ≤ rb
theorem RdrW.below {w w' : World} {B gl gt rb X : Nat} {v : Value} {ls : List (List (List UInt8))} {i m : Nat} (h : RdrW w B gl gt rb v ls i m) (hb : Below X w w') (hX : gl < X ∧ gt < X ∧ rb < X) : RdrW w' B gl gt rb v ls i m :=
  ⟨h.tk.below hb ⟨hX.1, hX.2.1⟩, h.rd.below hb hX.2.2, h.ne, h.up, h.far⟩
theorem RdrW.lt {w : World} {B gl gt rb : Nat} {v : Value} {ls : List (List (List UInt8))} {i m : Nat} (h : RdrW w B gl gt rb v ls i m) : gl < w.heap.size ∧ gt < w.heap.size ∧ rb < w.heap.size := ⟨h.tk.lines.lt, h.tk.taken.lt, h.rd.lt⟩
/-- how the reading of a body ends -/
def BdEnd (w : World) (base B gl gt rb : Nat) (v : Value) (ls : List (List (List UInt8))) (e : Ending) : Lx.R (Int × Nat) (Ac.Fo × Nat × Nat × List (List (List UInt8))) → Prop
  | .bad x => e = .returned (.tuple #[.slice none 0 0, .agg #[.int .i64 x.1, .int .i64 (x.2 : Int)]])
  | .ok (t, m, i, r) => (∃ vl, e = .returned (.tuple #[vl, .agg #[.int .i64 0, .int .i64 0]]) ∧ FoNew w base vl t) ∧ RdrW w B gl gt rb v ls i m ∧ r = ls.drop i ∧ i ≤ ls.length ∧ m ≤ 256
/-- what the reading of a body does -/
def BodyC (B gl gt rb : Nat) (v : Value) (ls : List (List (List UInt8))) (f : Nat) : Prop :=
  ∀ (o m i : Nat) (w : World), ls.length - i < f → i ≤ ls.length → o ≤ 8 → m ≤ 256 → RdrW w B gl gt rb v ls i m → Laid w →
    Calls Tryd.prog 25 #[.pointer (some ⟨rb, 0, none⟩), .int .i64 (o : Int)] w fun e w' => BdEnd w' w.heap.size B gl gt rb v ls e (Ac.bod f o m i (ls.drop i)) ∧ Turn [gt, rb] w w'
theorem results_sp {fn : Func} {p q : Tmp} (h : fn.results = #[.tmp q, .cell p 28]) (tmps : Array Value) (W : World) {g : Nat} {cs : Array Value} {v : Value} (hR : Rw W g cs 28) (hz : cs.size = 2) (hp : tmps.getD p undef = .pointer (some ⟨g, 0, none⟩)) (hq : tmps.getD q undef = v) :
    (results fn tmps).run Tryd.prog W = .ok (.tuple #[v, .agg cs]) W :=
  results_slot_row h tmps W g _ cs _ v hp hq hR Tryd.underlying28 rfl (by rw [hz]; kernel_rfl)
theorem ret_noGoto {P : Program} {f : Func} {Q : Ending → World → Prop} {a : Act} {w : World} {v : Value} (h : (results f a.tmps).run P w = .ok v w) (hd : a.defers = []) (hq : Q (.returned v) w) : Exit.noGoto (bodyPost P f Q) .ret a w := bodyPost_ret h hd hq
/-- how many lines were taken, read from the world -/
def takenOf (w : World) (gt : Nat) : Nat := match w.cell? ⟨gt, 0, none⟩ with
  | some (.int _ k) => k.toNat
  | _ => 0
theorem TkW.takenOf {w : World} {B gl gt : Nat} {v : Value} {ls : List (List (List UInt8))} {k : Nat} (h : TkW w B gl gt v ls k) : takenOf w gt = k := by
  unfold Go.Proofs.YtfgdlnidfkjbdaaDoor.takenOf
  rw [show w.cell? ⟨gt, 0, none⟩ = some (.int .i64 (k : Int)) from h.taken.cell 0]
  rfl

/-- what holds at the head of a body's loop -/
structure BdI (B gl gt rb : Nat) (v : Value) (ls : List (List (List UInt8))) (F o m i : Nat) (Y : World) (g5 : Nat) (v6 : Value) (w : World) (acc : Ac.Fo) (rs : List RawS) (m' i' f' : Nat) : Prop where
  own : SmR.Own w (g5 + 1) v6 rs
  els : Els w (g5 + 1) v6.ownBlock acc rs
  rdr : RdrW w B gl gt rb v ls i' m'
  turn : Turn [gt, rb] Y w
  m8 : m' ≤ 256
  il : i' ≤ ls.length
  rl : rs.length ≤ i'
  fu : ls.length - i' < f'
  ff : f' ≤ F
  is : Ac.bod F o m i (ls.drop i) = Ac.pre acc (Ac.bod f' o m' i' (ls.drop i'))

theorem Els.low {w : World} {base base' : Nat} {own : Option Nat} (hb : base' ≤ base) : ∀ {f : Ac.Fo} {rs : List RawS}, Els w base own f rs → Els w base' own f rs
  | .nil, _, h => h
  | .cons _ _ _ _ _, _, ⟨r, rs', h1, h2, h3, h4, h5, h7⟩ => ⟨r, rs', h1, h2, h3, Rc.Own.low h4 hb, h5.keep (fun _ _ => rfl) (fun _ h => ⟨Nat.le_trans hb h.1, h.2⟩), Els.low hb h7⟩
/-- a body's end: what was read lies there, new; the reader's blocks alone have turned -/
theorem BdI.fin {B gl gt rb : Nat} {v : Value} {ls : List (List (List UInt8))} {F o m i : Nat} {Y : World} {v6 : Value} {w wr W : World} {acc : Ac.Fo} {rs : List RawS} {m' i' f' : Nat} (h : BdI B gl gt rb v ls F o m i Y w.heap.size v6 wr acc rs m' i' f') (hYb : Below w.heap.size w Y) (hR : RdrW w B gl gt rb v ls i m) (hT : Turn [gt, rb, w.heap.size] wr W) :
    FoNew W w.heap.size v6 acc ∧ Turn [gt, rb] w W := by
  obtain ⟨l1, l2, l3⟩ := hR.lt
  have hz : w.heap.size ≤ wr.heap.size := Nat.le_trans hYb.size h.turn.size
  refine ⟨⟨rs, ?_, ?_⟩, ?_⟩
  · exact Rc.Own.low (Row.turn h.own hT fun g hg => by have := (h.own.lt g hg).1; simp; omega) (by omega)
  · exact Els.low (by omega) (h.els.turn hT (fun x hx => .inl (by simp at hx; omega)) (fun _ _ hk => hk))
  · refine ⟨hT.os.trans (h.turn.os.trans hYb.os), hT.tape.trans (h.turn.tape.trans hYb.tape), hT.output.trans (h.turn.output.trans hYb.output), Nat.le_trans hz hT.size, fun k hk hn => ?_⟩
    simp only [List.mem_cons, List.not_mem_nil, or_false, not_or] at hn
    exact (hT.block k (by omega) (by simp; omega)).trans ((h.turn.block k (by have := hYb.size; omega) (by simp; omega)).trans (hYb.block k hk))
theorem RdrW.turn {w w' : World} {B gl gt rb : Nat} {v : Value} {ls : List (List (List UInt8))} {i m : Nat} {S : List Nat} (h : RdrW w B gl gt rb v ls i m) (hT : Turn S w w') (hS : ∀ x ∈ S, B ≤ x ∧ x ≠ gl ∧ x ≠ gt ∧ x ≠ rb) : RdrW w' B gl gt rb v ls i m :=
  ⟨h.tk.turn hT ⟨fun hx => (hS _ hx).2.1 rfl, fun hx => (hS _ hx).2.2.1 rfl⟩ (fun x hx => (hS x hx).1), h.rd.turn hT (fun hx => (hS _ hx).2.2.2 rfl), h.ne, h.up, h.far⟩

theorem Rc.Own.rw {α : Type} {R : Rc α} {w : World} {base : Nat} {v : Value} {l : List α} (h : R.Own w base v l) {g : Nat} (hg : v.ownBlock = some g) : ∃ cs, Rw w g cs R.e := by
  rcases h.2 with ⟨rfl, _⟩ | ⟨k, cap, cur, rfl, _, hgg, _⟩
  · simp [Value.ownBlock] at hg
  · simp only [Value.ownBlock, Option.some.injEq] at hg
    subst hg
    exact ⟨cur, hgg⟩
theorem Ac.pre_snoc (acc : Ac.Fo) (op : Int) (a : List (List UInt8)) (n : Int) (b : Ac.Fo) (x : Lx.R (Int × Nat) (Ac.Fo × Nat × Nat × List (List (List UInt8)))) :
    Ac.pre acc (match x with | .bad e => .bad e | .ok (t, y) => .ok (.cons op a n b t, y)) = Ac.pre (acc.app (.cons op a n b .nil)) x := by
  cases x with
  | bad e => rfl
  | ok z =>
    obtain ⟨t, y⟩ := z
    simp only [Ac.pre, Ac.Fo.app_assoc, Ac.Fo.app]
theorem FoP.empty (w : World) (P : Nat → Prop) : FoP w P (.slice none 0 0) .nil := ⟨[], ⟨none, 0, rfl, Nat.le_refl _, fun _ => rfl, fun h => absurd rfl h⟩, rfl⟩
/-- one more statement, put behind those that were read -/
theorem BdI.push {B gl gt rb : Nat} {v : Value} {ls : List (List (List UInt8))} {F o m i : Nat} {Y : World} {v6 : Value} {g5 : Nat} {wr W0 W : World} {acc : Ac.Fo} {rs : List RawS} {m' i' f' m2 i2 f2 : Nat} (h : BdI B gl gt rb v ls F o m i Y g5 v6 wr acc rs m' i' f')
    (hY5 : Y.heap.size ≤ g5 + 1) (hlow : gt < g5 ∧ rb < g5) (h5 : g5 < wr.heap.size) (hB5 : B ≤ g5) (hgl : gl < g5) (hT : Turn [gt, rb] wr W0) (hR : RdrW W0 B gl gt rb v ls i2 m2) {op n : Int} {aa : Option Addr} {an ac : Nat} {ba : Option Addr} {bn bc : Nat} {a : List (List UInt8)} {b : Ac.Fo}
    (ha : TxR.Own W0 (g5 + 1) (.slice aa an ac) a) (hb : FoP W0 (fun k => wr.heap.size ≤ k ∧ k < W0.heap.size) (.slice ba bn bc) b) {lit : Obj} {g cap k : Nat} (hO : SmR.Own W (g5 + 1) (.slice (some ⟨g, 0, none⟩) k cap) (rs ++ [⟨op, aa, an, ac, n, ba, bn, bc⟩]))
    (hG : (W0.alloc lit).grownBy W v6.ownBlock) (hg : v6.ownBlock = some g ∨ g = W0.heap.size + 1) (hm : m2 ≤ 256) (hi : i2 ≤ ls.length) (hi2 : i' < i2) (hf : ls.length - i2 < f2) (hff : f2 ≤ F)
    (his : Ac.bod F o m i (ls.drop i) = Ac.pre (acc.app (.cons op a n b .nil)) (Ac.bod f2 o m2 i2 (ls.drop i2))) :
    BdI B gl gt rb v ls F o m i Y g5 (.slice (some ⟨g, 0, none⟩) k cap) W (acc.app (.cons op a n b .nil)) (rs ++ [⟨op, aa, an, ac, n, ba, bn, bc⟩]) m2 i2 f2 := by
  have hz0 := hT.size
  have hzl := size_alloc W0 lit
  have hO0 : SmR.Own W0 (g5 + 1) v6 rs := Row.turn h.own hT fun x hx => by have := (h.own.lt x hx).1; simp; omega
  have hE0 : Els W0 (g5 + 1) v6.ownBlock acc rs := h.els.turn hT (fun x hx => .inl (by simp at hx; omega)) (fun _ _ hk => hk)
  have hTl : Turn [] W0 (W0.alloc lit) := (Turn.refl [] W0).alloc lit
  have hO1 : SmR.Own (W0.alloc lit) (g5 + 1) v6 rs := hO0.alloc lit
  have hE1 : Els (W0.alloc lit) (g5 + 1) v6.ownBlock acc rs := hE0.turn hTl (by simp) (fun _ _ hk => hk)
  have hTg := Turn.of_grown hG
  have hlt6 : ∀ x, v6.ownBlock = some x → g5 + 1 ≤ x ∧ x < wr.heap.size := fun x hx => h.own.lt x hx
  have hmem : ∀ x, x ∈ v6.ownBlock.toList → v6.ownBlock = some x := fun x hx => by simpa using hx
  have hE2 : Els W (g5 + 1) (Value.slice (some ⟨g, 0, none⟩) k cap).ownBlock acc rs := by
    refine hE1.turn hTg (fun x hx => .inr ⟨hmem x hx, ?_⟩) (fun q hq hk e => ?_)
    · obtain ⟨cs, hcs⟩ := Rc.Own.rw hO1 (hmem x hx)
      exact ⟨cs, _, hcs, by decide⟩
    · simp only [Value.ownBlock, Option.some.injEq] at e
      subst e
      rcases hg with h1 | h1
      · exact hk h1
      · omega
  have hA : TxR.Own W (g5 + 1) (.slice aa an ac) a := by
    refine Row.turn (Rc.Own.alloc ha lit) hTg fun x hx hm => ?_
    obtain ⟨cs, hcs⟩ := Rc.Own.rw hO1 (hmem x hm)
    exact Rw.ne_row hcs (Rc.Own.alloc ha lit) (by decide) hx rfl
  have hBd : FoP W (fun q => g5 + 1 ≤ q ∧ q < W.heap.size ∧ (Value.slice (some ⟨g, 0, none⟩) k cap).ownBlock ≠ some q) (.slice ba bn bc) b := by
    refine hb.keep (fun q hq => ?_) (fun q hq => ⟨by omega, by have := hG.size; omega, fun e => ?_⟩)
    · refine (hTg.block q (by omega) fun hm => ?_).trans (hTl.block q hq.2 (by simp))
      have := hlt6 q (hmem q hm)
      omega
    · simp only [Value.ownBlock, Option.some.injEq] at e
      subst e
      rcases hg with h1 | h1
      · have := hlt6 g h1
        omega
      · omega
  have hTW : Turn [] W0 (W0.alloc lit) := hTl
  have hRW : RdrW W B gl gt rb v ls i2 m2 := by
    refine (hR.turn hTl (by simp)).turn hTg fun x hx => ?_
    have := hlt6 x (hmem x hx)
    omega
  refine ⟨hO, hE2.snoc rfl rfl hA hBd, hRW, ?_, hm, hi, by have := h.rl; simp only [List.length_append, List.length_cons, List.length_nil]; omega, hf, hff, his⟩
  have hTT : Turn [gt, rb] Y W0 := h.turn.trans hT (fun _ hx _ => hx)
  refine ((hTT.trans (hTl.mono (S' := [gt, rb]) (by simp)) (fun _ hx _ => hx))).trans hTg fun x hx hl => ?_
  have := hlt6 x (hmem x hx)
  omega

set_option maxRecDepth 100000 in
set_option maxHeartbeats 4000000 in
theorem body_step (B gl gt rb : Nat) (v : Value) (ls : List (List (List UInt8))) (hl1 : ls.length ≤ 1099511) (hl2 : ∀ l ∈ ls, l.length ≤ 1099511) (hl3 : ∀ l ∈ ls, ∀ s ∈ l, s.length ≤ 1099511627) (F : Nat) (ih : ∀ f, f < F → BodyC B gl gt rb v ls f) : BodyC B gl gt rb v ls F := by
  intro o m i w hF hi ho hm hR hL
  have hY0 := Rw.new w #[.int .i64 0, .int .i64 0] 28
  have hYb := (Below.refl w.heap.size w).alloc (Nat.le_refl _) (.cells #[.int .i64 0, .int .i64 0] 28)
  have hYz := size_alloc w (.cells #[.int .i64 0, .int .i64 0] 28)
  have HI : Hid _ := ih
  clear ih
  obtain ⟨X, hX⟩ : ∃ X, Ac.bod F o m i (ls.drop i) = X := ⟨_, rfl⟩
  rw [hX]
  have HX : Hid _ := hX
  clear hX
  go_enter Tryd.func25, Tryd.ntmps25
  go_upto_region 1 with fail
  generalize w.alloc (.cells #[.int .i64 0, .int .i64 0] 28) = Y at hY0 hYb hYz ⊢
  have hRY := hR.below hYb hR.lt
  have hLY := hL.below hYb hL.size
  have HYz : Hid _ := hYz
  clear hYz
  go_wp2
  go_step3
  go_wp2
  go_step3
  go_wp2
  go_loopw [6] (fun v6 w' => ∃ acc rs m' i' f', BdI B gl gt rb v ls F o m i Y w.heap.size v6 w' acc rs m' i' f') (fun _ w' => ls.length + 1 - takenOf w' gt)
  case atStart => exact ⟨.nil, [], m, i, F, ⟨Rc.Own.nil _ _, rfl, hRY, Turn.refl _ _, hm, hi, by simp, hF, Nat.le_refl _, by rw [Ac.pre_nil]⟩⟩
  case round =>
    obtain ⟨acc, rs, m', i', f', hI⟩ := hrel
    have hRr := hI.rdr
    have hLr := hLY.turn hI.turn (fun x hx => by have := hRr.far; simp at hx; omega)
    have k0 : wr.cell? ⟨rb, 0, none⟩ = some (.func (.func 40) #[] #[.pointer (some ⟨gt, 0, none⟩), .pointer (some ⟨gl, 0, none⟩)]) := hRr.rd.cell 0
    obtain ⟨g, hg⟩ : ∃ g, f' = g + 1 := ⟨f' - 1, by have := hI.fu; omega⟩
    subst hg
    have hg5 : w.heap.size < wr.heap.size := by have := hI.turn.size; have := HYz.out; omega
    have r5 : Rw wr w.heap.size #[.int .i64 0, .int .i64 0] 28 := hY0.turn hI.turn (by have := hR.lt; simp; omega)
    by_cases hlt : i' < ls.length
    · have hT := take_one gl gt v ls i' B wr hRr.tk hlt hl1
      have hd := List.drop_eq_getElem_cons hlt
      have hmem := List.getElem_mem hlt
      have hxl2 := hl2 _ hmem
      have hxl3 := hl3 _ hmem
      have hXe := HX.out.symm.trans hI.is
      rw [hd, Ac.bod] at hXe
      generalize ls[i'] = l at hT hXe hxl2 hxl3
      have hg7 : ∀ x ∈ [gt], 7 ≤ x := fun x hx => by have := hRr.far; simp at hx; omega
      have hBr : B ≤ wr.heap.size := by have := hR.lt; have := hR.up; omega
      have hRL := fun a c W (hs : TxR.Sl W B (.slice a l.length c) l) (h : Laid W) (hz : W.heap.size = wr.heap.size) => readLine_any (.slice a l.length c) l B W h hs (by omega) hxl2 hxl3
      have HI2 : Hid _ := hI
      clear hI hd hmem
      have i64 : (i' : Int) ≤ 1099511 := by omega
      by_cases he : l = [Ac.sEnd]
      · subst he
        rw [if_pos rfl] at hXe
        have hRL : ∀ a c W (hs : TxR.Sl W B (.slice a 1 c) [Ac.sEnd]) (h : Laid W) (hz : W.heap.size = wr.heap.size), Calls Tryd.prog 41 #[.slice a 1 c] W fun e w' => (∃ va vn vc, e = .returned (.tuple #[.agg #[.int .i64 0, .slice va vn vc, .int .i64 0, .slice none 0 0], .bool true])) ∧ Below W.heap.size W w' := by
          intro a c W hs h hz
          refine (hRL a c W hs h hz).mono ?_
          rintro e w' ⟨⟨v, rfl, va, rfl, hO⟩, hb⟩
          obtain ⟨ad, vn, vc, rfl⟩ := hO.isSl
          exact ⟨⟨ad, vn, vc, rfl⟩, hb⟩
        replace hT : Calls Tryd.prog 40 #[.pointer (some ⟨gt, 0, none⟩), .pointer (some ⟨gl, 0, none⟩)] wr fun e w' => (∃ a c, e = .returned (.tuple #[.slice a 1 c, .int .i64 (i' : Int), .bool true]) ∧ TxR.Sl w' B (.slice a 1 c) [Ac.sEnd]) ∧ TkW w' B gl gt v ls (i' + 1) ∧ Turn [gt] wr w' ∧ w'.heap.size = wr.heap.size := hT
        by_cases h0 : o = 0
        · subst h0
          rw [if_pos rfl] at hXe
          have HXe : Hid _ := hXe
          clear hXe
          go_upto_region 4 with (first
            | (go_at_call 40; refine hT.mono ?_; rintro e w1 ⟨⟨la, lc, rfl, hSl⟩, hTk1, hTu1, hz1⟩)
            | (go_at_call 41; refine (hRL _ _ _ hSl (hLr.turn hTu1 hg7) hz1).mono ?_; rintro e w2 ⟨⟨va, vn, vc, rfl⟩, hb2⟩)
            | fail)
          have hB2 := hb2.alloc hb2.size (.cells #[.int .i64 0, .slice va vn vc, .int .i64 0, .slice none 0 0] 34)
          have r10 := Rw.new w2 #[.int .i64 0, .slice va vn vc, .int .i64 0, .slice none 0 0] 34
          have hzz2 : wr.heap.size ≤ w2.heap.size := by have := hb2.size; omega
          generalize w2.alloc (.cells #[.int .i64 0, .slice va vn vc, .int .i64 0, .slice none 0 0] 34) = Z at hB2 r10 ⊢
          have hTu := hTu1.belowTrans hB2
          have r52 := r5.turn hTu (by have := hR.lt; simp; omega)
          have hTk2 := hTk1.below hB2 (by have := hR.lt; omega)
          have z0 : Z.cell? ⟨w.heap.size, 0, none⟩ = some (.int .i64 0) := r52.cell 0
          have z1 : Z.cell? ⟨w.heap.size, 1, none⟩ = some (.int .i64 0) := r52.cell 1
          have f0 : Z.frozen? ⟨w.heap.size, 0, none⟩ = false := r52.free 0
          have f1 : Z.frozen? ⟨w.heap.size, 1, none⟩ = false := r52.free 1
          have t0 : Z.cell? ⟨w2.heap.size, 0, none⟩ = some (.int .i64 0) := r10.cell 0
          clear hb2
          go_wp2
          obtain ⟨-, hfT⟩ := HI2.out.fin hYb hR ((hTu.mono (S' := [gt, rb, w.heap.size]) (fun _ hx _ => by simp at hx; simp [hx])).trans (Turn.put2 Z w.heap.size (.int .i64 131) (.int .i64 (i' : Int))) (fun _ hx _ => by simp at hx; simp [hx]))
          refine ret_noGoto (results_sp Tryd.results25 _ _ (r52.put2 (.int .i64 131) (.int .i64 (i' : Int))) rfl rfl rfl) rfl ⟨?_, hfT⟩
          rw [HXe.out]
          exact rfl
        · have o1 : ((o : Int) == 0) = false := by rw [beq_eq_false_iff_ne]; omega
          rw [if_neg h0] at hXe
          have HXe : Hid _ := hXe
          clear hXe h0
          go_upto_region 4 with (first
            | (go_at_call 40; refine hT.mono ?_; rintro e w1 ⟨⟨la, lc, rfl, hSl⟩, hTk1, hTu1, hz1⟩)
            | (go_at_call 41; refine (hRL _ _ _ hSl (hLr.turn hTu1 hg7) hz1).mono ?_; rintro e w2 ⟨⟨va, vn, vc, rfl⟩, hb2⟩)
            | fail)
          have hB2 := hb2.alloc hb2.size (.cells #[.int .i64 0, .slice va vn vc, .int .i64 0, .slice none 0 0] 34)
          have r10 := Rw.new w2 #[.int .i64 0, .slice va vn vc, .int .i64 0, .slice none 0 0] 34
          have hzz2 : wr.heap.size ≤ w2.heap.size := by have := hb2.size; omega
          generalize w2.alloc (.cells #[.int .i64 0, .slice va vn vc, .int .i64 0, .slice none 0 0] 34) = Z at hB2 r10 ⊢
          have hTu := hTu1.belowTrans hB2
          have r52 := r5.turn hTu (by have := hR.lt; simp; omega)
          have hTk2 := hTk1.below hB2 (by have := hR.lt; omega)
          have z0 : Z.cell? ⟨w.heap.size, 0, none⟩ = some (.int .i64 0) := r52.cell 0
          have z1 : Z.cell? ⟨w.heap.size, 1, none⟩ = some (.int .i64 0) := r52.cell 1
          have f0 : Z.frozen? ⟨w.heap.size, 0, none⟩ = false := r52.free 0
          have f1 : Z.frozen? ⟨w.heap.size, 1, none⟩ = false := r52.free 1
          have t0 : Z.cell? ⟨w2.heap.size, 0, none⟩ = some (.int .i64 0) := r10.cell 0
          clear hb2
          go_wp2
          have hRz : RdrW Z B gl gt rb v ls (i' + 1) m' := ⟨hTk2, hRr.rd.turn hTu (by have := hRr.ne; simp; omega), hRr.ne, hRr.up, hRr.far⟩
          obtain ⟨hfN, hfT⟩ := HI2.out.fin hYb hR ((hTu.mono (S' := [gt, rb, w.heap.size]) (fun _ hx _ => by simp at hx; simp [hx])).trans (Turn.put2 Z w.heap.size (.int .i64 0) (.int .i64 0)) (fun _ hx _ => by simp at hx; simp [hx]))
          have hfR := hRz.turn (Turn.put2 Z w.heap.size (.int .i64 0) (.int .i64 0)) (by have := hR.lt; have := hR.up; simp; omega)
          refine ret_noGoto (results_sp Tryd.results25 _ _ (r52.put2 (.int .i64 0) (.int .i64 0)) rfl rfl rfl) rfl ⟨?_, hfT⟩
          rw [HXe.out]
          exact ⟨⟨_, rfl, by rw [Ac.Fo.app_nil]; exact hfN⟩, hfR, rfl, hlt, HI2.out.m8⟩
      · rw [if_neg he] at hXe
        have hrd : Ac.rdLine l = Ac.stmtOf l := by unfold Ac.rdLine; rw [if_neg he]
        rw [hrd] at hRL
        cases hs : Ac.stmtOf l with
        | none =>
          rw [hs] at hXe hRL
          have hRL : ∀ a c W (hs : TxR.Sl W B (.slice a l.length c) l) (h : Laid W) (hz : W.heap.size = wr.heap.size), Calls Tryd.prog 41 #[.slice a l.length c] W fun e w' => e = .returned (.tuple #[.agg #[.int .i64 0, .slice none 0 0, .int .i64 0, .slice none 0 0], .bool false]) ∧ Below W.heap.size W w' := by
            intro a c W hs h hz
            refine (hRL a c W hs h hz).mono ?_
            rintro e w' ⟨⟨v, rfl, rfl⟩, hb⟩
            exact ⟨rfl, hb⟩
          have HXe : Hid _ := hXe
          clear hXe he hrd hs
          go_upto_region 4 with (first
            | (go_at_call 40; refine hT.mono ?_; rintro e w1 ⟨⟨la, lc, rfl, hSl⟩, hTk1, hTu1, hz1⟩)
            | (go_at_call 41; refine (hRL _ _ _ hSl (hLr.turn hTu1 hg7) hz1).mono ?_; rintro e w2 ⟨rfl, hb2⟩)
            | fail)
          have hB2 := hb2.alloc hb2.size (.cells #[.int .i64 0, .slice none 0 0, .int .i64 0, .slice none 0 0] 34)
          have r10 := Rw.new w2 #[.int .i64 0, .slice none 0 0, .int .i64 0, .slice none 0 0] 34
          have hzz2 : wr.heap.size ≤ w2.heap.size := by have := hb2.size; omega
          generalize w2.alloc (.cells #[.int .i64 0, .slice none 0 0, .int .i64 0, .slice none 0 0] 34) = Z at *
          have hTu := hTu1.belowTrans hB2
          have r52 := r5.turn hTu (by have := hR.lt; simp; omega)
          have hTk2 := hTk1.below hB2 (by have := hR.lt; omega)
          have z0 : Z.cell? ⟨w.heap.size, 0, none⟩ = some (.int .i64 0) := r52.cell 0
          have z1 : Z.cell? ⟨w.heap.size, 1, none⟩ = some (.int .i64 0) := r52.cell 1
          have f0 : Z.frozen? ⟨w.heap.size, 0, none⟩ = false := r52.free 0
          have f1 : Z.frozen? ⟨w.heap.size, 1, none⟩ = false := r52.free 1
          have t0 : Z.cell? ⟨w2.heap.size, 0, none⟩ = some (.int .i64 0) := r10.cell 0
          clear hb2
          go_wp2
          obtain ⟨-, hfT⟩ := HI2.out.fin hYb hR ((hTu.mono (S' := [gt, rb, w.heap.size]) (fun _ hx _ => by simp at hx; simp [hx])).trans (Turn.put2 Z w.heap.size (.int .i64 130) (.int .i64 (i' : Int))) (fun _ hx _ => by simp at hx; simp [hx]))
          refine ret_noGoto (results_sp Tryd.results25 _ _ (r52.put2 (.int .i64 130) (.int .i64 (i' : Int))) rfl rfl rfl) rfl ⟨?_, hfT⟩
          rw [HXe.out]
          exact rfl
        | some x =>
          obtain ⟨op, a, n⟩ := x
          rw [hs] at hXe hRL
          simp only at hXe
          obtain ⟨hop1, hop2⟩ := Ac.stmtOf_op hs
          obtain ⟨k, rfl⟩ : ∃ k : Nat, op = (k : Int) := ⟨op.toNat, by omega⟩
          have hRL : ∀ a' c W (hs : TxR.Sl W B (.slice a' l.length c) l) (h : Laid W) (hz : W.heap.size = wr.heap.size), Calls Tryd.prog 41 #[.slice a' l.length c] W fun e w' => (∃ va vn vc, e = .returned (.tuple #[.agg #[.int .i64 (k : Int), .slice va vn vc, .int .i64 n, .slice none 0 0], .bool true]) ∧ TxR.Own w' wr.heap.size (.slice va vn vc) a) ∧ Below W.heap.size W w' := by
            intro a' c W hs h hz
            refine (hRL a' c W hs h hz).mono ?_
            rintro e w' ⟨⟨v, rfl, va, rfl, hO⟩, hb⟩
            obtain ⟨ad, vn, vc, rfl⟩ := hO.isSl
            rw [hz] at hO
            exact ⟨⟨ad, vn, vc, rfl, hO⟩, hb⟩
          have k1 : ((k : Int) == 0) = false := by rw [beq_eq_false_iff_ne]; omega
          have hRz : ∀ Z, TkW Z B gl gt v ls (i' + 1) → Turn [gt] wr Z → RdrW Z B gl gt rb v ls (i' + 1) m' := fun Z h1 h2 => ⟨h1, hRr.rd.turn h2 (by have := hRr.ne; simp; omega), hRr.ne, hRr.up, hRr.far⟩
          clear he hrd hs
          by_cases hm2 : m' = 256
          · subst hm2
            rw [if_pos rfl] at hXe
            have HXe : Hid _ := hXe
            clear hXe
            go_upto_region 4 with (first
              | (go_at_call 40; refine hT.mono ?_; rintro e w1 ⟨⟨la, lc, rfl, hSl⟩, hTk1, hTu1, hz1⟩)
              | (go_at_call 41; refine (hRL _ _ _ hSl (hLr.turn hTu1 hg7) hz1).mono ?_; rintro e w2 ⟨⟨va, vn, vc, rfl, hO⟩, hb2⟩)
              | fail)
            have hB2 := hb2.alloc hb2.size (.cells #[.int .i64 (k : Int), .slice va vn vc, .int .i64 n, .slice none 0 0] 34)
            have r10 := Rw.new w2 #[.int .i64 (k : Int), .slice va vn vc, .int .i64 n, .slice none 0 0] 34
            have hzz2 : wr.heap.size ≤ w2.heap.size := by have := hb2.size; omega
            have hOa := hO.alloc (.cells #[.int .i64 (k : Int), .slice va vn vc, .int .i64 n, .slice none 0 0] 34)
            generalize w2.alloc (.cells #[.int .i64 (k : Int), .slice va vn vc, .int .i64 n, .slice none 0 0] 34) = Z at *
            have hTu := hTu1.belowTrans hB2
            have r52 := r5.turn hTu (by have := hR.lt; simp; omega)
            have hTk2 := hTk1.below hB2 (by have := hR.lt; omega)
            have z0 : Z.cell? ⟨w.heap.size, 0, none⟩ = some (.int .i64 0) := r52.cell 0
            have z1 : Z.cell? ⟨w.heap.size, 1, none⟩ = some (.int .i64 0) := r52.cell 1
            have f0 : Z.frozen? ⟨w.heap.size, 0, none⟩ = false := r52.free 0
            have f1 : Z.frozen? ⟨w.heap.size, 1, none⟩ = false := r52.free 1
            have t0 : Z.cell? ⟨w2.heap.size, 0, none⟩ = some (.int .i64 (k : Int)) := r10.cell 0
            clear hb2
            have q1 : Z.cell? ⟨rb, 1, none⟩ = some (.int .i64 ((256 : Nat) : Int)) := (hRz Z hTk2 hTu).rd.cell 1
            go_wp2
            obtain ⟨-, hfT⟩ := HI2.out.fin hYb hR ((hTu.mono (S' := [gt, rb, w.heap.size]) (fun _ hx _ => by simp at hx; simp [hx])).trans (Turn.put2 Z w.heap.size (.int .i64 3) (.int .i64 (i' : Int))) (fun _ hx _ => by simp at hx; simp [hx]))
            refine ret_noGoto (results_sp Tryd.results25 _ _ (r52.put2 (.int .i64 3) (.int .i64 (i' : Int))) rfl rfl rfl) rfl ⟨?_, hfT⟩
            rw [HXe.out]
            exact rfl
          · rw [if_neg hm2] at hXe
            have m1 : ((m' : Int) == 256) = false := by rw [beq_eq_false_iff_ne]; omega
            have mb : (m' : Int) ≤ 256 := by have := HI2.out.m8; omega
            have k2 : (0 : Int) ≤ (k : Int) := by omega
            have k3 : (k : Int) < 13 := by omega
            have hKB : ∀ Z, Laid Z → Z.cell? ⟨0, k * 5 + 4, none⟩ = some (.bool (Ac.opens (k : Int))) := fun Z h => h.kinds _ _ ((Ac.kCells_at k (by omega) 4 (by omega)).trans (by rw [Ac.opens_kb]; rfl))
            cases hop : Ac.opens (k : Int) with
            | true =>
              rw [hop] at hXe hKB
              rw [if_pos rfl] at hXe
              by_cases h8 : o = 8
              · subst h8
                rw [if_pos rfl] at hXe
                have HXe : Hid _ := hXe
                clear hXe hop
                go_upto_region 4 with (first
                  | (go_at_call 40; refine hT.mono ?_; rintro e w1 ⟨⟨la, lc, rfl, hSl⟩, hTk1, hTu1, hz1⟩)
                  | (go_at_call 41; refine (hRL _ _ _ hSl (hLr.turn hTu1 hg7) hz1).mono ?_; rintro e w2 ⟨⟨va, vn, vc, rfl, hO⟩, hb2⟩)
                  | fail)
                have hB2 := hb2.alloc hb2.size (.cells #[.int .i64 (k : Int), .slice va vn vc, .int .i64 n, .slice none 0 0] 34)
                have r10 := Rw.new w2 #[.int .i64 (k : Int), .slice va vn vc, .int .i64 n, .slice none 0 0] 34
                have hzz2 : wr.heap.size ≤ w2.heap.size := by have := hb2.size; omega
                have hOa := hO.alloc (.cells #[.int .i64 (k : Int), .slice va vn vc, .int .i64 n, .slice none 0 0] 34)
                generalize w2.alloc (.cells #[.int .i64 (k : Int), .slice va vn vc, .int .i64 n, .slice none 0 0] 34) = Z at *
                have hTu := hTu1.belowTrans hB2
                have r52 := r5.turn hTu (by have := hR.lt; simp; omega)
                have hTk2 := hTk1.below hB2 (by have := hR.lt; omega)
                have z0 : Z.cell? ⟨w.heap.size, 0, none⟩ = some (.int .i64 0) := r52.cell 0
                have z1 : Z.cell? ⟨w.heap.size, 1, none⟩ = some (.int .i64 0) := r52.cell 1
                have f0 : Z.frozen? ⟨w.heap.size, 0, none⟩ = false := r52.free 0
                have f1 : Z.frozen? ⟨w.heap.size, 1, none⟩ = false := r52.free 1
                have t0 : Z.cell? ⟨w2.heap.size, 0, none⟩ = some (.int .i64 (k : Int)) := r10.cell 0
                clear hb2
                have hRZ := hRz Z hTk2 hTu
                have q1 : Z.cell? ⟨rb, 1, none⟩ = some (.int .i64 (m' : Int)) := hRZ.rd.cell 1
                have fr1 : Z.frozen? ⟨rb, 1, none⟩ = false := hRZ.rd.free 1
                have hLZ := hLr.turn hTu hg7
                have kk : Z.cell? ⟨0, k * 5 + 4, none⟩ = some (.bool true) := hKB Z hLZ
                go_wp2
                obtain ⟨-, hfT⟩ := HI2.out.fin hYb hR ((hTu.mono (S' := [gt, rb, w.heap.size]) (fun _ hx _ => by simp at hx; simp [hx])).trans (Turn.put2 Z w.heap.size (.int .i64 132) (.int .i64 (i' : Int))) (fun _ hx _ => by simp at hx; simp [hx]))
                refine ret_noGoto (results_sp Tryd.results25 _ _ (r52.put2 (.int .i64 132) (.int .i64 (i' : Int))) rfl rfl rfl) rfl ⟨?_, hfT⟩
                rw [HXe.out]
                exact rfl
              · have o8 : ((o : Int) == 8) = false := by rw [beq_eq_false_iff_ne]; omega
                rw [if_neg h8] at hXe
                clear hop
                have hbc := Ac.bod_chk g (ls.drop (i' + 1)) (o + 1) (m' + 1) (i' + 1) (by rw [List.length_drop]; have := HI2.out.fu; omega) (by omega) (by have := HI2.out.m8; omega)
                have hin := fun W h1 h2 => HI.out g (by have := HI2.out.ff; omega) (o + 1) (m' + 1) (i' + 1) W (by have := HI2.out.fu; omega) hlt (by omega) (by have := HI2.out.m8; omega) h1 h2
                have oe : ((o + 1 : Nat) : Int) = (o : Int) + 1 := by omega
                rw [oe] at hin
                have ob : (o : Int) ≤ 8 := by omega
                go_upto_region 4 with (first
                  | (go_at_call 40; refine hT.mono ?_; rintro e w1 ⟨⟨la, lc, rfl, hSl⟩, hTk1, hTu1, hz1⟩)
                  | (go_at_call 41; refine (hRL _ _ _ hSl (hLr.turn hTu1 hg7) hz1).mono ?_; rintro e w2 ⟨⟨va, vn, vc, rfl, hO⟩, hb2⟩)
                  | fail)
                have hB2 := hb2.alloc hb2.size (.cells #[.int .i64 (k : Int), .slice va vn vc, .int .i64 n, .slice none 0 0] 34)
                have r10 := Rw.new w2 #[.int .i64 (k : Int), .slice va vn vc, .int .i64 n, .slice none 0 0] 34
                have hzz2 : wr.heap.size ≤ w2.heap.size := by have := hb2.size; omega
                have hOa := hO.alloc (.cells #[.int .i64 (k : Int), .slice va vn vc, .int .i64 n, .slice none 0 0] 34)
                generalize w2.alloc (.cells #[.int .i64 (k : Int), .slice va vn vc, .int .i64 n, .slice none 0 0] 34) = Z at *
                have hTu := hTu1.belowTrans hB2
                have r52 := r5.turn hTu (by have := hR.lt; simp; omega)
                have hTk2 := hTk1.below hB2 (by have := hR.lt; omega)
                have z0 : Z.cell? ⟨w.heap.size, 0, none⟩ = some (.int .i64 0) := r52.cell 0
                have z1 : Z.cell? ⟨w.heap.size, 1, none⟩ = some (.int .i64 0) := r52.cell 1
                have f0 : Z.frozen? ⟨w.heap.size, 0, none⟩ = false := r52.free 0
                have f1 : Z.frozen? ⟨w.heap.size, 1, none⟩ = false := r52.free 1
                have t0 : Z.cell? ⟨w2.heap.size, 0, none⟩ = some (.int .i64 (k : Int)) := r10.cell 0
                clear hb2
                have hRZ := hRz Z hTk2 hTu
                have q1 : Z.cell? ⟨rb, 1, none⟩ = some (.int .i64 (m' : Int)) := hRZ.rd.cell 1
                have fr1 : Z.frozen? ⟨rb, 1, none⟩ = false := hRZ.rd.free 1
                have hLZ := hLr.turn hTu hg7
                have kk : Z.cell? ⟨0, k * 5 + 4, none⟩ = some (.bool true) := hKB Z hLZ
                obtain ⟨a6, n6, c6, h6⟩ := HI2.out.own.isSl
                subst h6
                have t1 : Z.cell? ⟨w2.heap.size, 1, none⟩ = some (.slice va vn vc) := r10.cell 1
                have t2 : Z.cell? ⟨w2.heap.size, 2, none⟩ = some (.int .i64 n) := r10.cell 2
                have t3 : Z.cell? ⟨w2.heap.size, 3, none⟩ = some (.slice none 0 0) := r10.cell 3
                have hTz : Turn [gt, rb] wr (Z.setCell ⟨rb, 1, none⟩ (.int .i64 ((m' : Int) + 1))) := (hTu.mono (S' := [gt, rb]) (fun _ hx _ => by simp at hx; simp [hx])).trans (Turn.put1 Z rb 1 _) (fun _ hx _ => by simp at hx; simp [hx])
                have hR1 : RdrW (Z.setCell ⟨rb, 1, none⟩ (.int .i64 ((m' : Int) + 1))) B gl gt rb v ls (i' + 1) (m' + 1) := ⟨hTk2.turn (Turn.put1 Z rb 1 _) (by have := hRr.ne; simp; omega) (by have := hRr.up; simp; omega), hRZ.rd.set 1 (.int .i64 ((m' : Int) + 1)) (by simp), hRr.ne, hRr.up, hRr.far⟩
                have hO1 : TxR.Own (Z.setCell ⟨rb, 1, none⟩ (.int .i64 ((m' : Int) + 1))) wr.heap.size (.slice va vn vc) a := Row.turn hOa (Turn.put1 Z rb 1 _) (fun x hx => by have := (hOa.lt x hx).1; have := hR.lt; simp; omega)
                have kk1 : (Z.setCell ⟨rb, 1, none⟩ (.int .i64 ((m' : Int) + 1))).cell? ⟨0, k * 5 + 4, none⟩ = some (.bool true) := hKB _ (hLr.turn hTz (fun x hx => by have := hRr.far; simp at hx; omega))
                have r11 : Rw (Z.setCell ⟨rb, 1, none⟩ (.int .i64 ((m' : Int) + 1))) w2.heap.size _ _ := r10.turn (Turn.put1 Z rb 1 _) (by have := hR.lt; simp; omega)
                go_upto_region 15 with fail
                generalize Z.setCell ⟨rb, 1, none⟩ (.int .i64 ((m' : Int) + 1)) = Z1 at hTz hR1 hO1 kk1 r11 ⊢
                have t0 : Z1.cell? ⟨w2.heap.size, 0, none⟩ = some (.int .i64 (k : Int)) := r11.cell 0
                have hL1 : Laid Z1 := hLr.turn hTz (fun x hx => by have := hRr.far; simp at hx; omega)
                replace hin := hin Z1 hR1 hL1
                cases hbo : Ac.bod g (o + 1) (m' + 1) (i' + 1) (ls.drop (i' + 1)) with
                | bad x =>
                  rw [hbo] at hin hXe
                  have HXe : Hid (X = .bad x) := hXe
                  obtain ⟨xe, xj⟩ := x
                  have xne : ¬ xe = 0 := Ac.chk_err (hbc.1 _ hbo)
                  have xn2 : (xe == 0) = false := by rw [beq_eq_false_iff_ne]; exact xne
                  replace hin : Calls Tryd.prog 25 #[.pointer (some ⟨rb, 0, none⟩), .int .i64 ((o : Int) + 1)] Z1 fun e w' => e = .returned (.tuple #[.slice none 0 0, .agg #[.int .i64 xe, .int .i64 (xj : Int)]]) ∧ Turn [gt, rb] Z1 w' := hin
                  clear hXe hbc xne
                  go_upto_region 17 with (first | (go_at_call 25; refine hin.mono ?_; rintro e W1 ⟨rfl, hTi⟩) | fail)
                  have r13 := Rw.new W1 #[.int .i64 xe, .int .i64 (xj : Int)] 28
                  have hTi2 := hTi.alloc (.cells #[.int .i64 xe, .int .i64 (xj : Int)] 28)
                  generalize W1.alloc (.cells #[.int .i64 xe, .int .i64 (xj : Int)] 28) = V at *
                  have hTV := hTz.trans hTi2 (fun _ hx _ => hx)
                  have r53 := r5.turn hTV (by have := hR.lt; simp; omega)
                  have y0 : V.cell? ⟨W1.heap.size, 0, none⟩ = some (.int .i64 xe) := r13.cell 0
                  have y1 : V.cell? ⟨W1.heap.size, 1, none⟩ = some (.int .i64 (xj : Int)) := r13.cell 1
                  have z0 : V.cell? ⟨w.heap.size, 0, none⟩ = some (.int .i64 0) := r53.cell 0
                  have z1 : V.cell? ⟨w.heap.size, 1, none⟩ = some (.int .i64 0) := r53.cell 1
                  have f0 : V.frozen? ⟨w.heap.size, 0, none⟩ = false := r53.free 0
                  have f1 : V.frozen? ⟨w.heap.size, 1, none⟩ = false := r53.free 1
                  go_wp2
                  go_region_with (fail)
                  go_wp2
                  obtain ⟨-, hfT⟩ := HI2.out.fin hYb hR ((hTV.mono (S' := [gt, rb, w.heap.size]) (fun _ hx _ => by simp at hx; simp; omega)).trans (Turn.put2 V w.heap.size (.int .i64 xe) (.int .i64 (xj : Int))) (fun _ hx _ => by simp at hx; simp [hx]))
                  refine ret_noGoto (results_sp Tryd.results25 _ _ (r53.put2 (.int .i64 xe) (.int .i64 (xj : Int))) rfl rfl rfl) rfl ⟨?_, hfT.drew⟩
                  rw [HXe.out]
                  exact rfl
                | ok y =>
                  obtain ⟨b, m2, i2, r2⟩ := y
                  rw [hbo] at hin hXe
                  obtain ⟨-, hb2, -, hb4, -, -, -⟩ := hbc.2 _ _ _ _ hbo
                  replace hXe : X = Ac.pre (acc.app (.cons (k : Int) a n b .nil)) (Ac.bod g o m2 i2 r2) := hXe.trans (Ac.pre_snoc acc (k : Int) a n b _)
                  have HXe : Hid _ := hXe
                  replace hin : Calls Tryd.prog 25 #[.pointer (some ⟨rb, 0, none⟩), .int .i64 ((o : Int) + 1)] Z1 fun e w' => (∃ ba bn bc, e = .returned (.tuple #[.slice ba bn bc, .agg #[.int .i64 0, .int .i64 0]]) ∧ FoNew w' Z1.heap.size (.slice ba bn bc) b) ∧ RdrW w' B gl gt rb v ls i2 m2 ∧ r2 = ls.drop i2 ∧ i2 ≤ ls.length ∧ m2 ≤ 256 ∧ Turn [gt, rb] Z1 w' := by
                    refine hin.mono ?_
                    rintro e w' ⟨⟨⟨vl, rfl, hN⟩, h2, h3, h4, h5⟩, h6⟩
                    obtain ⟨rs', hN1, hN2⟩ := hN
                    obtain ⟨ba, bn, bc, rfl⟩ := hN1.isSl
                    exact ⟨⟨ba, bn, bc, rfl, rs', hN1, hN2⟩, h2, h3, h4, h5, h6⟩
                  have hb4' := hb4 (by omega)
                  rw [List.length_drop] at hb2 hb4'
                  have HB4 : Hid (r2.length < ls.length - (i' + 1)) := hb4'
                  clear hXe hbc hb4 hb4' hb2 hbo
                  go_upto_region 17 with (first | (go_at_call 25; refine hin.mono ?_; rintro e W1 ⟨⟨ba, bn, bc, rfl, hN⟩, hRi, hr2, hi2, hm2', hTi⟩) | fail)
                  have HR2 : Hid _ := hr2
                  clear hr2
                  have r13 := Rw.new W1 #[.int .i64 0, .int .i64 0] 28
                  have hTi2 := hTi.alloc (.cells #[.int .i64 0, .int .i64 0] 28)
                  have hRi2 := hRi.below ((Below.refl W1.heap.size W1).alloc (Nat.le_refl _) (.cells #[.int .i64 0, .int .i64 0] 28)) hRi.lt
                  have hbP : FoP (W1.alloc (.cells #[.int .i64 0, .int .i64 0] 28)) (fun q => Z1.heap.size ≤ q ∧ q < (W1.alloc (.cells #[.int .i64 0, .int .i64 0] 28)).heap.size) (.slice ba bn bc) b := (hN.foP (P := fun q => Z1.heap.size ≤ q ∧ q < W1.heap.size) (fun _ h1 h2 => ⟨h1, h2⟩)).keep (fun q hq => Below.heap_alloc W1 _ q hq.2) (fun q hq => ⟨hq.1, by rw [size_alloc]; omega⟩)
                  generalize W1.alloc (.cells #[.int .i64 0, .int .i64 0] 28) = V at *
                  have r12 := r11.turn hTi2 (by have := hR.lt; simp; omega)
                  have y0 : V.cell? ⟨W1.heap.size, 0, none⟩ = some (.int .i64 0) := r13.cell 0
                  have t3 : V.cell? ⟨w2.heap.size, 3, none⟩ = some (.slice none 0 0) := r12.cell 3
                  have ft3 : V.frozen? ⟨w2.heap.size, 3, none⟩ = false := r12.free 3
                  have hO2 : TxR.Own V wr.heap.size (.slice va vn vc) a := Row.turn hO1 hTi2 (fun x hx => by have := (hO1.lt x hx).1; have := hR.lt; simp; omega)
                  have hlt2 := r11.lt
                  have hTs : Turn [w2.heap.size] V (V.setCell ⟨w2.heap.size, 3, none⟩ (.slice ba bn bc)) := Turn.put1 V w2.heap.size 3 _
                  have hT3 : Turn [gt, rb] wr (V.setCell ⟨w2.heap.size, 3, none⟩ (.slice ba bn bc)) := (hTz.trans hTi2 (fun _ hx _ => hx)).trans hTs (fun x hx hl => by simp at hx; omega)
                  have r14 : Rw (V.setCell ⟨w2.heap.size, 3, none⟩ (.slice ba bn bc)) w2.heap.size #[.int .i64 (k : Int), .slice va vn vc, .int .i64 n, .slice ba bn bc] 34 := r12.set 3 (.slice ba bn bc) (by simp)
                  have hR3 : RdrW (V.setCell ⟨w2.heap.size, 3, none⟩ (.slice ba bn bc)) B gl gt rb v ls i2 m2 := hRi2.turn hTs (by have := hR.lt; have := hR.up; simp; omega)
                  have hO3 : TxR.Own (V.setCell ⟨w2.heap.size, 3, none⟩ (.slice ba bn bc)) wr.heap.size (.slice va vn vc) a := Row.turn hO2 hTs (fun x hx hm => by simp at hm; exact Rw.ne_row r12 hO2 (by decide) hx hm)
                  have hb3 : FoP (V.setCell ⟨w2.heap.size, 3, none⟩ (.slice ba bn bc)) (fun q => wr.heap.size ≤ q ∧ q < (V.setCell ⟨w2.heap.size, 3, none⟩ (.slice ba bn bc)).heap.size) (.slice ba bn bc) b := hbP.keep (fun q hq => hTs.block q hq.2 (by simp; omega)) (fun q hq => ⟨by have := hTz.size; omega, by rw [size_setCell]; exact hq.2⟩)
                  go_upto_region 20 with fail
                  generalize V.setCell ⟨w2.heap.size, 3, none⟩ (.slice ba bn bc) = Z3 at hT3 r14 hR3 hO3 hb3 ⊢
                  have t0 : Z3.cell? ⟨w2.heap.size, 0, none⟩ = some (.int .i64 (k : Int)) := r14.cell 0
                  have t1 : Z3.cell? ⟨w2.heap.size, 1, none⟩ = some (.slice va vn vc) := r14.cell 1
                  have t2 : Z3.cell? ⟨w2.heap.size, 2, none⟩ = some (.int .i64 n) := r14.cell 2
                  have t3 : Z3.cell? ⟨w2.heap.size, 3, none⟩ = some (.slice ba bn bc) := r14.cell 3
                  have hO6 : SmR.Own Z3 (w.heap.size + 1) (.slice a6 n6 c6) rs := Row.turn HI2.out.own hT3 (fun x hx => by have := (HI2.out.own.lt x hx).1; have := hR.lt; simp; omega)
                  have hO7 := hO6.alloc (.cells #[.int .i64 (k : Int), .slice va vn vc, .int .i64 n, .slice ba bn bc] 34)
                  have hLit := Rc.lit (R := SmR) Z3 ⟨(k : Int), va, vn, vc, n, ba, bn, bc⟩ #[.int .i64 (k : Int), .slice va vn vc, .int .i64 n, .slice ba bn bc] rfl
                  have HLn : Hid (rs.length + [(⟨(k : Int), va, vn, vc, n, ba, bn, bc⟩ : RawS)].length ≤ 1099511627) := by show _ ≤ _; have := HI2.out.rl; simp only [List.length_cons, List.length_nil]; omega
                  have hzl : w.heap.size + 1 ≤ (Z3.alloc (.cells #[.int .i64 (k : Int), .slice va vn vc, .int .i64 n, .slice ba bn bc] 34)).heap.size := by rw [size_alloc]; have := hT3.size; omega
                  go_wp2_with (at_builtin; go_must (refine SmR.append_at rfl _ _ rfl (w.heap.size + 1) (Z3.heap.size + 1) _ _ rs [⟨(k : Int), va, vn, vc, n, ba, bn, bc⟩] rfl hO7 rfl hLit (by simp) HLn hzl ?_))
                  intro g9 c9 W9 hO9 hG9 hg9 hl9
                  go_wp2
                  have hlen2 : r2.length = ls.length - i2 := by rw [HR2.out, List.length_drop]
                  have hb4 := HB4.out
                  have hpush := HI2.out.push (by have := HYz.out; omega) (by have := hR.lt; omega) hg5 (by have := hR.lt; have := hR.up; omega) (by have := hR.lt; omega) hT3 hR3 (Rc.Own.low hO3 (by omega)) hb3 hO9 hG9 hg9 hm2' hi2 (by omega) (f2 := g) (by have := HI2.out.fu; omega) (by have := HI2.out.ff; omega) (by rw [← HR2.out]; exact HX.out.trans HXe.out)
                  refine ⟨⟨_, _, _, _, _, hpush⟩, ?_⟩
                  rw [hpush.rdr.tk.takenOf, hRr.tk.takenOf]
                  omega
            | false =>
              rw [hop] at hXe hKB
              rw [if_neg (by simp)] at hXe
              replace hXe : X = Ac.pre (acc.app (.cons (k : Int) a n .nil .nil)) (Ac.bod g o (m' + 1) (i' + 1) (ls.drop (i' + 1))) := hXe.trans (Ac.pre_snoc acc (k : Int) a n .nil _)
              have HXe : Hid _ := hXe
              clear hXe
              go_upto_region 4 with (first
                | (go_at_call 40; refine hT.mono ?_; rintro e w1 ⟨⟨la, lc, rfl, hSl⟩, hTk1, hTu1, hz1⟩)
                | (go_at_call 41; refine (hRL _ _ _ hSl (hLr.turn hTu1 hg7) hz1).mono ?_; rintro e w2 ⟨⟨va, vn, vc, rfl, hO⟩, hb2⟩)
                | fail)
              have hB2 := hb2.alloc hb2.size (.cells #[.int .i64 (k : Int), .slice va vn vc, .int .i64 n, .slice none 0 0] 34)
              have r10 := Rw.new w2 #[.int .i64 (k : Int), .slice va vn vc, .int .i64 n, .slice none 0 0] 34
              have hzz2 : wr.heap.size ≤ w2.heap.size := by have := hb2.size; omega
              have hOa := hO.alloc (.cells #[.int .i64 (k : Int), .slice va vn vc, .int .i64 n, .slice none 0 0] 34)
              generalize w2.alloc (.cells #[.int .i64 (k : Int), .slice va vn vc, .int .i64 n, .slice none 0 0] 34) = Z at *
              have hTu := hTu1.belowTrans hB2
              have r52 := r5.turn hTu (by have := hR.lt; simp; omega)
              have hTk2 := hTk1.below hB2 (by have := hR.lt; omega)
              have z0 : Z.cell? ⟨w.heap.size, 0, none⟩ = some (.int .i64 0) := r52.cell 0
              have z1 : Z.cell? ⟨w.heap.size, 1, none⟩ = some (.int .i64 0) := r52.cell 1
              have f0 : Z.frozen? ⟨w.heap.size, 0, none⟩ = false := r52.free 0
              have f1 : Z.frozen? ⟨w.heap.size, 1, none⟩ = false := r52.free 1
              have t0 : Z.cell? ⟨w2.heap.size, 0, none⟩ = some (.int .i64 (k : Int)) := r10.cell 0
              clear hb2
              have hRZ := hRz Z hTk2 hTu
              have q1 : Z.cell? ⟨rb, 1, none⟩ = some (.int .i64 (m' : Int)) := hRZ.rd.cell 1
              have fr1 : Z.frozen? ⟨rb, 1, none⟩ = false := hRZ.rd.free 1
              have hLZ := hLr.turn hTu hg7
              have kk : Z.cell? ⟨0, k * 5 + 4, none⟩ = some (.bool false) := hKB Z hLZ
              obtain ⟨a6, n6, c6, h6⟩ := HI2.out.own.isSl
              subst h6
              have t1 : Z.cell? ⟨w2.heap.size, 1, none⟩ = some (.slice va vn vc) := r10.cell 1
              have t2 : Z.cell? ⟨w2.heap.size, 2, none⟩ = some (.int .i64 n) := r10.cell 2
              have t3 : Z.cell? ⟨w2.heap.size, 3, none⟩ = some (.slice none 0 0) := r10.cell 3
              have hTz : Turn [gt, rb] wr (Z.setCell ⟨rb, 1, none⟩ (.int .i64 ((m' : Int) + 1))) := (hTu.mono (S' := [gt, rb]) (fun _ hx _ => by simp at hx; simp [hx])).trans (Turn.put1 Z rb 1 _) (fun _ hx _ => by simp at hx; simp [hx])
              have hR1 : RdrW (Z.setCell ⟨rb, 1, none⟩ (.int .i64 ((m' : Int) + 1))) B gl gt rb v ls (i' + 1) (m' + 1) := ⟨hTk2.turn (Turn.put1 Z rb 1 _) (by have := hRr.ne; simp; omega) (by have := hRr.up; simp; omega), hRZ.rd.set 1 (.int .i64 ((m' : Int) + 1)) (by simp), hRr.ne, hRr.up, hRr.far⟩
              have hO1 : TxR.Own (Z.setCell ⟨rb, 1, none⟩ (.int .i64 ((m' : Int) + 1))) wr.heap.size (.slice va vn vc) a := Row.turn hOa (Turn.put1 Z rb 1 _) (fun x hx => by have := (hOa.lt x hx).1; have := hR.lt; simp; omega)
              have kk1 : (Z.setCell ⟨rb, 1, none⟩ (.int .i64 ((m' : Int) + 1))).cell? ⟨0, k * 5 + 4, none⟩ = some (.bool false) := hKB _ (hLr.turn hTz (fun x hx => by have := hRr.far; simp at hx; omega))
              have r11 : Rw (Z.setCell ⟨rb, 1, none⟩ (.int .i64 ((m' : Int) + 1))) w2.heap.size _ _ := r10.turn (Turn.put1 Z rb 1 _) (by have := hR.lt; simp; omega)
              have h8 := Bool.eq_false_or_eq_true ((o : Int) == 8)
              rcases h8 with h8 | h8
              all_goals (
                go_upto_region 15 with fail
                generalize Z.setCell ⟨rb, 1, none⟩ (.int .i64 ((m' : Int) + 1)) = Z1 at hTz hR1 hO1 kk1 r11 ⊢
                have t0 : Z1.cell? ⟨w2.heap.size, 0, none⟩ = some (.int .i64 (k : Int)) := r11.cell 0
                have t1 : Z1.cell? ⟨w2.heap.size, 1, none⟩ = some (.slice va vn vc) := r11.cell 1
                have t2 : Z1.cell? ⟨w2.heap.size, 2, none⟩ = some (.int .i64 n) := r11.cell 2
                have t3 : Z1.cell? ⟨w2.heap.size, 3, none⟩ = some (.slice none 0 0) := r11.cell 3
                have hO6 : SmR.Own Z1 (w.heap.size + 1) (.slice a6 n6 c6) rs := Row.turn HI2.out.own hTz (fun x hx => by have := (HI2.out.own.lt x hx).1; have := hR.lt; simp; omega)
                have hO7 := hO6.alloc (.cells #[.int .i64 (k : Int), .slice va vn vc, .int .i64 n, .slice none 0 0] 34)
                have hLit := Rc.lit (R := SmR) Z1 ⟨(k : Int), va, vn, vc, n, none, 0, 0⟩ #[.int .i64 (k : Int), .slice va vn vc, .int .i64 n, .slice none 0 0] rfl
                have HLn : Hid (rs.length + [(⟨(k : Int), va, vn, vc, n, none, 0, 0⟩ : RawS)].length ≤ 1099511627) := by show _ ≤ _; have := HI2.out.rl; simp only [List.length_cons, List.length_nil]; omega
                have hzl : w.heap.size + 1 ≤ (Z1.alloc (.cells #[.int .i64 (k : Int), .slice va vn vc, .int .i64 n, .slice none 0 0] 34)).heap.size := by rw [size_alloc]; have := hTz.size; omega
                go_wp2_with (at_builtin; go_must (refine SmR.append_at rfl _ _ rfl (w.heap.size + 1) (Z1.heap.size + 1) _ _ rs [⟨(k : Int), va, vn, vc, n, none, 0, 0⟩] rfl hO7 rfl hLit (by simp) HLn hzl ?_))
                intro g9 c9 W9 hO9 hG9 hg9 hl9
                go_wp2
                have hpush := HI2.out.push (by have := HYz.out; omega) (by have := hR.lt; omega) hg5 (by have := hR.lt; have := hR.up; omega) (by have := hR.lt; omega) hTz hR1 (Rc.Own.low hO1 (by omega)) (FoP.empty _ _) hO9 hG9 hg9 (by have := HI2.out.m8; omega) hlt (Nat.lt_succ_self _) (by have := HI2.out.fu; omega) (by have := HI2.out.ff; omega) (HX.out.trans HXe.out)
                refine ⟨⟨_, _, _, _, _, hpush⟩, ?_⟩
                rw [hpush.rdr.tk.takenOf, hRr.tk.takenOf]
                omega)
    · obtain rfl : i' = ls.length := by have := hI.il; omega
      have hT := take_end gl gt v ls B wr hRr.tk
      have hRL := fun W (h : Laid W) => readLine_any (.slice none 0 0) [] 0 W h (Rc.Sl.nil _ _) (Nat.zero_le _) (by simp) (by simp)
      have hRL : ∀ W (h : Laid W), Calls Tryd.prog 41 #[.slice none 0 0] W fun e w' => e = .returned (.tuple #[.agg #[.int .i64 0, .slice none 0 0, .int .i64 0, .slice none 0 0], .bool false]) ∧ Below W.heap.size W w' := by
        intro W h
        refine (hRL W h).mono ?_
        rintro e w' ⟨⟨v, rfl, rfl⟩, hb⟩
        exact ⟨rfl, hb⟩
      have hXe := HX.out.symm.trans hI.is
      rw [List.drop_length, Ac.bod] at hXe
      have HI2 : Hid _ := hI
      clear hI
      by_cases h0 : 0 < o
      · have o1 : (0 : Int) < (o : Int) := by omega
        rw [if_pos h0] at hXe
        have HXe : Hid _ := hXe
        clear hXe
        go_upto_region 4 with (first
          | (go_at_call 40; refine hT.mono ?_; rintro e w1 ⟨rfl, q, rfl⟩)
          | (go_at_call 41; refine (hRL _ (hLr.drewN q)).mono ?_; rintro e w2 ⟨rfl, hb2⟩)
          | fail)
        have hZb := ((below_drewF (Below.refl wr.heap.size wr) q).trans hb2).alloc hb2.size (.cells #[.int .i64 0, .slice none 0 0, .int .i64 0, .slice none 0 0] 34)
        generalize w2.alloc (.cells #[.int .i64 0, .slice none 0 0, .int .i64 0, .slice none 0 0] 34) = Z at hZb ⊢
        have r52 := r5.below hZb hg5
        have z0 : Z.cell? ⟨w.heap.size, 0, none⟩ = some (.int .i64 0) := r52.cell 0
        have z1 : Z.cell? ⟨w.heap.size, 1, none⟩ = some (.int .i64 0) := r52.cell 1
        have f0 : Z.frozen? ⟨w.heap.size, 0, none⟩ = false := r52.free 0
        have f1 : Z.frozen? ⟨w.heap.size, 1, none⟩ = false := r52.free 1
        clear hb2
        go_wp2
        obtain ⟨-, hfT⟩ := HI2.out.fin hYb hR (((Turn.of_below hZb).mono (S' := [gt, rb, w.heap.size]) (by simp)).trans (Turn.put2 Z w.heap.size (.int .i64 131) (.int .i64 (ls.length : Int))) (fun _ hx _ => by simp at hx; simp [hx]))
        refine ret_noGoto (results_sp Tryd.results25 _ _ (r52.put2 (.int .i64 131) (.int .i64 (ls.length : Int))) rfl rfl rfl) rfl ⟨?_, hfT⟩
        rw [HXe.out]
        exact rfl
      · obtain rfl : o = 0 := by omega
        rw [if_neg h0] at hXe
        have HXe : Hid _ := hXe
        clear hXe h0
        go_upto_region 4 with (first
          | (go_at_call 40; refine hT.mono ?_; rintro e w1 ⟨rfl, q, rfl⟩)
          | (go_at_call 41; refine (hRL _ (hLr.drewN q)).mono ?_; rintro e w2 ⟨rfl, hb2⟩)
          | fail)
        have hZb := ((below_drewF (Below.refl wr.heap.size wr) q).trans hb2).alloc hb2.size (.cells #[.int .i64 0, .slice none 0 0, .int .i64 0, .slice none 0 0] 34)
        generalize w2.alloc (.cells #[.int .i64 0, .slice none 0 0, .int .i64 0, .slice none 0 0] 34) = Z at hZb ⊢
        have r52 := r5.below hZb hg5
        have z0 : Z.cell? ⟨w.heap.size, 0, none⟩ = some (.int .i64 0) := r52.cell 0
        have z1 : Z.cell? ⟨w.heap.size, 1, none⟩ = some (.int .i64 0) := r52.cell 1
        have f0 : Z.frozen? ⟨w.heap.size, 0, none⟩ = false := r52.free 0
        have f1 : Z.frozen? ⟨w.heap.size, 1, none⟩ = false := r52.free 1
        clear hb2
        go_wp2
        obtain ⟨hfN, hfT⟩ := HI2.out.fin hYb hR (((Turn.of_below hZb).mono (S' := [gt, rb, w.heap.size]) (by simp)).trans (Turn.put2 Z w.heap.size (.int .i64 0) (.int .i64 0)) (fun _ hx _ => by simp at hx; simp [hx]))
        have hfR := (hRr.below hZb hRr.lt).turn (Turn.put2 Z w.heap.size (.int .i64 0) (.int .i64 0)) (by have := hR.lt; have := hR.up; simp; omega)
        refine ret_noGoto (results_sp Tryd.results25 _ _ (r52.put2 (.int .i64 0) (.int .i64 0)) rfl rfl rfl) rfl ⟨?_, hfT⟩
        rw [HXe.out]
        exact ⟨⟨_, rfl, by rw [Ac.Fo.app_nil]; exact hfN⟩, hfR, by rw [List.drop_length], Nat.le_refl _, HI2.out.m8⟩

theorem body_any (B gl gt rb : Nat) (v : Value) (ls : List (List (List UInt8))) (hl1 : ls.length ≤ 1099511) (hl2 : ∀ l ∈ ls, l.length ≤ 1099511) (hl3 : ∀ l ∈ ls, ∀ s ∈ l, s.length ≤ 1099511627) (F : Nat) : BodyC B gl gt rb v ls F := by
  induction F using Nat.strongRecOn with
  | ind F ih => exact body_step B gl gt rb v ls hl1 hl2 hl3 F ih

end Go.Proofs.YtfgdlnidfkjbdaaDoor
