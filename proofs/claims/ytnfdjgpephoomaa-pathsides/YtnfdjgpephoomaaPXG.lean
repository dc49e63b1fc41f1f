/-
  WHAT THE PROGRAM's Glob DOES.
-/
import Derived.Test.YtnfdjgpephoomaaPXS
import Derived.Test.YtnfdjgpephoomaaPStep
import Derived.Test.YtnfdjgpephoomaaRGlobT
import Derived.WalkMore
import Derived.ScopeJumps
namespace Go.Proofs.Ytnfdjgpephoomaa
open Go.RowKit

set_option maxRecDepth 100000 in
theorem fits_any (g b : UInt8) (w : World) : Calls Try.prog 38 #[.int .u8 (g.toNat : Int), .int .u8 (b.toNat : Int)] w fun e w' => e = .returned (.bool (Pm.fitB g b)) ∧ w' = w := by
  unfold Pm.fitB
  have hg : g = 63 ↔ g.toNat = 63 := ⟨fun h => by rw [h]; rfl, fun h => UInt8.toNat_inj.1 h⟩
  have hb : b = 47 ↔ b.toNat = 47 := ⟨fun h => by rw [h]; rfl, fun h => UInt8.toNat_inj.1 h⟩
  have hgb : g = b ↔ g.toNat = b.toNat := UInt8.toNat_inj.symm
  have HK : Hid ((if g = 63 then decide (b ≠ 47) else decide (g = b)) = if g.toNat = 63 then decide (b.toNat ≠ 47) else decide (g.toNat = b.toNat)) := by
    show _ = _
    by_cases h : g.toNat = 63
    · rw [if_pos (hg.2 h), if_pos h]; simp [hb]
    · rw [if_neg (fun e => h (hg.1 e)), if_neg h]; simp [hgb]
  generalize (if g = 63 then decide (b ≠ 47) else decide (g = b)) = K at *
  clear hg hb hgb
  have h1 := g.toNat_lt
  have h2 := b.toNat_lt
  generalize g.toNat = X at *
  generalize b.toNat = Y at *
  go_enter Try.func38, Try.ntmps38
  go_wp2
  all_goals go_ret
  all_goals refine ⟨?_, rfl⟩
  all_goals rw [HK.out]
  all_goals refine congrArg (fun b => Ending.returned (Value.bool b)) ?_
  all_goals rw [Bool.eq_iff_iff]
  · have h : ((X : Int) == 63) = true := by assumption
    simp only [beq_iff_eq] at h
    rw [if_pos (by omega)]
    simp only [bne_iff_ne, ne_eq, decide_eq_true_eq]
    omega
  · have h : ((X : Int) == 63) = false := by assumption
    simp only [beq_eq_false_iff_ne, ne_eq] at h
    rw [if_neg (by omega)]
    simp only [beq_iff_eq, decide_eq_true_eq]
    omega

/-- a scope with one label, whose way from the label on is walked once -/
theorem wp_scope_once {P : Program} {a : Act} {w : World} {Q : Exit → Act → World → Prop} {c rest : Code} (l : Nat) (J : Act → World → Prop) (μ : Act → World → Nat) (hf : findLabel c l = some (Code.skip.seq rest))
    (pass : ∀ a w, J a w → rest.wp P (Exit.jump l (fun a' w' => J a' w' ∧ μ a' w' < μ a w) Q) a w)
    (first : (∀ a w, J a w → rest.wp P (Exit.jump l J Q) a w) → c.wp P (Exit.jump l J Q) a w) : (Code.scope c).wp P Q a w := by
  refine wp_scope_jumps l J μ hf (first fun a w h => ?_) (fun a w h => wp_seq (wp_skip (pass a w h)))
  refine Code.wp_mono (fun e a1 w1 hq => ?_) (pass a w h)
  cases e with
  | goto l' => exact ⟨hq.1, hq.2.1⟩
  | normal => exact hq
  | exit id => exact hq
  | ret => exact hq
  | panic ch => exact hq
  | outgrown => exact hq

/-- a list is its elements -/
theorem list_getD (n : Nat) (l : List Value) (h : l.length = n) : l = (List.range n).map fun k => l.getD k undef := by
  apply List.ext_getElem
  · simp [h]
  · intro k h1 h2
    simp [List.getD, List.getElem?_eq_getElem h1]
def frame98 (f : Nat → Value) : List Value := [f 0, f 1, f 2, f 3, f 4, f 5, f 6, f 7, f 8, f 9, f 10, f 11, f 12, f 13, f 14, f 15, f 16, f 17, f 18, f 19, f 20, f 21, f 22, f 23, f 24, f 25, f 26, f 27, f 28, f 29, f 30, f 31, f 32, f 33, f 34, f 35, f 36, f 37, f 38, f 39, f 40, f 41, f 42, f 43, f 44, f 45, f 46, f 47, f 48, f 49, f 50, f 51, f 52, f 53, f 54, f 55, f 56, f 57, f 58, f 59, f 60, f 61, f 62, f 63, f 64, f 65, f 66, f 67, f 68, f 69, f 70, f 71, f 72, f 73, f 74, f 75, f 76, f 77, f 78, f 79, f 80, f 81, f 82, f 83, f 84, f 85, f 86, f 87, f 88, f 89, f 90, f 91, f 92, f 93, f 94, f 95, f 96, f 97]
set_option maxRecDepth 100000 in
theorem frame98_of (T : Array Value) (h : T.size = 98) : T = (frame98 fun k => T.toList.getD k undef).toArray := by
  have := list_getD 98 T.toList (by rw [Array.length_toList]; exact h)
  apply Array.toList_inj.1
  exact this
/-- a place to go back to, in the block A -/
def PlB (w : World) (A : Nat) (x y : Nat) : Prop := w.heap[A]? = some (.cells #[.int .i64 (x : Int), .int .i64 (y : Int)] 53 (0, 0))
theorem PlB.c0 {w : World} {A x y : Nat} (h : PlB w A x y) : w.cell? ⟨A, 0, none⟩ = some (.int .i64 (x : Int)) := cell_of_row w A 0 _ _ (0, 0) h
theorem PlB.c1 {w : World} {A x y : Nat} (h : PlB w A x y) : w.cell? ⟨A, 1, none⟩ = some (.int .i64 (y : Int)) := cell_of_row w A 1 _ _ (0, 0) h
theorem PlB.free {w : World} {A x y : Nat} (h : PlB w A x y) (j : Nat) : w.frozen? ⟨A, j, none⟩ = false := by
  unfold PlB at h
  simp [World.frozen?, h]
theorem PlB.set1 {w : World} {A x y : Nat} (h : PlB w A x y) (v : Int) (z : Nat) (hv : v = (z : Int)) : PlB (w.setCell ⟨A, 1, none⟩ (.int .i64 v)) A x z := by
  subst hv
  exact heap_setCell_same w A 1 _ _ _ h
theorem PlB.set0 {w : World} {A x y : Nat} (h : PlB w A x y) (v : Int) (z : Nat) (hv : v = (z : Int)) : PlB (w.setCell ⟨A, 0, none⟩ (.int .i64 v)) A z y := by
  subst hv
  exact heap_setCell_same w A 0 _ _ _ h
theorem PlB.other {w : World} {A x y : Nat} (h : PlB w A x y) {b : Nat} (hb : A ≠ b) (j : Nat) (v : Value) : PlB (w.setCell ⟨b, j, none⟩ v) A x y := (heap_setCell_other w _ A v hb).trans h
/-- where Glob stands at its label -/
structure GJ (p s : ByteArray) (w : World) (a : Act) (wr : World) (g i og oi tg ti : Nat) : Prop where
  D : a.defers = []
  T : a.tmps.size = 98
  t0 : a.tmps.toList.getD 0 undef = .string p
  t1 : a.tmps.toList.getD 1 undef = .string s
  t5 : a.tmps.toList.getD 5 undef = .pointer (some ⟨w.heap.size, 0, none⟩)
  t6 : a.tmps.toList.getD 6 undef = .pointer (some ⟨w.heap.size + 1, 0, none⟩)
  t7 : a.tmps.toList.getD 7 undef = .int .i64 (g : Int)
  t8 : a.tmps.toList.getD 8 undef = .int .i64 (i : Int)
  B : Below w.heap.size w wr
  sz : w.heap.size + 2 ≤ wr.heap.size
  o : PlB wr w.heap.size og oi
  t : PlB wr (w.heap.size + 1) tg ti
  G : Pm.GI (bs p) (bs s) g i og oi tg ti
def natAt (w : World) (A k : Nat) : Nat := match w.cell? ⟨A, k, none⟩ with
  | some (.int _ x) => x.toNat
  | _ => 0
def GM (w : World) (a : Act) (wr : World) : Nat := Pm.far 1000001 (intOf (a.tmps.toList.getD 7 undef)).toNat (intOf (a.tmps.toList.getD 8 undef)).toNat (natAt wr w.heap.size 0) (natAt wr w.heap.size 1) (natAt wr (w.heap.size + 1) 0) (natAt wr (w.heap.size + 1) 1)
theorem GJ.far {p s : ByteArray} {w wr : World} {a : Act} {g i og oi tg ti : Nat} (h : GJ p s w a wr g i og oi tg ti) : GM w a wr = Pm.far 1000001 g i og oi tg ti := by
  unfold GM natAt
  rw [h.t7, h.t8, h.o.c0, h.o.c1, h.t.c0, h.t.c1]
  rfl
theorem GJ.go {p s : ByteArray} {w : World} {g i og oi tg ti n : Nat} (hn : n = Pm.far 1000001 g i og oi tg ti) {a' : Act} {w' : World} {g' i' og' oi' tg' ti' : Nat} (h' : GJ p s w a' w' g' i' og' oi' tg' ti') (hlt : Pm.far 1000001 g' i' og' oi' tg' ti' < Pm.far 1000001 g i og oi tg ti) :
    (∃ g i og oi tg ti, GJ p s w a' w' g i og oi tg ti) ∧ GM w a' w' < n := ⟨⟨_, _, _, _, _, _, h'⟩, by rw [h'.far, hn]; exact hlt⟩
set_option maxRecDepth 100000 in
set_option maxHeartbeats 4000000 in
theorem Glob_any (p s : ByteArray) (w : World) (hp : p.size ≤ 1000000) (hs : s.size ≤ 1000000) : Calls Try.prog 25 #[.string p, .string s] w fun e w' => e = .returned (.bool (Pm.glob (bs p) (bs s))) ∧ Below w.heap.size w w' := by
  go_enter Try.func25, Try.ntmps25
  go_wp2
  refine wp_scope_once 0 (fun a' w' => ∃ g i og oi tg ti, GJ p s w a' w' g i og oi tg ti) (GM w) rfl ?_ ?_
  · rintro a wr ⟨g, i, og, oi, tg, ti, hJ⟩
    have HM : Hid _ := hJ.far
    generalize GM w a wr = M at HM ⊢
    obtain ⟨hD, hT, t0, t1, t5, t6, t7, t8, hB, hsz, ho, ht, hG⟩ := hJ
    obtain ⟨T, D⟩ := a
    dsimp only at hD hT t0 t1 t5 t6 t7 t8
    subst hD
    have e := frame98_of T hT
    generalize (fun k => T.toList.getD k undef) = f at e
    subst e
    simp only [frame98, List.getD_cons_zero, List.getD_cons_succ] at t0 t1 t5 t6 t7 t8 ⊢
    rw [t0, t1, t5, t6, t7, t8]
    clear t0 t1 t5 t6 t7 t8 hT
    have hgl := hG.gl
    have hil := hG.il
    rw [bs_length] at hgl hil
    have HG : Hid _ := hG
    have c1 := ho.c0
    have c2 := ho.c1
    have c3 := ht.c0
    have c4 := ht.c1
    have Ho : Hid _ := ho
    have Ht : Hid _ := ht
    have hrest : bs (p.extract g p.size) = (bs p).drop g := by rw [bs_extract, List.take_of_length_le (by rw [List.length_drop, bs_length]; exact Nat.le_refl _)]
    have HR : Hid _ := hrest
    have i1 : (g : Int) ≤ (p.size : Int) := by omega
    have z0 := ho.free 0
    have z1 := ho.free 1
    have z2 := ht.free 0
    have z3 := ht.free 1
    clear hG ho ht hrest
    go_wp2_with fail
    generalize p.extract g p.size = rest at *
    refine (HasPrefix_any rest ⟨#[42, 42]⟩ _).mono ?_
    rintro e w1 ⟨rfl, rfl⟩
    rw [HR.out, show bs ⟨#[42, 42]⟩ = [42, 42] from rfl]
    by_cases h2 : [42, 42].isPrefixOf ((bs p).drop g) = true
    · rw [h2]
      have HT : Hid _ := Pm.pre_two h2
      clear h2
      go_wp2
      go_step3
      refine ⟨rfl, GJ.go HM.out (g' := g + 2) (i' := i) (og' := 0) (oi' := 0) (tg' := g + 2) (ti' := i) ⟨rfl, rfl, rfl, rfl, rfl, rfl, ?_, rfl, ?_, ?_, ?_, ?_, HG.out.star2 HT.out.1 HT.out.2⟩ (Pm.far_two (by omega) (by have := HG.out.tl; omega) (by have := HT.out.2; rw [bs_length] at this; omega))⟩
      · rfl
      · exact (((hB.setCell (Nat.le_refl _) _).setCell (Nat.le_refl _) _).setCell (Nat.le_succ _) _).setCell (Nat.le_succ _) _
      · simp only [World.size_setCell]; exact hsz
      · exact PlB.other (PlB.other (PlB.set1 (PlB.set0 Ho.out 0 0 rfl) 0 0 rfl) (by omega) _ _) (by omega) _ _
      · exact PlB.set1 (PlB.set0 (PlB.other (PlB.other Ht.out (by omega) _ _) (by omega) _ _) _ (g + 2) (by omega)) _ i rfl
    rw [Bool.not_eq_true] at h2
    rw [h2]
    have H2 : Hid _ := h2
    clear h2
    go_wp2_with fail
    refine (HasPrefix_any rest ⟨#[42]⟩ _).mono ?_
    rintro e w1 ⟨rfl, rfl⟩
    rw [HR.out, show bs ⟨#[42]⟩ = [42] from rfl]
    by_cases h1 : [42].isPrefixOf ((bs p).drop g) = true
    · rw [h1]
      have HT : Hid _ := Pm.pre_one H2.out h1
      clear h1
      go_wp2
      go_step3
      refine ⟨rfl, GJ.go HM.out (g' := g + 1) (i' := i) (og' := g + 1) (oi' := i) (tg' := tg) (ti' := ti) ⟨rfl, rfl, rfl, rfl, rfl, rfl, rfl, rfl, ?_, ?_, ?_, ?_, HG.out.star1 HT.out.1 HT.out.2⟩ (Pm.far_one (by omega) (by have := HG.out.ol; omega) (by have := HT.out.2; rw [bs_length] at this; omega))⟩
      · exact (hB.setCell (Nat.le_refl _) _).setCell (Nat.le_refl _) _
      · simp only [World.size_setCell]; exact hsz
      · exact PlB.set1 (PlB.set0 Ho.out _ (g + 1) (by omega)) _ i rfl
      · exact PlB.other (PlB.other Ht.out (by omega) _ _) (by omega) _ _
    rw [Bool.not_eq_true] at h1
    rw [h1]
    have H1 : Hid _ := h1
    clear h1
    by_cases hi : i = s.size
    · have i2 : ((i : Int) == (s.size : Int)) = true := by rw [hi]; simp
      have HF : Hid (Pm.glob (bs p) (bs s) = rest.toList.isEmpty) := by
        refine Pm.glob_iff ?_
        rw [ByteArray.toList_eq, show rest.data.toList = _ from HR.out, HG.out.fin (by rw [bs_length]; exact hi), Pm.at_end H1.out (by rw [bs_length]; exact hi), List.isEmpty_iff, List.drop_eq_nil_iff]
      clear hi
      go_wp2
      simp only [Exit.jump]
      go_ret
      exact ⟨by rw [HF.out]; rfl, hB⟩
    have i2 : ((i : Int) == (s.size : Int)) = false := by simp; omega
    have hlt : i < s.size := by omega
    have hltI : (i : Int) < (s.size : Int) := by omega
    have hrs : rest.size = p.size - g := by rw [← bs_length, HR.out, List.length_drop, bs_length]
    by_cases hgp : g < p.size
    · have hr0 : 0 < rest.size := by omega
      have hr0I : (0 : Int) < (rest.size : Int) := by omega
      have q1 : (rest.toList != []) = true := by
        rw [ByteArray.toList_eq, show rest.data.toList = _ from HR.out, bne_iff_ne, ne_eq, List.drop_eq_nil_iff, bs_length]; omega
      have q2 : rest.toList.isEmpty = false := by
        rw [ByteArray.toList_eq, show rest.data.toList = _ from HR.out, ← Bool.not_eq_true, List.isEmpty_iff, List.drop_eq_nil_iff, bs_length]; omega
      clear hrs
      have HC : Hid (rest[0] = (bs p)[g]'(by rw [bs_length]; exact hgp)) := by
        show _ = _
        have h1 : (bs rest)[0]'(by rw [bs_length]; exact hr0) = (bs p)[g]'(by rw [bs_length]; exact hgp) := by
          simp only [HR.out, List.getElem_drop, Nat.add_zero]
        exact h1
      by_cases hf : Pm.fitB (rest[0]) (s[i]) = true
      · have hft := fits_any rest[0] s[i]
        have HI := HG.out.byte' H1.out (by rw [bs_length]; exact hgp) (by rw [bs_length]; exact hlt) (by rw [← HC.out]; exact hf)
        rw [hf] at hft
        go_wp2_with fail
        go_quiet ((go_at_call 38; refine Calls.quiet_of_same (hft _)))
        go_wp2
        go_step3
        refine ⟨rfl, GJ.go HM.out (g' := g + 1) (i' := i + 1) (og' := og) (oi' := oi) (tg' := tg) (ti' := ti) ⟨rfl, rfl, rfl, rfl, rfl, rfl, rfl, rfl, below_drewN hB _, ?_, Ho.out, Ht.out, HI⟩ (Pm.far_i (by omega) (by omega))⟩
        exact hsz
      · rw [Bool.not_eq_true] at hf
        have hft := fits_any rest[0] s[i]
        have HN : Hid _ := Pm.no_byte (p := bs p) (s := bs s) H1.out (by rw [bs_length]; exact hgp) (by rw [bs_length]; exact hlt) (by rw [← HC.out]; exact hf)
        rw [hf] at hft
        go_wp2_with fail
        go_quiet ((go_at_call 38; refine Calls.quiet_of_same (hft _)))
        clear hft hf
        have hs1 := HG.out.oiL
        have hs2 := HG.out.tiL
        by_cases ho0 : og = 0
        · subst ho0
          by_cases ht0 : tg = 0
          · subst ht0
            have HD : Hid (Pm.glob (bs p) (bs s) = false) := Pm.glob_iff ⟨fun h => (by cases h), fun h => absurd h (HG.out.dead rfl HN.out (by rw [bs_length]; exact hlt) (fun h => absurd rfl h))⟩
            go_wp2
            simp only [Exit.jump]
            go_ret
            exact ⟨by rw [HD.out]; rfl, below_drewN hB _⟩
          · have k1 : ((tg : Int) == 0) = false := by simp; omega
            have hti := hs2 ht0
            have HI := HG.out.on2 ht0 rfl HN.out (by rw [bs_length]; exact hlt)
            go_wp2_with fail
            go_quiet (fail)
            go_wp2
            go_step3
            refine ⟨rfl, GJ.go HM.out (g' := tg) (i' := ti + 1) (og' := 0) (oi' := 0) (tg' := tg) (ti' := ti + 1) ⟨rfl, rfl, rfl, rfl, rfl, rfl, rfl, rfl, ?_, ?_, ?_, ?_, HI⟩ (Pm.far_ti (by omega) (by omega) (by omega))⟩
            · exact below_drewN ((((below_drewN hB _).setCell (Nat.le_succ _) _).setCell (Nat.le_refl _) _).setCell (Nat.le_refl _) _) _
            · simp only [World.heap_drewN, World.size_setCell]; exact hsz
            · exact PlB.set1 (PlB.set0 (PlB.other Ho.out (by omega) _ _) 0 0 rfl) 0 0 rfl
            · exact PlB.other (PlB.other (PlB.set1 Ht.out _ (ti + 1) (by omega)) (by omega) _ _) (by omega) _ _
        · have j1 : (0 : Int) < (og : Int) := by omega
          have hoi := hs1 ho0
          have j2 : (oi : Int) < (s.size : Int) := by omega
          by_cases h47 : s[oi] = 47
          · have q5 : ((s[oi].toNat : Int) != 47) = false := by rw [h47]; rfl
            by_cases ht0 : tg = 0
            · subst ht0
              have HD : Hid (Pm.glob (bs p) (bs s) = false) := Pm.glob_iff ⟨fun h => (by cases h), fun h => absurd h (HG.out.dead rfl HN.out (by rw [bs_length]; exact hlt) (fun _ => h47))⟩
              clear h47
              go_wp2
              simp only [Exit.jump]
              go_ret
              exact ⟨by rw [HD.out]; rfl, below_drewN hB _⟩
            · have k1 : ((tg : Int) == 0) = false := by simp; omega
              have hti := hs2 ht0
              have hto := HG.out.tt ht0 ho0
              have hb : bs (s.extract ti s.size) = (bs s).drop ti := by rw [bs_extract, List.take_of_length_le (by rw [List.length_drop, bs_length]; exact Nat.le_refl _)]
              have hIx := IndexByte_any (s.extract ti s.size) 47
              rw [hb] at hIx
              obtain ⟨k, hk1, hk2, hk3⟩ : ∃ k : Nat, Lib.indexByte ((bs s).drop ti) 47 = k ∧ ti + k + 1 ≤ s.size ∧ Pm.cnt (bs s) ti (ti + k) = 0 := by
                rcases indexByte_cases ((bs s).drop ti) 47 with ⟨-, h2⟩ | ⟨k, h1, h2, -, h3⟩
                · exfalso
                  apply h2
                  rw [List.mem_iff_getElem]
                  refine ⟨oi - ti, by rw [List.length_drop, bs_length]; omega, ?_⟩
                  rw [List.getElem_drop]
                  have e : ti + (oi - ti) = oi := by omega
                  simp only [e]
                  exact h47
                · rw [List.length_drop, bs_length] at h2
                  refine ⟨k, h1, by omega, ?_⟩
                  unfold Pm.cnt
                  rw [show ti + k - ti = k by omega]
                  exact List.count_eq_zero.2 h3
              have HI := HG.out.skip ht0 ho0 HN.out (by rw [bs_length]; exact hlt) h47 (k := k) (by rw [bs_length]; exact hk2) hk3
              have hIy : ∀ W, Calls Try.prog 39 #[.string (s.extract ti s.size), .int .u8 47] W fun e w' => e = .returned (.int .i64 (k : Int)) ∧ w' = W := fun W => by
                have := hIx W
                rwa [show Lib.indexByte ((bs s).drop ti) (Int.toNat 47).toUInt8 = (k : Int) from hk1] at this
              have l1 : (ti : Int) ≤ (s.size : Int) := by omega
              clear hIx hk1 hk3 hb h47
              go_wp2_with fail
              go_region_with (go_at_call 39; refine (hIy _).mono ?_; rintro e w' ⟨rfl, rfl⟩)
              all_goals go_wp2_with fail
              all_goals go_quiet (fail)
              all_goals go_wp2
              all_goals go_step3
              all_goals refine ⟨rfl, GJ.go HM.out (g' := tg) (i' := ti + k + 1) (og' := 0) (oi' := 0) (tg' := tg) (ti' := ti + k + 1) ⟨rfl, rfl, rfl, rfl, rfl, rfl, rfl, ?_, ?_, ?_, ?_, ?_, HI⟩ (Pm.far_ti (by omega) (by omega) (by omega))⟩
              all_goals first
                | exact below_drewN ((((below_drewN hB _).setCell (Nat.le_succ _) _).setCell (Nat.le_refl _) _).setCell (Nat.le_refl _) _) _
                | (simp only [World.heap_drewN, World.size_setCell]; exact hsz)
                | exact PlB.set1 (PlB.set0 (PlB.other Ho.out (by omega) _ _) 0 0 rfl) 0 0 rfl
                | exact PlB.other (PlB.other (PlB.set1 Ht.out _ (ti + k + 1) (by omega)) (by omega) _ _) (by omega) _ _
                | (show Value.int .i64 ((ti : Int) + ((k : Int) + 1)) = _; congr 1)
          · have q5 : ((s[oi].toNat : Int) != 47) = true := by
              rw [bne_iff_ne, ne_eq]
              intro h
              exact h47 (UInt8.toNat_inj.1 (by exact_mod_cast h))
            have HI := HG.out.on1 ho0 HN.out (by rw [bs_length]; exact hlt) h47
            clear h47
            go_wp2_with fail
            go_quiet (fail)
            go_wp2
            go_step3
            refine ⟨rfl, GJ.go HM.out (g' := og) (i' := oi + 1) (og' := og) (oi' := oi + 1) (tg' := tg) (ti' := ti) ⟨rfl, rfl, rfl, rfl, rfl, rfl, rfl, rfl, ?_, ?_, ?_, ?_, HI⟩ (Pm.far_oi (by omega) (by omega) (by omega))⟩
            · exact below_drewN ((below_drewN hB _).setCell (Nat.le_refl _) _) _
            · simp only [World.heap_drewN, World.size_setCell]; exact hsz
            · exact PlB.set1 Ho.out _ (oi + 1) (by omega)
            · exact PlB.other Ht.out (by omega) _ _
    · have q1 : (rest.toList != []) = false := by
        rw [ByteArray.toList_eq, show rest.data.toList = _ from HR.out, bne_eq_false_iff_eq, List.drop_eq_nil_iff, bs_length]; omega
      have q2 : rest.toList.isEmpty = true := by
        rw [ByteArray.toList_eq, show rest.data.toList = _ from HR.out, List.isEmpty_iff, List.drop_eq_nil_iff, bs_length]; omega
      have HN : Hid _ := Pm.no_end (p := bs p) (s := bs s) (g := g) (i := i) (by rw [bs_length]; omega) (by rw [bs_length]; exact hlt)
      clear hrs
      go_wp2_with fail
      go_quiet (fail)
      have hs1 := HG.out.oiL
      have hs2 := HG.out.tiL
      by_cases ho0 : og = 0
      · subst ho0
        by_cases ht0 : tg = 0
        · subst ht0
          have HD : Hid (Pm.glob (bs p) (bs s) = false) := Pm.glob_iff ⟨fun h => (by cases h), fun h => absurd h (HG.out.dead rfl HN.out (by rw [bs_length]; exact hlt) (fun h => absurd rfl h))⟩
          go_wp2
          simp only [Exit.jump]
          go_ret
          exact ⟨by rw [HD.out]; rfl, below_drewN hB _⟩
        · have k1 : ((tg : Int) == 0) = false := by simp; omega
          have hti := hs2 ht0
          have HI := HG.out.on2 ht0 rfl HN.out (by rw [bs_length]; exact hlt)
          go_wp2_with fail
          go_quiet (fail)
          go_wp2
          go_step3
          refine ⟨rfl, GJ.go HM.out (g' := tg) (i' := ti + 1) (og' := 0) (oi' := 0) (tg' := tg) (ti' := ti + 1) ⟨rfl, rfl, rfl, rfl, rfl, rfl, rfl, rfl, ?_, ?_, ?_, ?_, HI⟩ (Pm.far_ti (by omega) (by omega) (by omega))⟩
          · exact below_drewN ((((below_drewN hB _).setCell (Nat.le_succ _) _).setCell (Nat.le_refl _) _).setCell (Nat.le_refl _) _) _
          · simp only [World.heap_drewN, World.size_setCell]; exact hsz
          · exact PlB.set1 (PlB.set0 (PlB.other Ho.out (by omega) _ _) 0 0 rfl) 0 0 rfl
          · exact PlB.other (PlB.other (PlB.set1 Ht.out _ (ti + 1) (by omega)) (by omega) _ _) (by omega) _ _
      · have j1 : (0 : Int) < (og : Int) := by omega
        have hoi := hs1 ho0
        have j2 : (oi : Int) < (s.size : Int) := by omega
        by_cases h47 : s[oi] = 47
        · have q5 : ((s[oi].toNat : Int) != 47) = false := by rw [h47]; rfl
          by_cases ht0 : tg = 0
          · subst ht0
            have HD : Hid (Pm.glob (bs p) (bs s) = false) := Pm.glob_iff ⟨fun h => (by cases h), fun h => absurd h (HG.out.dead rfl HN.out (by rw [bs_length]; exact hlt) (fun _ => h47))⟩
            clear h47
            go_wp2
            simp only [Exit.jump]
            go_ret
            exact ⟨by rw [HD.out]; rfl, below_drewN hB _⟩
          · have k1 : ((tg : Int) == 0) = false := by simp; omega
            have hti := hs2 ht0
            have hto := HG.out.tt ht0 ho0
            have hb : bs (s.extract ti s.size) = (bs s).drop ti := by rw [bs_extract, List.take_of_length_le (by rw [List.length_drop, bs_length]; exact Nat.le_refl _)]
            have hIx := IndexByte_any (s.extract ti s.size) 47
            rw [hb] at hIx
            obtain ⟨k, hk1, hk2, hk3⟩ : ∃ k : Nat, Lib.indexByte ((bs s).drop ti) 47 = k ∧ ti + k + 1 ≤ s.size ∧ Pm.cnt (bs s) ti (ti + k) = 0 := by
              rcases indexByte_cases ((bs s).drop ti) 47 with ⟨-, h2⟩ | ⟨k, h1, h2, -, h3⟩
              · exfalso
                apply h2
                rw [List.mem_iff_getElem]
                refine ⟨oi - ti, by rw [List.length_drop, bs_length]; omega, ?_⟩
                rw [List.getElem_drop]
                have e : ti + (oi - ti) = oi := by omega
                simp only [e]
                exact h47
              · rw [List.length_drop, bs_length] at h2
                refine ⟨k, h1, by omega, ?_⟩
                unfold Pm.cnt
                rw [show ti + k - ti = k by omega]
                exact List.count_eq_zero.2 h3
            have HI := HG.out.skip ht0 ho0 HN.out (by rw [bs_length]; exact hlt) h47 (k := k) (by rw [bs_length]; exact hk2) hk3
            have hIy : ∀ W, Calls Try.prog 39 #[.string (s.extract ti s.size), .int .u8 47] W fun e w' => e = .returned (.int .i64 (k : Int)) ∧ w' = W := fun W => by
              have := hIx W
              rwa [show Lib.indexByte ((bs s).drop ti) (Int.toNat 47).toUInt8 = (k : Int) from hk1] at this
            have l1 : (ti : Int) ≤ (s.size : Int) := by omega
            clear hIx hk1 hk3 hb h47
            go_wp2_with fail
            go_region_with (go_at_call 39; refine (hIy _).mono ?_; rintro e w' ⟨rfl, rfl⟩)
            all_goals go_wp2_with fail
            all_goals go_quiet (fail)
            all_goals go_wp2
            all_goals go_step3
            all_goals refine ⟨rfl, GJ.go HM.out (g' := tg) (i' := ti + k + 1) (og' := 0) (oi' := 0) (tg' := tg) (ti' := ti + k + 1) ⟨rfl, rfl, rfl, rfl, rfl, rfl, rfl, ?_, ?_, ?_, ?_, ?_, HI⟩ (Pm.far_ti (by omega) (by omega) (by omega))⟩
            all_goals first
              | exact below_drewN ((((below_drewN hB _).setCell (Nat.le_succ _) _).setCell (Nat.le_refl _) _).setCell (Nat.le_refl _) _) _
              | (simp only [World.heap_drewN, World.size_setCell]; exact hsz)
              | exact PlB.set1 (PlB.set0 (PlB.other Ho.out (by omega) _ _) 0 0 rfl) 0 0 rfl
              | exact PlB.other (PlB.other (PlB.set1 Ht.out _ (ti + k + 1) (by omega)) (by omega) _ _) (by omega) _ _
              | (show Value.int .i64 ((ti : Int) + ((k : Int) + 1)) = _; congr 1)
        · have q5 : ((s[oi].toNat : Int) != 47) = true := by
            rw [bne_iff_ne, ne_eq]
            intro h
            exact h47 (UInt8.toNat_inj.1 (by exact_mod_cast h))
          have HI := HG.out.on1 ho0 HN.out (by rw [bs_length]; exact hlt) h47
          clear h47
          go_wp2_with fail
          go_quiet (fail)
          go_wp2
          go_step3
          refine ⟨rfl, GJ.go HM.out (g' := og) (i' := oi + 1) (og' := og) (oi' := oi + 1) (tg' := tg) (ti' := ti) ⟨rfl, rfl, rfl, rfl, rfl, rfl, rfl, rfl, ?_, ?_, ?_, ?_, HI⟩ (Pm.far_oi (by omega) (by omega) (by omega))⟩
          · exact below_drewN ((below_drewN hB _).setCell (Nat.le_refl _) _) _
          · simp only [World.heap_drewN, World.size_setCell]; exact hsz
          · exact PlB.set1 Ho.out _ (oi + 1) (by omega)
          · exact PlB.other Ht.out (by omega) _ _
  · intro H
    go_wp2
    go_step3
    rename_i Q K hK
    refine hK _ _ (H _ _ ⟨0, 0, 0, 0, 0, 0, ⟨rfl, rfl, rfl, rfl, rfl, rfl, rfl, rfl, ?_, ?_, ?_, ?_, Pm.GI.zero _ _⟩⟩)
    · exact ((Below.refl _ _).alloc (Nat.le_refl _) _).alloc (by simp) _
    · simp
    · exact (heap_alloc_old (w.alloc _) _ (by simp)).trans (heap_alloc_new w _)
    · have h := heap_alloc_new (w.alloc (.cells #[.int .i64 0, .int .i64 0] 53)) (.cells #[.int .i64 0, .int .i64 0] 53)
      simp only [World.size_alloc] at h
      exact h
end Go.Proofs.Ytnfdjgpephoomaa
