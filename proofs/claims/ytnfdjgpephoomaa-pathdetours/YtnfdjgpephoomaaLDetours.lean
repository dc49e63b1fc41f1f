/-
  THE WALK OF PathDetours.
-/
import Derived.Test.YtnfdjgpephoomaaLNorms
import Derived.Test.YtnfdjgpephoomaaRGlobT
import Derived.Test.YtnfdjgpephoomaaIntsL
import Derived.Deep.CutBlock
import Derived.Deep.RegionHeld3
namespace Go.Proofs.Ytnfdjgpephoomaa
open Go.RowKit

/-- a place behind which a detour may stand -/
def Place (s : ByteArray) (z : Int) : Prop := ∃ k : Nat, z = (k : Int) ∧ k ≤ s.size ∧ ((bs s).take k = [] ∨ ∃ a, (bs s).take k = a ++ [47])
theorem Place.zero (s : ByteArray) : Place s 0 := ⟨0, rfl, Nat.zero_le _, .inl rfl⟩
theorem Place.slash {s : ByteArray} {k : Nat} (hk : k < s.size) (h : s[k] = 47) : Place s ((k : Int) + 1) := by
  refine ⟨k + 1, by omega, by omega, .inr ⟨(bs s).take k, ?_⟩⟩
  rw [List.take_succ_eq_append_getElem (by rw [bs_length]; exact hk)]
  congr 2

/-- what may be put in behind a place -/
def Way (m : ByteArray) : Prop := m.size ≤ 70 ∧ ∀ a b : Pm.B, (a = [] ∨ ∃ a', a = a' ++ [47]) → Pm.norm (a ++ bs m ++ b) = Pm.norm (a ++ b)
theorem way_1 : Way ⟨#[47]⟩ := ⟨by decide, fun a b ha => Pm.norm_detour a b _ [[]] ha ⟨[], rfl, rfl⟩ Pm.way_none⟩
theorem way_2 : Way ⟨#[46, 47]⟩ := ⟨by decide, fun a b ha => Pm.norm_detour a b _ [[46]] ha ⟨[46], rfl, rfl⟩ Pm.way_dot⟩
theorem way_3 {g : ByteArray} (hg : g.size ≤ 64) (h1 : Pm.isP (bs g) = true) (h2 : (Pm.cut (bs g)).length = 1) : Way (g ++ ⟨#[47, 46, 46, 47]⟩) := by
  have hc : Pm.cut (bs g) = [bs g] := by
    cases he : Pm.cut (bs g) with
    | nil => rw [he] at h2; simp at h2
    | cons x r =>
      rw [he] at h2
      have hr : r = [] := List.eq_nil_of_length_eq_zero (by simp only [List.length_cons] at h2; omega)
      subst hr
      have hj := Pm.join_cut (bs g)
      rw [he] at hj
      simp only [Pm.join] at hj
      rw [hj]
  have hs : Pm.seg (bs g) = true := (Pm.isP_parts h1).2 _ (by rw [hc]; simp)
  refine ⟨by rw [ByteArray.size_append]; show g.size + 4 ≤ 70; omega, fun a b ha => Pm.norm_detour a b _ [bs g, [46, 46]] ha ⟨bs g ++ [47, 46, 46], ?_, ?_⟩ (Pm.way_seg hs)⟩
  · rw [bs_append, List.append_assoc]; rfl
  · rw [Pm.cut_slash, hc]; rfl

set_option maxRecDepth 100000 in
set_option maxHeartbeats 4000000 in
theorem detours_walk (s g : ByteArray) (at' how : Int) (w : World) :
    Calls Try.prog 7 #[.string s, .agg #[.int .i64 at', .int .i64 how, .string g]] w fun e w' => e = .returned (.bool true) ∧ Below w.heap.size w w' := by
  go_enter Try.func7, Try.ntmps7
  go_wp2_with fail
  refine (works_true _).mono ?_
  rintro e w1 ⟨rfl, hB1⟩
  have hsz : (w.alloc (.cells #[.int .i64 at', .int .i64 how, .string g] 40)).heap.size = w.heap.size + 1 := Array.size_push ..
  rw [hsz] at hB1
  have hBw : Below w.heap.size w w1 := ((Below.refl _ _).alloc (Nat.le_refl _) _).trans (hB1.mono (by omega))
  have hbk := (hB1.block w.heap.size (by omega)).trans (heap_alloc_new w _)
  have k0 := cell_of_row w1 w.heap.size 0 _ 40 (0, 0) hbk
  have k1 := cell_of_row w1 w.heap.size 1 _ 40 (0, 0) hbk
  have k2 := cell_of_row w1 w.heap.size 2 _ 40 (0, 0) hbk
  simp only [List.getElem?_toArray, List.getElem?_cons_zero, List.getElem?_cons_succ] at k0 k1 k2
  clear hbk hB1 hsz
  go_wp2_with fail
  go_quiet (fail)
  clear k0 k1 k2
  have hB2 : Below w.heap.size w (w1.drewN nq) := below_drewN hBw _
  generalize w1.drewN nq = w2 at *
  clear hBw
  go_wp2_with fail
  refine (long_any _ _).mono ?_
  rintro e w3 ⟨rfl, rfl⟩
  by_cases hl : (1048576 : Int) < (s.size : Int)
  · rw [decide_eq_true hl]
    go_wp2
    go_ret
    exact ⟨rfl, hB2⟩
  rw [decide_eq_false hl]
  by_cases hgl : (64 : Int) < (g.size : Int)
  · go_wp2
    go_ret
    exact ⟨rfl, hB2⟩
  have HLt := ints_lit1 w3 0
  have hOa := OwnN.alloc (OwnN.nil w3 w.heap.size) (.cells #[.int .i64 0] 3)
  have hBa := hB2.alloc hB2.size (.cells #[.int .i64 0] 3)
  go_wp2_with (at_builtin; go_must (refine wpList_append_ints rfl _ _ rfl w.heap.size (w3.heap.size + 1) _ _ [] [0] rfl hOa rfl HLt (show Hid (([] : List Int).length + [(0 : Int)].length ≤ 1099511627) by show _ ≤ _; decide) hBa.size ?_))
  intro v4 w4 hO4 hg4
  have hB4 := hBa.grown hg4 hBa.size fun g e => (World.ownsRow.lt hOa g e).1
  clear HLt hOa hBa hg4 hB2
  go_wp2
  go_loopw [8, 9] (fun v i wr => ∃ (k : Nat) (P : List Int), k ≤ s.size ∧ i = .int .i64 (k : Int) ∧ OwnN wr w.heap.size v P ∧ (∀ z ∈ P, Place s z) ∧ P ≠ [] ∧ P.length ≤ k + 1 ∧ Below w.heap.size w wr) (fun _ i _ => s.size - (intOf i).toNat)
  case atStart => exact ⟨0, [0], Nat.zero_le _, rfl, hO4, fun z hz => by simp at hz; subst hz; exact Place.zero s, by simp, by simp, hB4⟩
  case round =>
    obtain ⟨k, P, hk, rfl, hO, hP, hPn, hPl, hBe⟩ := hrel
    have HP : Hid _ := hP
    clear hP
    by_cases hlt : k < s.size
    · have i1 : (k : Int) < (s.size : Int) := by omega
      have q0 : ((s[k].toNat : Int) == 47) = decide (s[k] = 47) := beq_lit _ 47
      by_cases hc : s[k] = 47
      · rw [decide_eq_true hc] at q0
        have HPl : Hid _ := Place.slash hlt hc
        clear hc
        obtain ⟨vd, vc, rfl, -⟩ := hO.ints
        have HLt := ints_lit1 wr ((k : Int) + 1)
        have hOa := OwnN.alloc hO (.cells #[.int .i64 ((k : Int) + 1)] 3)
        have hBa := hBe.alloc hBe.size (.cells #[.int .i64 ((k : Int) + 1)] 3)
        have Hx : Hid (P.length + [(k : Int) + 1].length ≤ 1099511627) := by show _ ≤ _; simp only [List.length_cons, List.length_nil]; omega
        go_wp2_with (at_builtin; go_must (refine wpList_append_ints rfl _ _ rfl w.heap.size (wr.heap.size + 1) _ _ P [(k : Int) + 1] rfl hOa rfl HLt Hx hBa.size ?_))
        intro v' w' g1 g2
        have hB1 := hBa.grown g2 hBa.size fun g e => (World.ownsRow.lt hOa g e).1
        clear HLt hOa hBa hO hBe g2
        go_wp2
        refine ⟨⟨k + 1, _, by omega, by go_num, g1, fun z hz => ?_, by simp, by simp; omega, hB1⟩, by simp [intOf]; omega⟩
        rcases List.mem_append.1 hz with h | h
        · exact HP.out z h
        · simp at h; subst h; exact HPl.out
      · rw [decide_eq_false hc] at q0
        clear hc
        go_wp2
        exact ⟨⟨k + 1, P, by omega, by go_num, hO, HP.out, hPn, by omega, hBe⟩, by simp [intOf]; omega⟩
    · obtain rfl : k = s.size := by omega
      have i1 : ¬ (s.size : Int) < (s.size : Int) := by omega
      obtain ⟨ad, c, rfl, hc, hn, hi⟩ := hO.ints
      obtain ⟨b, o, rfl, hbl, hcs⟩ := hi hPn
      have hP1 : 1 ≤ P.length := by cases P with | nil => exact absurd rfl hPn | cons => simp
      have HCS : Hid _ := hcs
      clear hcs hi hn
      obtain ⟨r, hr⟩ : ∃ r, at'.tmod (P.length : Int) = r := ⟨_, rfl⟩
      have hr1 : -(P.length : Int) < r ∧ r < (P.length : Int) := by
        rw [← hr]
        have h1 := Int.tmod_lt_of_pos at' (b := (P.length : Int)) (by omega)
        have h2 := Int.lt_tmod_of_pos at' (b := (P.length : Int)) (by omega)
        exact ⟨h2, h1⟩
      have hP0 : ((P.length : Int) == 0) = false := by simp; omega
      go_upto_if 57 with fail
      go_cut [10] (fun t wx => ∃ kk : Nat, kk < P.length ∧ t = .int .i64 (kk : Int) ∧ wr = wx)
      case first =>
        by_cases h0 : r < 0
        · go_wp2
          go_meet
          exact ⟨(r + P.length).toNat, by omega, by go_num, rfl⟩
        · go_wp2
          go_meet
          exact ⟨r.toNat, by omega, by go_num, rfl⟩
      case rest =>
        obtain ⟨kk, hkk, rfl, rfl⟩ := hcut
        obtain ⟨h3, hh3⟩ : ∃ h3, how.tmod 3 = h3 := ⟨_, rfl⟩
        go_upto_block 2 with fail
        clear hh3
        go_cut [11] (fun t wx => ∃ m : ByteArray, t = .string m ∧ Way m ∧ Below wr.heap.size wr wx)
        case first =>
          by_cases e1 : h3 = 1
          · have t1 : (h3 == 1) = true := by simp [e1]
            clear e1
            go_wp2
            go_meet
            exact ⟨_, rfl, way_2, Below.refl _ _⟩
          have t1 : (h3 == 1) = false := by simp [e1]
          by_cases e2 : h3 = -1
          · have t2 : (h3 == -1) = true := by simp [e2]
            clear e1 e2
            go_wp2
            go_meet
            exact ⟨_, rfl, way_2, Below.refl _ _⟩
          have t2 : (h3 == -1) = false := by simp [e2]
          by_cases e3 : h3 = 2
          · have t3 : (h3 == 2) = true := by simp [e3]
            clear e1 e2 e3
            go_wp2_with fail
            refine (Is_any g _ (by omega)).mono ?_
            rintro e w5 ⟨rfl, hB5⟩
            by_cases hg : Pm.isP (bs g) = true
            · rw [hg]
              go_wp2_with fail
              refine (Cut_any g _ (by omega)).mono ?_
              rintro e w6 ⟨v6, L, rfl, hO6, hL, hB6⟩
              obtain ⟨ad6, c6, rfl, -⟩ := hO6.strs
              have hB7 := hB5.trans (hB6.mono hB5.size)
              by_cases hL1 : L.length = 1
              · have q1 : ((L.length : Int) != 1) = false := by rw [hL1]; rfl
                have HW : Hid (Way (g ++ ⟨#[47, 46, 46, 47]⟩)) := way_3 (by omega) hg (by rw [← hL, List.length_map]; exact hL1)
                clear hg hL hO6 hL1
                go_wp2
                go_meet
                exact ⟨_, rfl, HW.out, hB7⟩
              · have q1 : ((L.length : Int) != 1) = true := by simp; omega
                clear hg hL hO6
                go_wp2
                go_ret
                exact ⟨rfl, hBe.trans (hB7.mono hBe.size)⟩
            · rw [Bool.not_eq_true] at hg
              rw [hg]
              clear hg
              go_wp2
              go_ret
              exact ⟨rfl, hBe.trans (hB5.mono hBe.size)⟩
          have t3 : (h3 == 2) = false := by simp [e3]
          by_cases e4 : h3 = -2
          · have t4 : (h3 == -2) = true := by simp [e4]
            clear e1 e2 e3 e4
            go_wp2_with fail
            refine (Is_any g _ (by omega)).mono ?_
            rintro e w5 ⟨rfl, hB5⟩
            by_cases hg : Pm.isP (bs g) = true
            · rw [hg]
              go_wp2_with fail
              refine (Cut_any g _ (by omega)).mono ?_
              rintro e w6 ⟨v6, L, rfl, hO6, hL, hB6⟩
              obtain ⟨ad6, c6, rfl, -⟩ := hO6.strs
              have hB7 := hB5.trans (hB6.mono hB5.size)
              by_cases hL1 : L.length = 1
              · have q1 : ((L.length : Int) != 1) = false := by rw [hL1]; rfl
                have HW : Hid (Way (g ++ ⟨#[47, 46, 46, 47]⟩)) := way_3 (by omega) hg (by rw [← hL, List.length_map]; exact hL1)
                clear hg hL hO6 hL1
                go_wp2
                go_meet
                exact ⟨_, rfl, HW.out, hB7⟩
              · have q1 : ((L.length : Int) != 1) = true := by simp; omega
                clear hg hL hO6
                go_wp2
                go_ret
                exact ⟨rfl, hBe.trans (hB7.mono hBe.size)⟩
            · rw [Bool.not_eq_true] at hg
              rw [hg]
              clear hg
              go_wp2
              go_ret
              exact ⟨rfl, hBe.trans (hB5.mono hBe.size)⟩
          have t4 : (h3 == -2) = false := by simp [e4]
          clear e1 e2 e3 e4
          go_wp2
          go_meet
          exact ⟨_, rfl, way_1, Below.refl _ _⟩
        case rest =>
          obtain ⟨m, rfl, ⟨hm1, hm2⟩, hBm⟩ := hcut
          have hB5 := hBe.trans (hBm.mono hBe.size)
          obtain ⟨pl, hpl, hpls, hpp⟩ := HP.out (P.getD kk 0) (by simp [List.getD, List.getElem?_eq_getElem hkk])
          have c0 := HCS.out kk hkk
          rw [hpl] at c0
          have HW : Hid _ := hm2 _ ((bs s).drop pl) hpp
          clear hm2 hpp hpl
          go_wp2_with fail
          refine (Norm_any s _ (by omega)).mono ?_
          rintro e w6 ⟨⟨t, rfl, ht⟩, hB6⟩
          have c6 : w6.cell? ⟨b, o + kk, none⟩ = some (.int .i64 (pl : Int)) := ((hB6.cell (p := ⟨b, o + kk, none⟩) (Nat.lt_of_lt_of_le hbl hBm.size)).trans (hBm.cell (p := ⟨b, o + kk, none⟩) hbl)).trans c0
          clear c0 hO
          rw [List.take_append_drop] at HW
          have HX : Hid (bs (s.extract 0 pl ++ m ++ s.extract pl s.size) = (bs s).take pl ++ bs m ++ (bs s).drop pl) := by
            show _ = _
            rw [bs_append, bs_append, bs_extract, bs_extract, List.take_of_length_le (l := List.drop pl (bs s)) (by rw [List.length_drop, bs_length]; exact Nat.le_refl _)]
            simp
          have j1 : (pl : Int) ≤ (s.size : Int) := by omega
          have j2 : (kk : Int) < (P.length : Int) := by omega
          have hB7 := hB5.trans (hB6.mono hB5.size)
          obtain ⟨n1, hn1⟩ : ∃ n1, (Pm.norm (bs s)).2 = n1 := ⟨_, rfl⟩
          rw [hn1]
          have HNc : Hid (∀ W : World, Calls Try.prog 21 #[.string (s.extract 0 pl ++ m ++ s.extract pl s.size)] W fun e w' => (∃ u, e = .returned (.tuple #[.string u, .int .i64 (n1 : Int)]) ∧ bs u = (Pm.norm (bs s)).1) ∧ Below W.heap.size W w') := fun W => by
            have hsz : (s.extract 0 pl ++ m ++ s.extract pl s.size).size ≤ 100000000 := by
              rw [ByteArray.size_append, ByteArray.size_append, ByteArray.size_extract, ByteArray.size_extract]
              omega
            have h := Norm_any (s.extract 0 pl ++ m ++ s.extract pl s.size) W hsz
            rw [HX.out, HW.out, hn1] at h
            exact h
          have hb6 : b < w6.heap.size := Nat.lt_of_lt_of_le hbl (Nat.le_trans hBm.size hB6.size)
          have HQ : Hid (Pm.norm (bs s) = (bs t, n1)) := by show _ = _; rw [ht, ← hn1]
          have Ht : Hid _ := ht
          clear hn1 HX HW ht
          have f1 : ¬ 9223372036854775807 < pl + m.size := by omega
          have f2 : ¬ 9223372036854775807 < pl + m.size + (s.size - pl) := by omega
          go_upto_region 27 with fail
          go_region_held3 (fun W : World => W.cell? ⟨b, o + kk, none⟩ = some (.int .i64 (pl : Int))) (first | exact c6 | exact c8)
            (first | (go_at_call 21; refine (HNc.out _).mono ?_; rintro e8 w8 ⟨⟨u, rfl, hu⟩, hB8⟩; have c8 : w8.cell? ⟨b, o + kk, none⟩ = some (.int .i64 (pl : Int)) := (hB8.cell (p := ⟨b, o + kk, none⟩) hb6).trans c6))
          have hB9 := hB7.trans (Below.mono (B' := w.heap.size) ((Below.refl w6.heap.size w6).drew.trans hB8) hB7.size)
          have b1 : (t.toList == u.toList) = true := beq_of_bs (Ht.out.trans hu.symm)
          have b2 : ((n1 : Int) == (n1 : Int)) = true := by simp
          clear hu
          by_cases hn0 : n1 = 0
          · subst hn0
            obtain ⟨p1, p2⟩ := Pm.norm_path HQ.out
            have hts : t.size ≤ 60 := by have := (Pm.isP_parts p1).1; rw [bs_length] at this; exact this
            have P1 : Hid _ := p1
            have P2 : Hid _ := p2
            clear p1 p2
            go_wp2_with fail
            refine (Norm_any t _ (by omega)).mono ?_
            rintro e w10 ⟨⟨x, rfl, hx⟩, hB10⟩
            rw [P2.out] at hx ⊢
            have b3 : (x.toList == t.toList) = true := beq_of_bs hx
            clear hx
            go_wp2_with fail
            refine (Is_any t _ (by omega)).mono ?_
            rintro e w11 ⟨rfl, hB11⟩
            rw [P1.out]
            have hB12 := (hB9.trans (hB10.mono hB9.size)).trans (hB11.mono (Nat.le_trans hB9.size hB10.size))
            go_wp2
            go_ret
            exact ⟨rfl, hB12⟩
          · have b4 : ((n1 : Int) == 0) = false := by simp; omega
            obtain ⟨e1, e2⟩ := Pm.told_no HQ.out hn0
            have b5 : (t.toList == []) = true := by rw [ByteArray.toList_eq]; exact beq_iff_eq.2 e1
            rcases e2 with rfl | rfl
            · go_wp2
              go_ret
              exact ⟨rfl, hB9⟩
            · go_wp2
              go_ret
              exact ⟨rfl, hB9⟩

end Go.Proofs.Ytnfdjgpephoomaa
