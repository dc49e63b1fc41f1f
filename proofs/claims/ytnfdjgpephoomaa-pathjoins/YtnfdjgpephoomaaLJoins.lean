/-
  THE WALK OF PathJoins.
-/
import Derived.Test.YtnfdjgpephoomaaLWorks
import Derived.Test.YtnfdjgpephoomaaPXP
namespace Go.Proofs.Ytnfdjgpephoomaa
open Go.RowKit

set_option maxRecDepth 100000 in
set_option maxHeartbeats 4000000 in
theorem joins_walk (p q : ByteArray) (w : World) (hp : p.size ≤ 9223372036854775807) (hq : q.size ≤ 9223372036854775807) : Calls Try.prog 8 #[.string p, .string q] w fun e w' => e = .returned (.bool true) ∧ Below w.heap.size w w' := by
  go_enter Try.func8, Try.ntmps8
  go_wp2_with fail
  refine (works_true _).mono ?_
  rintro e w1 ⟨rfl, hB1⟩
  go_wp2_with fail
  refine (Is_any p _ hp).mono ?_
  rintro e w2 ⟨rfl, hB2⟩
  have hC2 := hB1.trans (hB2.mono hB1.size)
  by_cases ip : Pm.isP (bs p) = false
  · rw [ip]
    go_wp2
    go_ret
    exact ⟨rfl, hC2⟩
  rw [Bool.not_eq_false] at ip
  rw [ip]
  go_wp2_with fail
  refine (Is_any q _ hq).mono ?_
  rintro e w3 ⟨rfl, hB3⟩
  have hC3 := hC2.trans (hB3.mono hC2.size)
  by_cases iq : Pm.isP (bs q) = false
  · rw [iq]
    go_wp2
    go_ret
    exact ⟨rfl, hC3⟩
  rw [Bool.not_eq_false] at iq
  rw [iq]
  have hp60 : p.size ≤ 60 := by have := (Pm.isP_parts ip).1; rw [bs_length] at this; exact this
  have hq60 : q.size ≤ 60 := by have := (Pm.isP_parts iq).1; rw [bs_length] at this; exact this
  have IP : Hid _ := ip
  have IQ : Hid _ := iq
  clear ip iq
  have f1 : ¬ 9223372036854775807 < p.size + 1 := by omega
  have f2 : ¬ 9223372036854775807 < p.size + 1 + q.size := by omega
  have hX : bs (p ++ ⟨#[47]⟩ ++ q) = bs p ++ 47 :: bs q := by rw [bs_append, bs_append, List.append_assoc]; rfl
  have hXs : (p ++ ⟨#[47]⟩ ++ q).size = p.size + 1 + q.size := by rw [ByteArray.size_append, ByteArray.size_append]; rfl
  have HN : Hid _ := Pm.norm_two IP.out IQ.out
  rw [← hX, bs_length, hXs] at HN
  have HU : Hid (Pm.norm (bs (p ++ ⟨#[47, 46, 46]⟩)) = if (Pm.parent (bs p)).2 = true then ((Pm.parent (bs p)).1, 0) else ([], 2)) := by
    show _ = _
    rw [bs_append]
    exact Pm.norm_up IP.out
  have f3 : ¬ 9223372036854775807 < p.size + 3 := by omega
  have z3 : (p ++ (⟨#[47, 46, 46]⟩ : ByteArray)).size = p.size + 3 := by rw [ByteArray.size_append]; rfl
  go_wp2_with fail
  refine (Norm_any _ _ (by omega)).mono ?_
  rintro e w4 ⟨⟨n, rfl, hn⟩, hB4⟩
  have hC4 := hC3.trans (hB4.mono hC3.size)
  obtain ⟨en, hen⟩ : ∃ en, (Pm.norm (bs (p ++ (⟨#[47]⟩ : ByteArray) ++ q))).2 = en := ⟨_, rfl⟩
  rw [hen]
  have HEN : Hid _ := hen
  clear hen
  go_upto_if 35 with fail
  go_cut [4] (fun t wx => t = .bool false ∧ Below w.heap.size w wx)
  case first =>
    by_cases hl : 60 < p.size + 1 + q.size
    · rw [if_pos hl] at HN
      have hen := HEN.out
      rw [HN.out] at hn hen
      subst hen
      have a1 : (n.toList == []) = true := by rw [ByteArray.toList_eq]; exact beq_iff_eq.2 hn
      have i1 : (60 : Int) < (p.size : Int) + 1 + (q.size : Int) := by omega
      clear hn hX hXs HN HEN
      go_wp2
      go_meet
      exact ⟨rfl, hC4⟩
    · rw [if_neg hl] at HN
      have hen := HEN.out
      rw [HN.out] at hn hen
      subst hen
      have i1 : ¬ (60 : Int) < (p.size : Int) + 1 + (q.size : Int) := by omega
      have a1 : (n.toList == (p ++ (⟨#[47]⟩ : ByteArray) ++ q).toList) = true := beq_of_bs hn
      have hI : Pm.isP (bs n) = true := by rw [hn]; exact (Pm.norm_path HN.out).1
      have hnl : n.size ≤ 60 := by have := (Pm.isP_parts hI).1; rw [bs_length] at this; exact this
      have hBq : Pm.base (bs n) = Pm.base (bs q) := by
        rw [hn, hX]
        refine Pm.base_two IQ.out ?_
        rw [← hX]; exact (congrArg (Pm.isP · = true) (show bs n = bs (p ++ (⟨#[47]⟩ : ByteArray) ++ q) from hn)).mp hI
      have HI : Hid _ := hI
      have HBQ : Hid _ := hBq
      clear hn hX HN hI hBq HEN
      go_wp2_with fail
      refine (Is_any n _ (by omega)).mono ?_
      rintro e w5 ⟨rfl, hB5⟩
      rw [HI.out]
      have hC5 := hC4.trans (hB5.mono hC4.size)
      go_wp2_with fail
      refine (Base_any n _ (by omega)).mono ?_
      rintro e w6 ⟨b1, rfl, hb1, hB6⟩
      have hC6 := hC5.trans (hB6.mono hC5.size)
      go_wp2_with fail
      refine (Base_any q _ (by omega)).mono ?_
      rintro e w7 ⟨b2, rfl, hb2, hB7⟩
      have hC7 := hC6.trans (hB7.mono hC6.size)
      have a2 : (b1.toList == b2.toList) = true := beq_of_bs (hb1.trans (HBQ.out.trans hb2.symm))
      clear hb1 hb2
      go_wp2
      go_meet
      exact ⟨rfl, hC7⟩
  case rest =>
    obtain ⟨rfl, hC4'⟩ := hcut
    clear HN hn hX hXs hC4 HEN
    go_wp2_with fail
    refine (Parent_any p _ (by omega)).mono ?_
    rintro e w5 ⟨⟨u, rfl, hu⟩, hB5⟩
    have hC5 := hC4'.trans (hB5.mono hC4'.size)
    go_wp2_with fail
    refine (Norm_any _ _ (by omega)).mono ?_
    rintro e w6 ⟨⟨bk, rfl, hbk⟩, hB6⟩
    have hC6 := hC5.trans (hB6.mono hC5.size)
    rw [HU.out] at hbk ⊢
    cases hpar : Pm.parent (bs p) with
    | mk up ok =>
      rw [hpar] at hu hbk
      cases ok with
      | false =>
        obtain ⟨e1, -, e3⟩ := Pm.parent_none IP.out hpar
        have b1 : (u.toList == []) = true := by rw [ByteArray.toList_eq]; exact beq_iff_eq.2 (hu.trans e1)
        have b2 : (bk.toList == []) = true := by rw [ByteArray.toList_eq]; exact beq_iff_eq.2 hbk
        clear hu hbk hpar HU
        go_wp2_with fail
        refine (Base_any p _ (by omega)).mono ?_
        rintro e w7 ⟨ba, rfl, hba, hB7⟩
        have b3 : (ba.toList == p.toList) = true := beq_of_bs (hba.trans e3)
        clear hba
        go_wp2
        go_ret
        exact ⟨rfl, hC6.trans (hB7.mono hC6.size)⟩
      | true =>
        obtain ⟨-, e2, e3⟩ := Pm.parent_base hpar
        have hu60 : u.size ≤ 60 := by have := (Pm.isP_parts e2).1; rw [show up = bs u from hu.symm, bs_length] at this; exact this
        have b2 : (bk.toList == u.toList) = true := beq_of_bs (hbk.trans hu.symm)
        have IU : Hid (Pm.isP (bs u) = true) := by show _ = _; rw [hu]; exact e2
        have HE : Hid (bs u ++ 47 :: Pm.base (bs p) = bs p) := by show _ = _; rw [hu]; exact e3
        clear hu hbk hpar e2 e3 HU
        go_wp2_with fail
        refine (Is_any u _ (by omega)).mono ?_
        rintro e w7 ⟨rfl, hB7⟩
        have hC7 := hC6.trans (hB7.mono hC6.size)
        rw [IU.out]
        go_wp2_with fail
        refine (Base_any p _ (by omega)).mono ?_
        rintro e w8 ⟨ba, rfl, hba, hB8⟩
        have hbl : (bs ba).length ≤ 60 := by
          have := congrArg List.length HE.out
          rw [← hba] at this
          simp only [List.length_append, List.length_cons, bs_length] at this ⊢
          omega
        rw [bs_length] at hbl
        have g1 : ¬ 9223372036854775807 < u.size + 1 := by omega
        have g2 : ¬ 9223372036854775807 < u.size + 1 + ba.size := by omega
        have b3 : ((u ++ (⟨#[47]⟩ : ByteArray) ++ ba).toList == p.toList) = true := beq_of_bs (by rw [bs_append, bs_append, hba, List.append_assoc]; exact HE.out)
        clear hba
        go_wp2
        go_ret
        exact ⟨rfl, hC7.trans (hB8.mono hC7.size)⟩

end Go.Proofs.Ytnfdjgpephoomaa
