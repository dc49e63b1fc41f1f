/-
  THE READER: comments, and words of bare bytes.
-/
import Derived.Test.YtfgdlnidfkjbdaaDoorZRd
namespace Go.Proofs.YtfgdlnidfkjbdaaDoor
open Go.RowKit

/-- where the reader of block p stands -/
def rdAt (w : World) (p : Nat) : Nat := match w.cell? ⟨p, 1, none⟩ with
  | some (.int _ k) => k.toNat
  | _ => 0
theorem Rd.at_ {w : World} {p : Nat} {s : ByteArray} {k : Nat} (h : Rd w p s k) : rdAt w p = k := by
  unfold rdAt
  rw [RdC.cell1 h]
  simp

set_option maxRecDepth 100000 in
set_option maxHeartbeats 1000000 in
theorem comment_any (w : World) (p : Nat) (s : ByteArray) (k : Nat) (h : Rd w p s k) (hk : k ≤ s.size) (hs : s.size ≤ 32768) :
    Calls Tryd.prog 67 #[.pointer (some ⟨p, 0, none⟩)] w fun e w' => e = .returned (.tuple #[]) ∧ ∃ j, Rd w' p s j ∧ Lx.Ends s j ∧ j ≤ s.size ∧ k ≤ j ∧ Lx.bh s k = Lx.dn s j ∧ Turn [p] w w' := by
  go_enter Tryd.func67, Tryd.ntmps67
  go_wp2
  go_loopw [2] (fun _ wr => ∃ j, Rd wr p s j ∧ j ≤ s.size ∧ k ≤ j ∧ Hid (Lx.bh s k = Lx.bh s j) ∧ Turn [p] w wr) (fun _ wr => s.size - rdAt wr p)
  case atStart => exact ⟨k, h, hk, Nat.le_refl _, rfl, Turn.refl _ _⟩
  case round =>
    obtain ⟨j, hR, hj, hkj, HB, hT⟩ := hrel
    have hat := hR.at_
    go_wp2_with fail
    refine (ended_any _ p s j hR hj).mono ?_
    rintro e w1 ⟨rfl, q, rfl⟩
    by_cases he : Lx.Ends s j
    · rw [decide_eq_true he]
      have HE : Hid _ := he
      clear he
      go_wp2
      go_end0
      refine ⟨rfl, j, hR, HE.out, hj, hkj, ?_, hT.drewN q⟩
      rw [HB.out]; exact (Lx.ln_end HE.out).2
    · rw [decide_eq_false he]
      have hlt : j < s.size := by
        rcases Nat.lt_or_ge j s.size with h | h
        · exact h
        · exact absurd (.inl (by omega)) he
      have HE : Hid _ := he
      clear he
      have c1 := RdC.cell1 hR
      go_wp2_with fail
      refine (joins_any _ p s j j (hR.drewN q) hs (by omega)).mono ?_
      rintro e w1 ⟨rfl, rfl⟩
      by_cases hJ : Lx.Join s j
      · rw [decide_eq_true hJ]
        have hlt2 : j + 1 < s.size := hJ.1
        have HB2 : Hid (Lx.bh s k = Lx.bh s (j + 2)) := HB.out.trans (Lx.ln_join hJ).2
        clear hJ
        go_wp2_with fail
        refine (pass_any _ p s j (hR.drewN q) hlt hs).mono ?_
        rintro e w1 ⟨rfl, hR1, hT1⟩
        go_wp2_with fail
        refine (pass_any _ p s (j + 1) hR1 hlt2 hs).mono ?_
        rintro e w2 ⟨rfl, hR2, hT2⟩
        have hat2 := hR2.at_
        go_wp2
        exact ⟨⟨j + 2, hR2, by omega, by omega, HB2, ((hT.drewN q).trans hT1 (by simp)).trans hT2 (by simp)⟩, by omega⟩
      · rw [decide_eq_false hJ]
        have HB2 : Hid (Lx.bh s k = Lx.bh s (j + 1)) := HB.out.trans (Lx.ln_one hlt hJ (fun e => HE.out (.inr ⟨hlt, e⟩))).2
        clear hJ
        go_wp2_with fail
        refine (pass_any _ p s j (hR.drewN q) hlt hs).mono ?_
        rintro e w2 ⟨rfl, hR2, hT2⟩
        have hat2 := hR2.at_
        go_wp2
        exact ⟨⟨j + 1, hR2, by omega, by omega, HB2, (hT.drewN q).trans hT2 (by simp)⟩, by omega⟩

end Go.Proofs.YtfgdlnidfkjbdaaDoor

namespace Go.Proofs.YtfgdlnidfkjbdaaDoor.Lx
variable {s : ByteArray} {k j : Nat}

/-- from k to j there are bare bytes alone -/
def Bares (s : ByteArray) (k j : Nat) : Prop := ∃ X, ln s k = X ++ ln s j ∧ X.map B.c = ((bs s).take j).drop k ∧ ∀ b ∈ X, bare b.c = true
theorem Bares.start (s : ByteArray) (k : Nat) : Bares s k k := ⟨[], rfl, by rw [List.drop_of_length_le (by rw [List.length_take]; omega)]; rfl, fun _ h => by cases h⟩
theorem ln_bare (h : j < s.size) (hb : bare s[j] = true) : ln s j = ⟨s[j], false, j⟩ :: ln s (j + 1) ∧ bh s j = bh s (j + 1) := by
  have := not_bare hb
  exact ln_one h (not_join (h := h) this.2.2.2.2.2.2) this.2.2.2.2.1
theorem Bares.more (h : Bares s k j) (hkj : k ≤ j) (hj : j < s.size) (hb : bare s[j] = true) : Bares s k (j + 1) := by
  obtain ⟨X, h1, h2, h3⟩ := h
  refine ⟨X ++ [⟨s[j], false, j⟩], ?_, ?_, ?_⟩
  · rw [h1, (ln_bare hj hb).1]; simp
  · rw [List.map_append, h2, take_byte s j hj, List.drop_append_of_le_length (by rw [List.length_take, bs_length]; omega)]
    rfl
  · intro b hm
    rcases List.mem_append.1 hm with h | h
    · exact h3 b h
    · rw [List.mem_singleton] at h
      rw [h]; exact hb
theorem ln_stop (h : Ends s j ∨ ∃ h : j < s.size, bare s[j] = false) : (ln s j).takeWhile (fun x => bare x.c) = [] ∧ (ln s j).dropWhile (fun x => bare x.c) = ln s j := by
  by_cases he : Ends s j
  · rw [(ln_end he).1]; exact ⟨rfl, rfl⟩
  · obtain ⟨hj, hb⟩ := h.resolve_left he
    by_cases hJ : Join s j
    · rw [(ln_join hJ).1, List.takeWhile_cons, List.dropWhile_cons]
      exact ⟨rfl, rfl⟩
    · rw [(ln_one hj hJ (fun e => he (.inr ⟨hj, e⟩))).1, List.takeWhile_cons, List.dropWhile_cons]
      simp only [hb, Bool.false_eq_true, if_false]
      exact ⟨trivial, trivial⟩
theorem Bares.ends (h : Bares s k j) (hkj : k < j) (hj : j ≤ s.size) (hb : bare (s[k]'(by omega)) = true) (hst : Ends s j ∨ ∃ h : j < s.size, bare s[j] = false) :
    rd (ln s k) = (rd (ln s j)).map id (⟨((bs s).take j).drop k, k, false, false⟩ :: ·) := by
  obtain ⟨X, h1, h2, h3⟩ := h
  obtain ⟨t1, t2⟩ := ln_stop hst
  have hk := (ln_bare (by omega) hb).1
  cases X with
  | nil =>
    have := congrArg List.length h2
    simp only [List.map_nil, List.length_nil, List.length_drop, List.length_take, bs_length] at this
    omega
  | cons b r =>
    rw [h1, List.cons_append] at hk
    have hat : b.at_ = k := by
      have := (List.cons.inj hk).1
      rw [this]
    have hbb := h3 b (List.mem_cons_self ..)
    have hr : ∀ x ∈ r, (fun x : B Nat => bare x.c) x = true := fun x hx => h3 x (List.mem_cons_of_mem _ hx)
    rw [h1, List.cons_append, rd_bare hbb, List.takeWhile_append_of_pos hr, List.dropWhile_append_of_pos hr, t1, t2, List.append_nil, hat]
    rw [← h2, List.map_cons]

theorem quo_end (h : Ends s k) (acc : List UInt8) : quo (ln s k) acc = .ok none := by rw [(ln_end h).1]; rfl
theorem quo_34 (h : k < s.size) (hx : s[k] = 34) (acc : List UInt8) : quo (ln s k) acc = .ok (some (acc, ln s (k + 1))) ∧ bh s k = bh s (k + 1) := by
  obtain ⟨e1, e2⟩ := ln_one h (not_join (h := h) (by rw [hx]; decide)) (by rw [hx]; decide)
  refine ⟨?_, e2⟩
  rw [e1, quo, if_pos hx]
theorem quo_other (h : k < s.size) (h10 : s[k] ≠ 10) (h34 : s[k] ≠ 34) (h92 : s[k] ≠ 92) (acc : List UInt8) : quo (ln s k) acc = quo (ln s (k + 1)) (acc ++ [s[k]]) ∧ bh s k = bh s (k + 1) := by
  obtain ⟨e1, e2⟩ := ln_one h (not_join (h := h) h92) h10
  refine ⟨?_, e2⟩
  rw [e1, quo, if_neg h34, if_pos h92]
theorem quo_esc (h : k < s.size) (hx : s[k] = 92) (acc : List UInt8) : match escAt s k with
    | some c => k + 2 ≤ s.size ∧ quo (ln s k) acc = quo (ln s (k + 2)) (acc ++ [c]) ∧ bh s k = bh s (k + 2)
    | none => quo (ln s k) acc = .bad k := by
  unfold escAt
  by_cases h1 : k + 1 < s.size
  · rw [dif_pos h1]
    by_cases h10 : s[k + 1] = 10
    · have hJ : Join s k := ⟨h1, hx, h10⟩
      rw [if_neg (fun ⟨_, e, _⟩ => by rw [h10] at e; exact absurd e (by decide)), if_pos h10]
      obtain ⟨e1, e2⟩ := ln_join hJ
      refine ⟨by omega, ?_, e2⟩
      rw [e1, quo, if_neg (by show ¬ (32 : UInt8) = 34; decide), if_pos (by show (32 : UInt8) ≠ 92; decide)]
    · have hJ : ¬ Join s k := fun ⟨_, _, e⟩ => h10 e
      obtain ⟨e1, e2⟩ := ln_one h hJ (by rw [hx]; decide)
      have q1 : quo (ln s k) acc = quo.qesc k (ln s (k + 1)) acc := by
        rw [e1, quo, if_neg (by show ¬ s[k] = 34; rw [hx]; decide), if_neg (by show ¬ s[k] ≠ 92; rw [hx]; decide)]
      by_cases hJ2 : Join s (k + 1)
      · rw [if_pos hJ2]
        show _ = _
        rw [q1, (ln_join hJ2).1, quo.qesc, if_pos rfl]
      · rw [if_neg hJ2, if_neg h10]
        obtain ⟨e3, e4⟩ := ln_one h1 hJ2 h10
        rw [q1, e3, quo.qesc, if_neg (by simp)]
        show match esc s[k + 1] with
          | some c => k + 2 ≤ s.size ∧ (match esc s[k + 1] with
            | some x => quo (ln s (k + 1 + 1)) (acc ++ [x])
            | none => R.bad k) = quo (ln s (k + 2)) (acc ++ [c]) ∧ bh s k = bh s (k + 2)
          | none => (match esc s[k + 1] with
            | some x => quo (ln s (k + 1 + 1)) (acc ++ [x])
            | none => R.bad k) = .bad k
        cases esc s[k + 1] with
        | none => rfl
        | some c => exact ⟨by omega, rfl, e2.trans e4⟩
  · rw [dif_neg h1]
    have hJ : ¬ Join s k := fun ⟨e, _⟩ => h1 e
    show _ = _
    rw [(ln_one h hJ (by rw [hx]; decide)).1, quo, if_neg (by show ¬ s[k] = 34; rw [hx]; decide), if_neg (by show ¬ s[k] ≠ 92; rw [hx]; decide), (ln_end (.inl (by omega))).1]
    rfl

end Go.Proofs.YtfgdlnidfkjbdaaDoor.Lx

namespace Go.Proofs.YtfgdlnidfkjbdaaDoor
open Go.RowKit

/-- is the line at its end? as a quiet call -/
theorem ended_q {w : World} {p : Nat} {s : ByteArray} {k : Nat} (h : Rd w p s k) (hk : k ≤ s.size) {D : Bool} (hD : decide (Lx.Ends s k) = D) (q : Nat) :
    Calls Tryd.prog 64 #[.pointer (some ⟨p, 0, none⟩)] (w.drewN q) fun e w' => e = .returned (.bool D) ∧ ∃ m, w' = (w.drewN q).drewN m := by
  rw [← hD]
  exact ended_any _ p s k (h.drewN q) hk
theorem bare_q {c : UInt8} {D : Bool} (hD : Lx.bare c = D) (w : World) : Calls Tryd.prog 61 #[.int .u8 (c.toNat : Int)] w fun e w' => e = .returned (.bool D) ∧ w' = w := by
  rw [← hD]
  exact bare_any c w

theorem slice_str (s : ByteArray) (k j : Nat) : s.extract k j = str (((bs s).take j).drop k) := by
  have : bs (s.extract k j) = ((bs s).take j).drop k := by rw [bs_extract, List.drop_take]
  rw [← this]
  exact (str_of _).symm

set_option maxRecDepth 100000 in
set_option maxHeartbeats 1000000 in
theorem bares_any (w : World) (p : Nat) (s : ByteArray) (k : Nat) (h : Rd w p s k) (hk : k < s.size) (hb : Lx.bare s[k] = true) (hs : s.size ≤ 32768) :
    Calls Tryd.prog 69 #[.pointer (some ⟨p, 0, none⟩)] w fun e w' => ∃ j, e = .returned (.string (str (((bs s).take j).drop k))) ∧ Rd w' p s j ∧ k < j ∧ j ≤ s.size ∧ Hid (Lx.bh s k = Lx.bh s j) ∧ Hid (Lx.rd (Lx.ln s k) = (Lx.rd (Lx.ln s j)).map id (⟨((bs s).take j).drop k, k, false, false⟩ :: ·)) ∧ Turn [p] w w' := by
  have HBK : Hid _ := hb
  clear hb
  have c1 := RdC.cell1 h
  go_enter Tryd.func69, Tryd.ntmps69
  go_wp2
  go_loopw [8] (fun _ wr => ∃ j, Rd wr p s j ∧ j ≤ s.size ∧ k ≤ j ∧ Hid (Lx.bh s k = Lx.bh s j) ∧ Hid (Lx.Bares s k j) ∧ Turn [p] w wr) (fun _ wr => s.size - rdAt wr p)
  case atStart => exact ⟨k, h, by omega, Nat.le_refl _, rfl, Lx.Bares.start _ _, Turn.refl _ _⟩
  case round =>
    clear c1
    obtain ⟨j, hR, hj, hkj, HB, HX, hT⟩ := hrel
    have hat := hR.at_
    have c0 := RdC.cell0 hR
    have c1 := RdC.cell1 hR
    have HST : Hid ((Lx.Ends s j ∨ ∃ h : j < s.size, Lx.bare s[j] = false) → k < j) := by
      intro hst
      rcases Nat.lt_or_ge k j with h | h
      · exact h
      obtain rfl : k = j := by omega
      exfalso
      rcases hst with he | ⟨_, hf⟩
      · have := HBK.out
        rcases he with e | ⟨_, e⟩
        · omega
        · rw [e] at this; exact absurd this (by decide)
      · rw [HBK.out] at hf; cases hf
    by_cases he : Lx.Ends s j
    · have HE : Hid _ := he
      have hend := ended_q hR hj (decide_eq_true he)
      have hkj2 := HST.out (.inl he)
      clear he HST
      go_wp2_with fail
      go_quiet ((go_at_call 64; refine Calls.quiet_of (hend _)))
      go_wp2_with fail
      have i1 : (k : Int) ≤ (j : Int) := by omega
      have i2 : (j : Int) ≤ (s.size : Int) := by omega
      go_quiet (fail)
      go_wp2
      go_ret
      refine ⟨j, ?_, hR, hkj2, hj, HB, HX.out.ends hkj2 hj HBK.out (.inl HE.out), (hT.drewN _).drewN _⟩
      rw [← slice_str]
      rfl
    · have hlt : j < s.size := by
        rcases Nat.lt_or_ge j s.size with h | h
        · exact h
        · exact absurd (.inl (by omega)) he
      have hend := ended_q hR hj (decide_eq_false he)
      clear he
      have i3 : (j : Int) < (s.size : Int) := by omega
      cases hbj : Lx.bare s[j] with
      | true =>
        have hba := bare_q hbj
        have HBJ : Hid _ := hbj
        clear hbj HST
        go_wp2_with fail
        go_quiet ((first | (go_at_call 64; refine Calls.quiet_of (hend _)) | (go_at_call 61; refine Calls.quiet_of_same (hba _)) | fail))
        go_wp2_with fail
        refine (pass_any _ p s j (hR.drewN _) hlt hs).mono ?_
        rintro e w2 ⟨rfl, hR2, hT2⟩
        have hat2 := hR2.at_
        go_wp2
        exact ⟨⟨j + 1, hR2, by omega, by omega, HB.out.trans (Lx.ln_bare hlt HBJ.out).2, HX.out.more hkj hlt HBJ.out, (hT.drewN _).trans hT2 (by simp)⟩, by omega⟩
      | false =>
        have hba := bare_q hbj
        have hkj2 := HST.out (.inr ⟨hlt, hbj⟩)
        have HBJ : Hid _ := hbj
        clear hbj HST
        go_wp2_with fail
        go_quiet ((first | (go_at_call 64; refine Calls.quiet_of (hend _)) | (go_at_call 61; refine Calls.quiet_of_same (hba _)) | fail))
        go_wp2_with fail
        have i1 : (k : Int) ≤ (j : Int) := by omega
        have i2 : (j : Int) ≤ (s.size : Int) := by omega
        go_quiet (fail)
        go_wp2
        go_ret
        refine ⟨j, ?_, hR, hkj2, hj, HB, HX.out.ends hkj2 hj HBK.out (.inr ⟨hlt, HBJ.out⟩), (hT.drewN _).drewN _⟩
        rw [← slice_str]
        rfl

end Go.Proofs.YtfgdlnidfkjbdaaDoor
