/-
  THE WALK OF TreeMissed.
-/
import Derived.Test.YtifolddmcibkdaaLMissK
import Derived.Test.YtifolddmcibkdaaPXS
namespace Go.Proofs.Ytifolddmcibkdaa
open Go.RowKit

theorem path_small {p : ByteArray} (h : Tm.isPath p = true) : p.size ≤ 1099511627 := by
  have h1 : p.data.toList.length ≤ 60 := (Pm.isP_parts h).1
  rw [Array.length_toList] at h1
  show p.data.size ≤ _
  omega
theorem Tm.look_take_none {l : List Tm.Fl} (hr : Tm.Rise l) {q : Nat} (hq : q < l.length) : Tm.look (l.take q) l[q].path = none := by
  rw [Tm.look_none]
  intro s hs
  obtain ⟨i, hi, e⟩ := List.mem_take_iff_getElem.1 hs
  have h1 : i < q := by omega
  have := List.pairwise_iff_getElem.1 hr i q (by omega) hq h1
  exact Tm.kl_ne this (by rw [e])

/-- where the script's replay stands: ahead of the cut, or behind it -/
def MPh (l : List Tm.Op) (kk j : Nat) (mk : Int) (f : ByteArray → Option ByteArray) : Prop :=
  (j ≤ kk ∧ mk = 0 ∧ f = fun _ => none) ∨ (kk < j ∧ mk = ((Tm.play (l.take kk)).chs.length : Int) ∧ f = Tm.look (Tm.play (l.take kk)).files ∧ Tm.Passed (Tm.play (l.take kk)) (Tm.play (l.take j)))
/-- .. and once the cut has been looked at -/
def MPh2 (l : List Tm.Op) (kk j : Nat) (mk : Int) (f : ByteArray → Option ByteArray) : Prop :=
  (j < kk ∧ mk = 0 ∧ f = fun _ => none) ∨ (kk ≤ j ∧ mk = ((Tm.play (l.take kk)).chs.length : Int) ∧ f = Tm.look (Tm.play (l.take kk)).files ∧ Tm.Passed (Tm.play (l.take kk)) (Tm.play (l.take j)))
theorem MPh.not {l : List Tm.Op} {kk j : Nat} {mk : Int} {f : ByteArray → Option ByteArray} (h : MPh l kk j mk f) (hj : j ≠ kk) : MPh2 l kk j mk f := by
  rcases h with ⟨h1, h2⟩ | ⟨h1, h2⟩
  · exact .inl ⟨by omega, h2⟩
  · exact .inr ⟨by omega, h2⟩
theorem MPh2.at (l : List Tm.Op) (kk : Nat) : MPh2 l kk kk ((Tm.play (l.take kk)).chs.length : Int) (Tm.look (Tm.play (l.take kk)).files) := .inr ⟨Nat.le_refl _, rfl, rfl, Tm.Passed.refl _⟩
theorem Tm.Passed.step {t u : Tm.T} (h : Tm.Passed t u) (hk : Tm.Ok u) (o : Tm.Op) : Tm.Passed t (Tm.step u o) := by
  unfold Tm.step
  split
  · exact h.write hk _ _
  · split
    · exact h.remove hk _
    · exact h
theorem MPh2.next {l : List Tm.Op} {kk j : Nat} {mk : Int} {f : ByteArray → Option ByteArray} (h : MPh2 l kk j mk f) (hj : j < l.length) (hk : Tm.Ok (Tm.play (l.take j))) : MPh l kk (j + 1) mk f := by
  rcases h with ⟨h1, h2⟩ | ⟨h1, h2, h3, h4⟩
  · exact .inl ⟨by omega, h2⟩
  · refine .inr ⟨by omega, h2, h3, ?_⟩
    rw [Tm.play_take l j hj]
    exact h4.step hk _
theorem MPh2.last {l : List Tm.Op} {kk : Nat} {mk : Int} {f : ByteArray → Option ByteArray} (h : MPh2 l kk l.length mk f) (hk : kk ≤ l.length) (hl : l.length ≤ 400) : ∃ t0 : Tm.T, mk = (t0.chs.length : Int) ∧ f = Tm.look t0.files ∧ Tm.Ok t0 ∧ Tm.Passed t0 (Tm.play l) := by
  rcases h with ⟨h1, -⟩ | ⟨-, h2, h3, h4⟩
  · omega
  · rw [List.take_length] at h4
    exact ⟨_, h2, h3, (Tm.play_ok (l.take kk) (by rw [List.length_take]; omega)).1, h4⟩
theorem Tm.Passed.le {t u : Tm.T} (h : Tm.Passed t u) : t.chs.length ≤ u.chs.length := by
  obtain ⟨more, h1, -⟩ := h
  rw [h1, List.length_append]
  omega

set_option maxRecDepth 100000 in
set_option maxHeartbeats 8000000 in
theorem missed_walk (v : Value) (l : List Tm.Op) (B : Nat) (z : Int) (w : World) (hv : OpR.Sl w B v l) (hB : B ≤ w.heap.size) (hz : Tm.Sized l) :
    Calls Try.prog 6 #[v, .int .i64 z] w fun e w' => e = .returned (.bool true) ∧ Below w.heap.size w w' := by
  obtain ⟨ad, c, rfl, hle⟩ := hv.shape
  go_enter Try.func6, Try.ntmps6
  go_wp2_with fail
  refine (works_true _).mono ?_
  rintro e w1 ⟨rfl, hB1⟩
  go_wp2_with fail
  refine (long_any w1 B _ l (hv.below hB1 hB) hz).mono ?_
  rintro e w2 ⟨_, rfl, ⟨lb, rfl, hlb⟩, hB2⟩
  have hC2 := hB1.trans (hB2.mono hB1.size)
  clear hB1 hB2
  cases lb with
  | true =>
    go_wp2
    go_ret
    exact ⟨rfl, hC2⟩
  | false =>
  obtain ⟨hc, -⟩ := hlb rfl
  clear hlb
  by_cases hl2 : (400 : Int) < (l.length : Int)
  · go_wp2
    go_ret
    exact ⟨rfl, hC2⟩
  have r1 : (((l.length : Int) + 1) == 0) = false := by simp; omega
  have y1 := Int.tmod_lt_of_pos z (show (0 : Int) < (l.length : Int) + 1 by omega)
  have y2 := Int.lt_tmod_of_pos z (show (0 : Int) < (l.length : Int) + 1 by omega)
  obtain ⟨y, hy⟩ : ∃ y, z.tmod ((l.length : Int) + 1) = y := ⟨_, rfl⟩
  rw [hy] at y1 y2
  obtain ⟨kk, hkk, hyk⟩ : ∃ kk : Nat, kk ≤ l.length ∧ (if y < 0 then y + ((l.length : Int) + 1) else y) = (kk : Int) := by
    split
    · exact ⟨(y + ((l.length : Int) + 1)).toNat, by omega, by omega⟩
    · exact ⟨y.toNat, by omega, by omega⟩
  by_cases hy0 : y < 0
  case' pos =>
    rw [if_pos hy0] at hyk
    have yw : wrap64 (y + ((l.length : Int) + 1)) = (kk : Int) := by rw [hyk]; unfold wrap64; omega
  case' neg =>
    rw [if_neg hy0] at hyk
    subst hyk
  all_goals go_wp2_with fail
  all_goals refine (New_any _).mono ?_
  all_goals rintro e w3 ⟨g, S, rfl, hT, hS, hB3⟩
  all_goals have hO : One w w3 g (Tm.play (l.take 0)) [] := ⟨S, hT, fun b hb => ⟨Nat.le_trans hC2.size (hS b hb), by simp⟩, by simp, hC2.trans (hB3.mono hC2.size)⟩
  all_goals have hM := MS.new hO
  all_goals have hmm := @run_makeMap Try.prog
  all_goals obtain ⟨w4, hw4⟩ : ∃ w4, w3.alloc (.map #[] 0) = w4 := ⟨_, rfl⟩
  all_goals have hmk : (Instr.makeMap 55 none).run Try.prog w3 = .ok (.map (some w3.heap.size)) w4 := by rw [← hw4]; exact hmm _ _
  all_goals rw [hw4] at hM
  all_goals clear hmm hw4
  all_goals clear hT hS hB3 hC2 hO y1 y2 hy
  all_goals go_wp2_with fail
  all_goals
    go_loopw [8, 9] (fun m i wr => ∃ j : Nat, j ≤ l.length ∧ i = .int .i64 (j : Int) ∧ ∃ n f mk, m = .int .i64 mk ∧ MS w wr g (Tm.play (l.take j)) w3.heap.size n f ∧ MPh l kk j mk f) (fun _ i _ => l.length + 1 - (intOf i).toNat)
    case atStart => exact ⟨0, Nat.zero_le _, rfl, 0, _, 0, rfl, hM, .inl ⟨Nat.zero_le _, rfl, rfl⟩⟩
    case round =>
      obtain ⟨j, hj, rfl, n, f, mk, rfl, hMj, hph⟩ := hrel
      obtain ⟨hOkk, hchs⟩ := Tm.play_ok (l.take j) (by rw [List.length_take]; omega)
      have i1 : (j : Int) ≤ (l.length : Int) := by omega
      by_cases hjk : j = kk
      · subst hjk
        have i2 : ((j : Int) == (j : Int)) = true := by simp
        have hn0 : n = 0 ∧ f = fun _ => none := by
          rcases hph with ⟨-, -, h⟩ | ⟨h, -⟩
          · subst h; exact ⟨hMj.2.2.2.eq Tm.Count.none, rfl⟩
          · omega
        obtain ⟨rfl, rfl⟩ := hn0
        clear hph hM
        go_wp2_with fail
        refine (MListed ⟨#[]⟩ hMj hOkk).mono ?_
        rintro e wl ⟨vl, rfl, hvl, hMl, -⟩
        rw [show Tm.list (Tm.play (l.take j)) ⟨#[]⟩ = (Tm.play (l.take j)).files.map Tm.Fl.path from Tm.list_all _] at hvl
        obtain ⟨adl, cl, hve, hll⟩ := hvl.shape
        subst hve
        rw [List.length_map] at hvl hll ⊢
        clear hMj
        have hfew := hOkk.few
        go_wp2_with fail
        go_loopw [71] (fun i W => ∃ q : Nat, q ≤ (Tm.play (l.take j)).files.length ∧ i = .int .i64 (q : Int) ∧ (∃ n, n ≤ q ∧ MS w W g (Tm.play (l.take j)) w3.heap.size n (Tm.look ((Tm.play (l.take j)).files.take q))) ∧ StR.Sl W W.heap.size (.slice adl (Tm.play (l.take j)).files.length cl) ((Tm.play (l.take j)).files.map Tm.Fl.path)) (fun i _ => (Tm.play (l.take j)).files.length - (intOf i).toNat)
        case atStart => exact ⟨0, Nat.zero_le _, rfl, ⟨0, Nat.le_refl _, hMl⟩, hvl⟩
        case round =>
          obtain ⟨q, hq, rfl, ⟨n, hnq, hMq⟩, hvq⟩ := hrel
          by_cases hlt : q < (Tm.play (l.take j)).files.length
          · obtain ⟨b, o, c', e, hb, p0⟩ := StR.at hvq q (by rw [List.length_map]; exact hlt)
            simp only [Value.slice.injEq] at e
            obtain ⟨rfl, -, rfl⟩ := e
            have i5 : (q : Int) < ((Tm.play (l.take j)).files.length : Int) := by omega
            obtain ⟨fl, hfl⟩ : ∃ fl, (Tm.play (l.take j)).files[q] = fl := ⟨_, rfl⟩
            have hfm : fl ∈ (Tm.play (l.take j)).files := by rw [← hfl]; exact List.getElem_mem hlt
            have hgd : ((Tm.play (l.take j)).files.map Tm.Fl.path).getD q .empty = fl.path := by rw [← hfl]; simp [List.getD, hlt]
            rw [hgd] at p0
            have HRd : Hid (Tm.read (Tm.play (l.take j)) fl.path = (fl.text, 0)) := Tm.read_yes hOkk.rise (hOkk.path _ hfm).1 hfm
            have hpz : fl.path.size ≤ 1099511627 := path_small (hOkk.path _ hfm).1
            have hno : Tm.look ((Tm.play (l.take j)).files.take q) fl.path = none := by rw [← hfl]; exact Tm.look_take_none hOkk.rise hlt
            have HNx : Hid (Tm.look ((Tm.play (l.take j)).files.take (q + 1)) = updS (Tm.look ((Tm.play (l.take j)).files.take q)) fl.path (some fl.text)) := by
              show _ = _
              rw [List.take_succ_eq_append_getElem hlt, hfl, Tm.look_snoc hno]
              rfl
            clear hfm hgd hno hfl
            go_wp2_with fail
            refine (MRead fl.path hMq hOkk).mono ?_
            rintro e wr1 ⟨rfl, hMr, hBr⟩
            rw [HRd.out]
            obtain ⟨wr2, n2, hst, hn2, hMs, htn⟩ := MStore hMr Try.underlying55 (by omega) fl.text hpz
            have hvs := sl_turned (hvq.below hBr (Nat.le_refl _) |>.mono hBr.size) htn
            clear hMq hMr hvq htn hBr
            go_wp2
            exact ⟨⟨q + 1, by omega, by go_num, ⟨n2, by omega, by rw [HNx.out]; exact hMs⟩, hvs⟩, by simp [intOf]; omega⟩
          · obtain rfl : q = (Tm.play (l.take j)).files.length := by omega
            have i5 : ¬ ((Tm.play (l.take j)).files.length : Int) < ((Tm.play (l.take j)).files.length : Int) := by omega
            rw [List.take_length] at hMq
            clear hvq hvl hMl
            go_wp2_with fail
            refine (MMark hMq hOkk).mono ?_
            rintro e wr ⟨rfl, hMj, -⟩
            have hp2 := MPh2.at l j
            obtain ⟨mk, hmk⟩ : ∃ mk : Int, ((Tm.play (l.take j)).chs.length : Int) = mk := ⟨_, rfl⟩
            obtain ⟨f, hf⟩ : ∃ f, Tm.look (Tm.play (l.take j)).files = f := ⟨_, rfl⟩
            rw [hmk, hf] at hp2
            rw [hf] at hMj
            rw [hmk]
            clear hMq hmk hf
            by_cases hlt : j < l.length
            · have i3 : ((j : Int) == (l.length : Int)) = false := by simp; omega
              obtain ⟨b, o, c', e, hb, p0, p1, p2, p3⟩ := OpR.at (hv.below hMj.base hB) j hlt
              simp only [Value.slice.injEq] at e
              obtain ⟨rfl, -, rfl⟩ := e
              have i4 : (j : Int) < (l.length : Int) := by omega
              have HNX : Hid _ := hp2.next hlt hOkk
              have HST : Hid _ := Tm.play_take l j hlt
              have hck : (Tm.play (l.take j)).chs.length < 10000000 := by rw [List.length_take] at hchs; omega
              clear hp2
              generalize l.getD j Tm.noOp = op at *
              clear hchs
              generalize Tm.play (l.take j) = t at hMj hOkk hck HST ⊢
              have hbx := heap_alloc_new wr (.cells #[.int .i64 op.kind, .string op.path, .string op.text, .int .i64 op.n] 41)
              obtain ⟨Wc, hWc⟩ : ∃ Wc, wr.alloc (.cells #[.int .i64 op.kind, .string op.path, .string op.text, .int .i64 op.n] 41) = Wc := ⟨_, rfl⟩
              rw [hWc] at hbx
              have hMc : MS w Wc g t w3.heap.size n f := by rw [← hWc]; exact hMj.below ((Below.refl _ _).alloc (Nat.le_refl _) _)
              have k0 := (cell_of_row Wc wr.heap.size 0 _ 41 (0, 0) hbx).trans rfl
              have k1 := (cell_of_row Wc wr.heap.size 1 _ 41 (0, 0) hbx).trans rfl
              have k2 := (cell_of_row Wc wr.heap.size 2 _ 41 (0, 0) hbx).trans rfl
              clear hbx hMj
              by_cases e0 : op.kind = 0
              · have q0 : (op.kind == 0) = true := by simp [e0]
                have HE : Hid _ := Tm.step_write (t := t) e0
                clear e0
                go_wp2_with fail
                refine (MWrite op.path op.text hMc hOkk).mono ?_
                rintro e w5 ⟨rfl, hM5⟩
                go_wp2
                exact ⟨⟨j + 1, by omega, by go_num, n, f, mk, rfl, by rw [HST.out, HE.out]; exact hM5, HNX.out⟩, by simp [intOf]; omega⟩
              have q0 : (op.kind == 0) = false := by simp [e0]
              by_cases e1 : op.kind = 1
              · have q1 : (op.kind == 1) = true := by simp [e1]
                have HE : Hid _ := Tm.step_remove (t := t) e1
                clear e0 e1
                go_wp2_with fail
                refine (MRemove op.path hMc hOkk).mono ?_
                rintro e w5 ⟨rfl, hM5⟩
                go_wp2
                exact ⟨⟨j + 1, by omega, by go_num, n, f, mk, rfl, by rw [HST.out, HE.out]; exact hM5, HNX.out⟩, by simp [intOf]; omega⟩
              have q1 : (op.kind == 1) = false := by simp [e1]
              have HE : Hid _ := Tm.step_other (t := t) e0 e1
              clear e0 e1
              go_wp2
              exact ⟨⟨j + 1, by omega, by go_num, n, f, mk, rfl, by rw [HST.out, HE.out]; exact hMc, HNX.out⟩, by simp [intOf]; omega⟩
            · obtain rfl : j = l.length := by omega
              have i3 : ((l.length : Int) == (l.length : Int)) = true := by simp
              obtain ⟨t0, hmk0, hf0, hOk0, hP⟩ := hp2.last (by omega) (by omega)
              subst hmk0
              subst hf0
              rw [List.take_length] at hMj hOkk hchs
              have hcl : (Tm.play l).chs.length ≤ 400 := by omega
              have hcl0 := hP.le
              have hn0 := hMj.2.2.2.eq (Tm.Count.files hOk0.rise)
              have hfew0 := hOk0.few
              clear hp2 hchs hv hz
              generalize Tm.play l = t at *
              have hfew := hOkk.few
              go_wp2_with fail
              refine (MSince (t0.chs.length : Int) hMj hOkk).mono ?_
              rintro e w20 ⟨v2, rfl, hv2, hM20, -⟩
              clear hMj
              rcases hP.since with ⟨h32, hs⟩ | ⟨L, hs, hL32, hup, hpth, hsame⟩
              · rw [hs] at hv2 ⊢
                obtain ⟨adv, cv, hve, -⟩ := hv2.shape
                subst hve
                clear hs hv2
                go_wp2_with fail
                refine (MMark hM20 hOkk).mono ?_
                rintro e w21 ⟨rfl, hM21, -⟩
                have hBz := hM21.base
                go_wp2
                go_ret
                exact ⟨rfl, hBz⟩
              · rw [hs] at hv2 ⊢
                obtain ⟨adv, cv, hve, -⟩ := hv2.shape
                subst hve
                clear hs
                go_wp2_with fail
                go_loopw [133] (fun i W => ∃ q : Nat, q ≤ L.length ∧ i = .int .i64 (q : Int) ∧ (∃ n, n ≤ 256 + q ∧ MS w W g t w3.heap.size n (Tm.mix (L.take q) (Tm.look t.files) (Tm.look t0.files))) ∧ StR.Sl W W.heap.size (.slice adv L.length cv) L) (fun i _ => L.length - (intOf i).toNat)
                case atStart => exact ⟨0, Nat.zero_le _, rfl, ⟨n, by omega, by rw [List.take_zero, Tm.mix_nil]; exact hM20⟩, hv2⟩
                case round =>
                  obtain ⟨q, hq, rfl, ⟨n, hnq, hMq⟩, hvq⟩ := hrel
                  by_cases hlt : q < L.length
                  · obtain ⟨b, o, c', e, hb, p0⟩ := StR.at hvq q hlt
                    simp only [Value.slice.injEq] at e
                    obtain ⟨rfl, -, rfl⟩ := e
                    have i5 : (q : Int) < (L.length : Int) := by omega
                    obtain ⟨p, hp⟩ : ∃ p, L.getD q .empty = p := ⟨_, rfl⟩
                    have hpL : L[q] = p := by rw [← hp]; simp [List.getD, hlt]
                    rw [hp] at p0
                    have hpi : Tm.isPath p = true := hpth p (by rw [← hpL]; exact List.getElem_mem hlt)
                    have hpz := path_small hpi
                    have HNx : Hid (Tm.mix (L.take (q + 1)) (Tm.look t.files) (Tm.look t0.files) = updS (Tm.mix (L.take q) (Tm.look t.files) (Tm.look t0.files)) p (Tm.look t.files p)) := by
                      show _ = _
                      rw [List.take_succ_eq_append_getElem hlt, hpL, Tm.mix_snoc]
                      rfl
                    have HRd : Hid ((∃ s, Tm.look t.files p = some s ∧ Tm.read t p = (s, 0)) ∨ (Tm.look t.files p = none ∧ Tm.read t p = (.empty, 4))) := by
                      rcases Tm.read_cases hOkk p with ⟨h1, -⟩ | ⟨-, h1, h2⟩ | ⟨-, s, h1, h2⟩
                      · rw [hpi] at h1; cases h1
                      · exact .inr ⟨Tm.look_none.2 h1, h2⟩
                      · exact .inl ⟨s, (Tm.look_iff hOkk.rise).2 h1, h2⟩
                    have HPrev : Hid (∀ q', q = q' + 1 → Op.bytesLess (L.getD q' .empty).toList p.toList = true) := by
                      rintro q' rfl
                      have := List.pairwise_iff_getElem.1 hup q' (q' + 1) (by omega) hlt (by omega)
                      rw [hpL] at this
                      have e : L.getD q' .empty = L[q'] := by simp [List.getD, show q' < L.length by omega]
                      rw [e]
                      exact this
                    clear hp hpL
                    go_wp2_with fail
                    refine (MRead p hMq hOkk).mono ?_
                    rintro e wr1 ⟨rfl, hMr, hBr⟩
                    have hvr := (hvq.below hBr (Nat.le_refl _)).mono hBr.size
                    clear hMq hvq hBr
                    have hpb : p.size ≤ 9223372036854775807 := by omega
                    have HI : Hid (Pm.isP (bs p) = true) := hpi
                    by_cases hq0 : q = 0
                    case' pos => subst hq0
                    case' neg =>
                      obtain ⟨q', rfl⟩ : ∃ q', q = q' + 1 := ⟨q - 1, by omega⟩
                      have i8 : (q' : Int) ≤ 9223372036854775807 := by omega
                      have i6 : (q' : Int) < (L.length : Int) := by omega
                      have pw : wr1.cell? ⟨b, o + q', none⟩ = some (.string (L.getD q' .empty)) := by
                        obtain ⟨b2, o2, c2, e2, -, p00⟩ := StR.at hvr q' (by omega)
                        simp only [Value.slice.injEq, Option.some.injEq, Addr.mk.injEq] at e2
                        obtain ⟨⟨rfl, rfl, -⟩, -⟩ := e2
                        exact p00
                      have hls := HPrev.out q' rfl
                      generalize L.getD q' .empty = pp at pw hls
                    all_goals clear HPrev hup hpth hsame
                    all_goals go_wp2_with fail
                    all_goals refine (Is_any p _ hpb).mono ?_
                    all_goals rintro e wr2 ⟨rfl, hB2⟩
                    all_goals rw [HI.out]
                    all_goals have hM2 := hMr.below hB2
                    all_goals have hv3 := (hvr.below hB2 (Nat.le_refl _)).mono hB2.size
                    all_goals clear hMr hvr hB2
                    all_goals
                      rcases HRd.out with ⟨s, hlk, hrd⟩ | ⟨hlk, hrd⟩
                      · rw [hrd]
                        rw [hlk] at HNx
                        obtain ⟨wr3, n2, hst, hn2, hMs, htn⟩ := MStore hM2 Try.underlying55 (by omega) s hpz
                        have hvs := sl_turned hv3 htn
                        clear hM2 hv3 htn hlk hrd
                        go_wp2
                        exact ⟨⟨_, hlt, by go_num, ⟨n2, by omega, by rw [HNx.out]; exact hMs⟩, hvs⟩, by simp [intOf]; omega⟩
                      · rw [hrd]
                        rw [hlk] at HNx
                        obtain ⟨wr3, n2, hst, hn2, hMs, htn⟩ := MDrop hM2 Try.underlying55 hpz 0
                        have hvs := sl_turned hv3 htn
                        clear hM2 hv3 htn hlk hrd
                        go_wp2
                        exact ⟨⟨_, hlt, by go_num, ⟨n2, by omega, by rw [HNx.out]; exact hMs⟩, hvs⟩, by simp [intOf]; omega⟩
                  · obtain rfl : q = L.length := by omega
                    have i5 : ¬ (L.length : Int) < (L.length : Int) := by omega
                    rw [List.take_length, Tm.mix_all hsame] at hMq
                    have hn := hMq.2.2.2.eq (Tm.Count.files hOkk.rise)
                    subst hn
                    clear hvq hv2 hM20 hsame hup hpth hn0
                    have m1 : ((t.files.length : Int) != (t.files.length : Int)) = false := by simp
                    go_wp2_with fail
                    refine (MListed ⟨#[]⟩ hMq hOkk).mono ?_
                    rintro e w30 ⟨v3, rfl, hv3, hM30, -⟩
                    rw [show Tm.list t ⟨#[]⟩ = t.files.map Tm.Fl.path from Tm.list_all _] at hv3
                    obtain ⟨ad3, c3, hve3, -⟩ := hv3.shape
                    subst hve3
                    rw [List.length_map] at hv3 ⊢
                    have hln := hM30.2.1.len Try.underlying55 3
                    clear hMq
                    go_wp2_with fail
                    refine (MLen hM30 hOkk).mono ?_
                    rintro e w31 ⟨rfl, hM31, hB31⟩
                    have hln2 := hM31.2.1.len Try.underlying55 3
                    have hv4 := (hv3.below hB31 (Nat.le_refl _)).mono hB31.size
                    clear hM30 hv3 hB31 hln
                    go_wp2_with fail
                    clear hln2
                    go_loopw [191] (fun i W => ∃ q : Nat, q ≤ t.files.length ∧ i = .int .i64 (q : Int) ∧ MS w W g t w3.heap.size t.files.length (Tm.look t.files) ∧ StR.Sl W W.heap.size (.slice ad3 t.files.length c3) (t.files.map Tm.Fl.path)) (fun i _ => t.files.length - (intOf i).toNat)
                    case atStart => exact ⟨0, Nat.zero_le _, rfl, hM31, hv4⟩
                    case round =>
                      obtain ⟨q, hq, rfl, hMq, hvq⟩ := hrel
                      by_cases hlt : q < t.files.length
                      · obtain ⟨b, o, c', e, hb, p0⟩ := StR.at hvq q (by rw [List.length_map]; exact hlt)
                        simp only [Value.slice.injEq] at e
                        obtain ⟨rfl, -, rfl⟩ := e
                        have i5 : (q : Int) < (t.files.length : Int) := by omega
                        obtain ⟨fl, hfl⟩ : ∃ fl, t.files[q] = fl := ⟨_, rfl⟩
                        have hfm : fl ∈ t.files := by rw [← hfl]; exact List.getElem_mem hlt
                        have hgd : (t.files.map Tm.Fl.path).getD q .empty = fl.path := by rw [← hfl]; simp [List.getD, hlt]
                        rw [hgd] at p0
                        have HRd : Hid (Tm.read t fl.path = (fl.text, 0)) := Tm.read_yes hOkk.rise (hOkk.path _ hfm).1 hfm
                        have hpz : fl.path.size ≤ 1099511627 := path_small (hOkk.path _ hfm).1
                        have hlk : Tm.look t.files fl.path = some fl.text := (Tm.look_iff hOkk.rise).2 hfm
                        have m2 : (fl.text.toList != fl.text.toList) = false := by simp
                        clear hfm hgd hfl
                        go_wp2_with fail
                        refine (MRead fl.path hMq hOkk).mono ?_
                        rintro e w40 ⟨rfl, hM40, hB40⟩
                        rw [HRd.out]
                        have hv5 := (hvq.below hB40 (Nat.le_refl _)).mono hB40.size
                        have hlo := hM40.2.1.look Try.underlying55 hpz
                        rw [hlk] at hlo
                        clear hMq hvq hB40 hlk
                        go_wp2
                        exact ⟨⟨q + 1, by omega, by go_num, hM40, hv5⟩, by simp [intOf]; omega⟩
                      · obtain rfl : q = t.files.length := by omega
                        have i5 : ¬ (t.files.length : Int) < (t.files.length : Int) := by omega
                        have hBz := hMq.base
                        go_wp2
                        go_ret
                        exact ⟨rfl, hBz⟩
      · have i2 : ((j : Int) == (kk : Int)) = false := by simp; omega
        have hp2 := hph.not hjk
        clear hph hjk hM
        by_cases hlt : j < l.length
        · have i3 : ((j : Int) == (l.length : Int)) = false := by simp; omega
          obtain ⟨b, o, c', e, hb, p0, p1, p2, p3⟩ := OpR.at (hv.below hMj.base hB) j hlt
          simp only [Value.slice.injEq] at e
          obtain ⟨rfl, -, rfl⟩ := e
          have i4 : (j : Int) < (l.length : Int) := by omega
          have HNX : Hid _ := hp2.next hlt hOkk
          have HST : Hid _ := Tm.play_take l j hlt
          have hck : (Tm.play (l.take j)).chs.length < 10000000 := by rw [List.length_take] at hchs; omega
          clear hp2
          generalize l.getD j Tm.noOp = op at *
          clear hchs
          generalize Tm.play (l.take j) = t at hMj hOkk hck HST ⊢
          have hbx := heap_alloc_new wr (.cells #[.int .i64 op.kind, .string op.path, .string op.text, .int .i64 op.n] 41)
          obtain ⟨Wc, hWc⟩ : ∃ Wc, wr.alloc (.cells #[.int .i64 op.kind, .string op.path, .string op.text, .int .i64 op.n] 41) = Wc := ⟨_, rfl⟩
          rw [hWc] at hbx
          have hMc : MS w Wc g t w3.heap.size n f := by rw [← hWc]; exact hMj.below ((Below.refl _ _).alloc (Nat.le_refl _) _)
          have k0 := (cell_of_row Wc wr.heap.size 0 _ 41 (0, 0) hbx).trans rfl
          have k1 := (cell_of_row Wc wr.heap.size 1 _ 41 (0, 0) hbx).trans rfl
          have k2 := (cell_of_row Wc wr.heap.size 2 _ 41 (0, 0) hbx).trans rfl
          clear hbx hMj
          by_cases e0 : op.kind = 0
          · have q0 : (op.kind == 0) = true := by simp [e0]
            have HE : Hid _ := Tm.step_write (t := t) e0
            clear e0
            go_wp2_with fail
            refine (MWrite op.path op.text hMc hOkk).mono ?_
            rintro e w5 ⟨rfl, hM5⟩
            go_wp2
            exact ⟨⟨j + 1, by omega, by go_num, n, f, mk, rfl, by rw [HST.out, HE.out]; exact hM5, HNX.out⟩, by simp [intOf]; omega⟩
          have q0 : (op.kind == 0) = false := by simp [e0]
          by_cases e1 : op.kind = 1
          · have q1 : (op.kind == 1) = true := by simp [e1]
            have HE : Hid _ := Tm.step_remove (t := t) e1
            clear e0 e1
            go_wp2_with fail
            refine (MRemove op.path hMc hOkk).mono ?_
            rintro e w5 ⟨rfl, hM5⟩
            go_wp2
            exact ⟨⟨j + 1, by omega, by go_num, n, f, mk, rfl, by rw [HST.out, HE.out]; exact hM5, HNX.out⟩, by simp [intOf]; omega⟩
          have q1 : (op.kind == 1) = false := by simp [e1]
          have HE : Hid _ := Tm.step_other (t := t) e0 e1
          clear e0 e1
          go_wp2
          exact ⟨⟨j + 1, by omega, by go_num, n, f, mk, rfl, by rw [HST.out, HE.out]; exact hMc, HNX.out⟩, by simp [intOf]; omega⟩
        · obtain rfl : j = l.length := by omega
          have i3 : ((l.length : Int) == (l.length : Int)) = true := by simp
          obtain ⟨t0, hmk0, hf0, hOk0, hP⟩ := hp2.last (by omega) (by omega)
          subst hmk0
          subst hf0
          rw [List.take_length] at hMj hOkk hchs
          have hcl : (Tm.play l).chs.length ≤ 400 := by omega
          have hcl0 := hP.le
          have hn0 := hMj.2.2.2.eq (Tm.Count.files hOk0.rise)
          have hfew0 := hOk0.few
          clear hp2 hchs hv hz
          generalize Tm.play l = t at *
          have hfew := hOkk.few
          go_wp2_with fail
          refine (MSince (t0.chs.length : Int) hMj hOkk).mono ?_
          rintro e w20 ⟨v2, rfl, hv2, hM20, -⟩
          clear hMj
          rcases hP.since with ⟨h32, hs⟩ | ⟨L, hs, hL32, hup, hpth, hsame⟩
          · rw [hs] at hv2 ⊢
            obtain ⟨adv, cv, hve, -⟩ := hv2.shape
            subst hve
            clear hs hv2
            go_wp2_with fail
            refine (MMark hM20 hOkk).mono ?_
            rintro e w21 ⟨rfl, hM21, -⟩
            have hBz := hM21.base
            go_wp2
            go_ret
            exact ⟨rfl, hBz⟩
          · rw [hs] at hv2 ⊢
            obtain ⟨adv, cv, hve, -⟩ := hv2.shape
            subst hve
            clear hs
            go_wp2_with fail
            go_loopw [133] (fun i W => ∃ q : Nat, q ≤ L.length ∧ i = .int .i64 (q : Int) ∧ (∃ n, n ≤ 256 + q ∧ MS w W g t w3.heap.size n (Tm.mix (L.take q) (Tm.look t.files) (Tm.look t0.files))) ∧ StR.Sl W W.heap.size (.slice adv L.length cv) L) (fun i _ => L.length - (intOf i).toNat)
            case atStart => exact ⟨0, Nat.zero_le _, rfl, ⟨n, by omega, by rw [List.take_zero, Tm.mix_nil]; exact hM20⟩, hv2⟩
            case round =>
              obtain ⟨q, hq, rfl, ⟨n, hnq, hMq⟩, hvq⟩ := hrel
              by_cases hlt : q < L.length
              · obtain ⟨b, o, c', e, hb, p0⟩ := StR.at hvq q hlt
                simp only [Value.slice.injEq] at e
                obtain ⟨rfl, -, rfl⟩ := e
                have i5 : (q : Int) < (L.length : Int) := by omega
                obtain ⟨p, hp⟩ : ∃ p, L.getD q .empty = p := ⟨_, rfl⟩
                have hpL : L[q] = p := by rw [← hp]; simp [List.getD, hlt]
                rw [hp] at p0
                have hpi : Tm.isPath p = true := hpth p (by rw [← hpL]; exact List.getElem_mem hlt)
                have hpz := path_small hpi
                have HNx : Hid (Tm.mix (L.take (q + 1)) (Tm.look t.files) (Tm.look t0.files) = updS (Tm.mix (L.take q) (Tm.look t.files) (Tm.look t0.files)) p (Tm.look t.files p)) := by
                  show _ = _
                  rw [List.take_succ_eq_append_getElem hlt, hpL, Tm.mix_snoc]
                  rfl
                have HRd : Hid ((∃ s, Tm.look t.files p = some s ∧ Tm.read t p = (s, 0)) ∨ (Tm.look t.files p = none ∧ Tm.read t p = (.empty, 4))) := by
                  rcases Tm.read_cases hOkk p with ⟨h1, -⟩ | ⟨-, h1, h2⟩ | ⟨-, s, h1, h2⟩
                  · rw [hpi] at h1; cases h1
                  · exact .inr ⟨Tm.look_none.2 h1, h2⟩
                  · exact .inl ⟨s, (Tm.look_iff hOkk.rise).2 h1, h2⟩
                have HPrev : Hid (∀ q', q = q' + 1 → Op.bytesLess (L.getD q' .empty).toList p.toList = true) := by
                  rintro q' rfl
                  have := List.pairwise_iff_getElem.1 hup q' (q' + 1) (by omega) hlt (by omega)
                  rw [hpL] at this
                  have e : L.getD q' .empty = L[q'] := by simp [List.getD, show q' < L.length by omega]
                  rw [e]
                  exact this
                clear hp hpL
                go_wp2_with fail
                refine (MRead p hMq hOkk).mono ?_
                rintro e wr1 ⟨rfl, hMr, hBr⟩
                have hvr := (hvq.below hBr (Nat.le_refl _)).mono hBr.size
                clear hMq hvq hBr
                have hpb : p.size ≤ 9223372036854775807 := by omega
                have HI : Hid (Pm.isP (bs p) = true) := hpi
                by_cases hq0 : q = 0
                case' pos => subst hq0
                case' neg =>
                  obtain ⟨q', rfl⟩ : ∃ q', q = q' + 1 := ⟨q - 1, by omega⟩
                  have i8 : (q' : Int) ≤ 9223372036854775807 := by omega
                  have i6 : (q' : Int) < (L.length : Int) := by omega
                  have pw : wr1.cell? ⟨b, o + q', none⟩ = some (.string (L.getD q' .empty)) := by
                    obtain ⟨b2, o2, c2, e2, -, p00⟩ := StR.at hvr q' (by omega)
                    simp only [Value.slice.injEq, Option.some.injEq, Addr.mk.injEq] at e2
                    obtain ⟨⟨rfl, rfl, -⟩, -⟩ := e2
                    exact p00
                  have hls := HPrev.out q' rfl
                  generalize L.getD q' .empty = pp at pw hls
                all_goals clear HPrev hup hpth hsame
                all_goals go_wp2_with fail
                all_goals refine (Is_any p _ hpb).mono ?_
                all_goals rintro e wr2 ⟨rfl, hB2⟩
                all_goals rw [HI.out]
                all_goals have hM2 := hMr.below hB2
                all_goals have hv3 := (hvr.below hB2 (Nat.le_refl _)).mono hB2.size
                all_goals clear hMr hvr hB2
                all_goals
                  rcases HRd.out with ⟨s, hlk, hrd⟩ | ⟨hlk, hrd⟩
                  · rw [hrd]
                    rw [hlk] at HNx
                    obtain ⟨wr3, n2, hst, hn2, hMs, htn⟩ := MStore hM2 Try.underlying55 (by omega) s hpz
                    have hvs := sl_turned hv3 htn
                    clear hM2 hv3 htn hlk hrd
                    go_wp2
                    exact ⟨⟨_, hlt, by go_num, ⟨n2, by omega, by rw [HNx.out]; exact hMs⟩, hvs⟩, by simp [intOf]; omega⟩
                  · rw [hrd]
                    rw [hlk] at HNx
                    obtain ⟨wr3, n2, hst, hn2, hMs, htn⟩ := MDrop hM2 Try.underlying55 hpz 0
                    have hvs := sl_turned hv3 htn
                    clear hM2 hv3 htn hlk hrd
                    go_wp2
                    exact ⟨⟨_, hlt, by go_num, ⟨n2, by omega, by rw [HNx.out]; exact hMs⟩, hvs⟩, by simp [intOf]; omega⟩
              · obtain rfl : q = L.length := by omega
                have i5 : ¬ (L.length : Int) < (L.length : Int) := by omega
                rw [List.take_length, Tm.mix_all hsame] at hMq
                have hn := hMq.2.2.2.eq (Tm.Count.files hOkk.rise)
                subst hn
                clear hvq hv2 hM20 hsame hup hpth hn0
                have m1 : ((t.files.length : Int) != (t.files.length : Int)) = false := by simp
                go_wp2_with fail
                refine (MListed ⟨#[]⟩ hMq hOkk).mono ?_
                rintro e w30 ⟨v3, rfl, hv3, hM30, -⟩
                rw [show Tm.list t ⟨#[]⟩ = t.files.map Tm.Fl.path from Tm.list_all _] at hv3
                obtain ⟨ad3, c3, hve3, -⟩ := hv3.shape
                subst hve3
                rw [List.length_map] at hv3 ⊢
                have hln := hM30.2.1.len Try.underlying55 3
                clear hMq
                go_wp2_with fail
                refine (MLen hM30 hOkk).mono ?_
                rintro e w31 ⟨rfl, hM31, hB31⟩
                have hln2 := hM31.2.1.len Try.underlying55 3
                have hv4 := (hv3.below hB31 (Nat.le_refl _)).mono hB31.size
                clear hM30 hv3 hB31 hln
                go_wp2_with fail
                clear hln2
                go_loopw [191] (fun i W => ∃ q : Nat, q ≤ t.files.length ∧ i = .int .i64 (q : Int) ∧ MS w W g t w3.heap.size t.files.length (Tm.look t.files) ∧ StR.Sl W W.heap.size (.slice ad3 t.files.length c3) (t.files.map Tm.Fl.path)) (fun i _ => t.files.length - (intOf i).toNat)
                case atStart => exact ⟨0, Nat.zero_le _, rfl, hM31, hv4⟩
                case round =>
                  obtain ⟨q, hq, rfl, hMq, hvq⟩ := hrel
                  by_cases hlt : q < t.files.length
                  · obtain ⟨b, o, c', e, hb, p0⟩ := StR.at hvq q (by rw [List.length_map]; exact hlt)
                    simp only [Value.slice.injEq] at e
                    obtain ⟨rfl, -, rfl⟩ := e
                    have i5 : (q : Int) < (t.files.length : Int) := by omega
                    obtain ⟨fl, hfl⟩ : ∃ fl, t.files[q] = fl := ⟨_, rfl⟩
                    have hfm : fl ∈ t.files := by rw [← hfl]; exact List.getElem_mem hlt
                    have hgd : (t.files.map Tm.Fl.path).getD q .empty = fl.path := by rw [← hfl]; simp [List.getD, hlt]
                    rw [hgd] at p0
                    have HRd : Hid (Tm.read t fl.path = (fl.text, 0)) := Tm.read_yes hOkk.rise (hOkk.path _ hfm).1 hfm
                    have hpz : fl.path.size ≤ 1099511627 := path_small (hOkk.path _ hfm).1
                    have hlk : Tm.look t.files fl.path = some fl.text := (Tm.look_iff hOkk.rise).2 hfm
                    have m2 : (fl.text.toList != fl.text.toList) = false := by simp
                    clear hfm hgd hfl
                    go_wp2_with fail
                    refine (MRead fl.path hMq hOkk).mono ?_
                    rintro e w40 ⟨rfl, hM40, hB40⟩
                    rw [HRd.out]
                    have hv5 := (hvq.below hB40 (Nat.le_refl _)).mono hB40.size
                    have hlo := hM40.2.1.look Try.underlying55 hpz
                    rw [hlk] at hlo
                    clear hMq hvq hB40 hlk
                    go_wp2
                    exact ⟨⟨q + 1, by omega, by go_num, hM40, hv5⟩, by simp [intOf]; omega⟩
                  · obtain rfl : q = t.files.length := by omega
                    have i5 : ¬ (t.files.length : Int) < (t.files.length : Int) := by omega
                    have hBz := hMq.base
                    go_wp2
                    go_ret
                    exact ⟨rfl, hBz⟩
end Go.Proofs.Ytifolddmcibkdaa
