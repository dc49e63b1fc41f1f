/-
  THE WALK OF TreeKeeps.
-/
import Derived.Test.YtifolddmcibkdaaLKept
import Derived.Test.YtifolddmcibkdaaLWorks
import Derived.Test.YtifolddmcibkdaaPXS
namespace Go.Proofs.Ytifolddmcibkdaa
open Go.RowKit

set_option maxRecDepth 100000 in
set_option maxHeartbeats 8000000 in
theorem keeps_walk (hCopy : CopyDoes) (v : Value) (l : List Tm.Op) (B : Nat) (p s : ByteArray) (w : World) (hv : OpR.Sl w B v l) (hB : B ≤ w.heap.size) (hz : Tm.Sized l) (hpz : p.size ≤ 9223372036854775807) :
    Calls Try.prog 7 #[v, .string p, .string s] w fun e w' => e = .returned (.bool true) ∧ Below w.heap.size w w' := by
  obtain ⟨ad, c, rfl, hle⟩ := hv.shape
  go_enter Try.func7, Try.ntmps7
  go_wp2_with fail
  refine (works_true _).mono ?_
  rintro e w1 ⟨rfl, hB1⟩
  go_wp2_with fail
  refine (long_any w1 B _ l (hv.below hB1 hB) hz).mono ?_
  rintro e w2 ⟨_, rfl, ⟨lb, rfl, hlb⟩, hB2⟩
  have hC2 := hB1.trans (hB2.mono hB1.size)
  clear hB1 hB2
  cases lb with
  | true =>
    go_wp2
    go_ret
    exact ⟨rfl, hC2⟩
  | false =>
  obtain ⟨hc, -⟩ := hlb rfl
  clear hlb
  by_cases hl2 : (400 : Int) < (l.length : Int)
  · go_wp2
    go_ret
    exact ⟨rfl, hC2⟩
  by_cases i3 : (1048576 : Int) < (s.size : Int)
  · go_wp2
    go_ret
    exact ⟨rfl, hC2⟩
  go_wp2_with fail
  refine (New_any _).mono ?_
  rintro e w3 ⟨g, S, rfl, hT, hS, hB3⟩
  have hO : One w w3 g (Tm.play (l.take 0)) [] := ⟨S, hT, fun b hb => ⟨Nat.le_trans hC2.size (hS b hb), by simp⟩, by simp, hC2.trans (hB3.mono hC2.size)⟩
  clear hT hS hB3 hC2
  go_wp2_with fail
  go_loopw [9, 45] (fun _ i wr => ∃ k : Nat, k ≤ l.length ∧ i = .int .i64 (k : Int) ∧ One w wr g (Tm.play (l.take k)) []) (fun _ i _ => l.length - (intOf i).toNat)
  case atStart => exact ⟨0, Nat.zero_le _, rfl, hO⟩
  case round =>
    obtain ⟨k, hk, rfl, hOk⟩ := hrel
    have hBk := hOk.base
    obtain ⟨hOkk, hchs⟩ := Tm.play_ok (l.take k) (by rw [List.length_take]; omega)
    by_cases hlt : k < l.length
    · obtain ⟨b, o, c', e, hb, p0, p1, p2, p3⟩ := OpR.at (hv.below hBk hB) k hlt
      simp only [Value.slice.injEq] at e
      obtain ⟨rfl, -, rfl⟩ := e
      have i1 : (k : Int) < (l.length : Int) := by omega
      have HST : Hid _ := Tm.play_take l k hlt
      have hcm := Tm.cost_mem (l := l) (o := l.getD k Tm.noOp) (by simp [List.getD, List.getElem?_eq_getElem hlt])
      generalize l.getD k Tm.noOp = op at *
      have hck : (Tm.play (l.take k)).chs.length < 10000000 := by rw [List.length_take] at hchs; omega
      generalize Tm.play (l.take k) = t at *
      -- the call's own copy of the record
      have hbx := heap_alloc_new wr (.cells #[.int .i64 op.kind, .string op.path, .string op.text, .int .i64 op.n] 41)
      obtain ⟨Wc, hWc⟩ : ∃ Wc, wr.alloc (.cells #[.int .i64 op.kind, .string op.path, .string op.text, .int .i64 op.n] 41) = Wc := ⟨_, rfl⟩
      rw [hWc] at hbx
      have hOc : One w Wc g t [] := by rw [← hWc]; exact (hOk.below ((Below.refl _ _).alloc (Nat.le_refl _) _)).1
      have k0 := (cell_of_row Wc wr.heap.size 0 _ 41 (0, 0) hbx).trans rfl
      have k1 := (cell_of_row Wc wr.heap.size 1 _ 41 (0, 0) hbx).trans rfl
      have k2 := (cell_of_row Wc wr.heap.size 2 _ 41 (0, 0) hbx).trans rfl
      clear hbx
      by_cases e0 : op.kind = 0
      · have q0 : (op.kind == 0) = true := by simp [e0]
        have HE : Hid _ := Tm.step_write (t := t) e0
        clear e0
        go_wp2_with fail
        refine (OWrite g t [] op.path op.text _ hOc hOkk).mono ?_
        rintro e w5 ⟨rfl, hO5, -⟩
        go_wp2
        exact ⟨⟨k + 1, by omega, by go_num, by rw [HST.out, HE.out]; exact hO5⟩, by simp [intOf]; omega⟩
      have q0 : (op.kind == 0) = false := by simp [e0]
      by_cases e1 : op.kind = 1
      · have q1 : (op.kind == 1) = true := by simp [e1]
        have HE : Hid _ := Tm.step_remove (t := t) e1
        clear e0 e1
        go_wp2_with fail
        refine (ORemove g t [] op.path _ hOc hOkk).mono ?_
        rintro e w5 ⟨rfl, hO5, -⟩
        go_wp2
        exact ⟨⟨k + 1, by omega, by go_num, by rw [HST.out, HE.out]; exact hO5⟩, by simp [intOf]; omega⟩
      have q1 : (op.kind == 1) = false := by simp [e1]
      have HE : Hid _ := Tm.step_other (t := t) e0 e1
      clear e0 e1
      go_wp2
      exact ⟨⟨k + 1, by omega, by go_num, by rw [HST.out, HE.out]; exact hOc⟩, by simp [intOf]; omega⟩
    · obtain rfl : k = l.length := by omega
      have i1 : ¬ (l.length : Int) < (l.length : Int) := by omega
      rw [List.take_length] at hOk hOkk hchs
      have hch : (Tm.play l).chs.length ≤ 400 := by omega
      clear hchs hv hz hBk
      generalize Tm.play l = t at *
      go_wp2_with fail
      refine (OCopy hCopy g t [] _ hOk hOkk).mono ?_
      rintro e w3 ⟨g2, S2, rfl, hT2, hO3, -, hB3⟩
      clear hOk hB3
      go_wp2_with fail
      refine (OListed2 g t _ ⟨#[]⟩ _ hO3 hOkk).mono ?_
      rintro e w4 ⟨v, rfl, hV, hO4, hB4⟩
      have hK4 : KS w w4 g t g2 t v (Tm.list t .empty) := ⟨S2, by simpa using hO4, hT2.below hB4, Rc.Own.low hV (Nat.zero_le _)⟩
      have hll : (Tm.list t .empty).length = t.files.length := by rw [Tm.list_all, List.length_map]
      have hfew := hOkk.few
      have HMem : Hid (∀ q ∈ Tm.list t .empty, ∃ u, (⟨q, u⟩ : Tm.Fl) ∈ t.files) := fun q hq => Tm.mem_list hq
      obtain ⟨L, hL⟩ : ∃ L, Tm.list t .empty = L := ⟨_, rfl⟩
      obtain ⟨adv, cv, hve, hlev⟩ := hV.sl.shape
      have hve' : v = .slice adv L.length cv := by rw [← hL]; exact hve
      clear hve
      subst hve'
      rw [hL] at hK4 hll HMem
      have hlev' : L.length ≤ cv := by rw [← hL]; exact hlev
      clear hlev
      have HL : Hid _ := hL
      have HLl : Hid _ := hll
      clear hll
      clear hO4 hT2 hV hB4 hO3 hL
      go_wp2_with fail
      refine (KMark hK4 hOkk).mono ?_
      rintro e w5 ⟨rfl, hK5, -⟩
      clear hK4
      go_wp2_with fail
      refine (KWrite p s hK5 hOkk).mono ?_
      rintro e w6 ⟨rfl, hK6⟩
      clear hK5
      by_cases hw0 : (Tm.write t p s).1 = 0
      · obtain ⟨hp, hs4, hmem, hsame⟩ := Tm.write_zero hOkk hw0
        have hOk6 := hOkk.write (by omega) p s
        rw [hw0]
        have HMm : Hid _ := hmem
        obtain ⟨t', ht'⟩ : ∃ t', (Tm.write t p s).2 = t' := ⟨_, rfl⟩
        rw [ht'] at hsame HMm hK6 hOk6
        clear ht' hmem hw0
        have hpS : (⟨p, s⟩ : Tm.Fl) ∈ t'.files := (HMm.out _).2 (.inl rfl)
        have HR : Hid _ := Tm.read_yes hOk6.rise hp hpS
        have HW : Hid _ := Tm.write_again hOk6 hp hpS
        obtain ⟨r1, r2, r3, -⟩ := Tm.remove_yes hOk6 hp hpS
        obtain ⟨t2, ht2⟩ : ∃ t2, (Tm.remove t' p).2 = t2 := ⟨_, rfl⟩
        have hck : t'.chs.length ≤ 401 := by
          rcases hsame with ⟨-, rfl⟩ | ⟨-, e⟩
          · omega
          · rw [e]; simp; omega
        have hOk7 := hOk6.remove (by omega) p
        rw [ht2] at r2 r3 hOk7
        have HX : Hid (Tm.remove t' p = (0, t2)) := by show _ = _; rw [← r1, ← ht2]
        have hno : ∀ u, (⟨p, u⟩ : Tm.Fl) ∉ t2.files := fun u hu => ((r2 _).1 hu).2 rfl
        have HX2 : Hid _ := Tm.remove_no hOk7 hp hno
        have HR2 : Hid _ := Tm.read_no hOk7.rise hp hno
        have hc2 : t2.chs.length = t'.chs.length + 1 := by rw [r3]; simp
        have HQ : Hid (∀ q ∈ L, q ≠ p → ∃ u, Tm.read t q = (u, 0) ∧ Tm.read t' q = (u, 0)) := fun q hq hqp => by
          obtain ⟨u, hu⟩ := HMem.out q hq
          exact ⟨u, Tm.read_yes hOkk.rise (hOkk.path _ hu).1 hu, Tm.read_yes hOk6.rise (hOkk.path _ hu).1 ((HMm.out _).2 (.inr ⟨hu, hqp⟩))⟩
        have hss : (s.toList == s.toList) = true := by simp
        have hsn : (s.toList != s.toList) = false := by simp
        have hcase : (∃ u : ByteArray, u = s ∧ Tm.read t p = (u, 0) ∧ t'.chs.length = t.chs.length) ∨ (Tm.read t p = (.empty, 4) ∧ t'.chs.length = t.chs.length + 1) ∨ (∃ u, u ≠ s ∧ Tm.read t p = (u, 0) ∧ t'.chs.length = t.chs.length + 1) := by
          rcases hsame with ⟨hin, rfl⟩ | ⟨hin, e⟩
          · exact .inl ⟨s, rfl, Tm.read_yes hOkk.rise hp hin, rfl⟩
          · have hl1 : t'.chs.length = t.chs.length + 1 := by rw [e]; simp
            rcases Tm.read_cases hOkk p with ⟨h1, -⟩ | ⟨-, -, h2⟩ | ⟨-, u, hu, h2⟩
            · rw [hp] at h1; cases h1
            · exact .inr (.inl ⟨h2, hl1⟩)
            · exact .inr (.inr ⟨u, fun e => hin (by rw [← e]; exact hu), h2, hl1⟩)
        have hLb : L.length ≤ 256 := by rw [HLl.out]; exact hfew
        clear hsame HMm hpS r1 r2 r3 ht2 hno HMem HL HLl hp
        go_wp2_with fail
        refine (KRead2 p hK6 hOkk).mono ?_
        rintro e w7 ⟨rfl, hK7, -⟩
        clear hK6
        have m2 : ((t'.chs.length : Int) == (t'.chs.length : Int)) = true := by simp
        have m3 : ((t'.chs.length : Int) != (t'.chs.length : Int)) = false := by simp
        rcases hcase with ⟨u, rfl, hrd, hcl⟩ | ⟨hrd, hcl⟩ | ⟨u, hus, hrd, hcl⟩
        all_goals rw [hrd]
        case' inl =>
          have n1 : ((t'.chs.length : Int) != (t.chs.length : Int)) = false := by rw [hcl]; simp
          have n2 : ((t'.chs.length : Int) != (t.chs.length : Int) + 1) = true := by rw [hcl]; simp; omega
        case' inr.inl =>
          have n1 : ((t'.chs.length : Int) != (t.chs.length : Int)) = true := by rw [hcl]; simp; omega
          have n2 : ((t'.chs.length : Int) != (t.chs.length : Int) + 1) = false := by rw [hcl]; simp
        case' inr.inr =>
          have n1 : ((t'.chs.length : Int) != (t.chs.length : Int)) = true := by rw [hcl]; simp; omega
          have n2 : ((t'.chs.length : Int) != (t.chs.length : Int) + 1) = false := by rw [hcl]; simp
          have n3 : (u.toList == s.toList) = false := by
            rw [beq_eq_false_iff_ne, ByteArray.toList_eq, ByteArray.toList_eq]
            exact fun h => hus (ByteArray.ext (Array.toList_inj.1 h))
        case' inr.inr => clear hus
        all_goals clear hrd hcl
        all_goals go_wp2_with fail
        all_goals refine (KRead p hK7 hOk6).mono ?_
        all_goals rintro e w8 ⟨rfl, hK8, -⟩
        all_goals rw [HR.out]
        all_goals go_wp2_with fail
        all_goals refine (KMark hK8 hOk6).mono ?_
        all_goals rintro e w9 ⟨rfl, hK9, -⟩
        all_goals go_wp2_with fail
        all_goals refine (KMark hK9 hOk6).mono ?_
        all_goals rintro e w10 ⟨rfl, hK10, -⟩
        all_goals clear hK7 hK8 hK9
        all_goals go_wp2_with fail
        all_goals refine (KMark hK10 hOk6).mono ?_
        all_goals rintro e w11 ⟨rfl, hK11, -⟩
        all_goals clear n1 n2
        all_goals go_wp2_with fail
        all_goals refine (KWrite p _ hK11 hOk6).mono ?_
        all_goals rintro e w12 ⟨rfl, hK12⟩
        all_goals rw [HW.out] at hK12 ⊢
        all_goals go_wp2_with fail
        all_goals refine (KMark hK12 hOk6).mono ?_
        all_goals rintro e w13 ⟨rfl, hK13, -⟩
        all_goals clear hK10 hK11 hK12
        all_goals go_wp2_with fail
        all_goals
          go_loopw [195] (fun i wr => ∃ k : Nat, k ≤ L.length ∧ i = .int .i64 (k : Int) ∧ KS w wr g t' g2 t (.slice adv L.length cv) L) (fun i _ => L.length - (intOf i).toNat)
          case atStart => exact ⟨0, Nat.zero_le _, rfl, hK13⟩
          case round =>
            obtain ⟨k, hk, rfl, hKk⟩ := hrel
            by_cases hlt : k < L.length
            · obtain ⟨b, o, c', e, hb, p0⟩ := StR.at hKk.sl k hlt
              simp only [Value.slice.injEq] at e
              obtain ⟨rfl, -, rfl⟩ := e
              have i4 : (k : Int) < (L.length : Int) := by omega
              have HQk : Hid _ := HQ.out (L.getD k .empty) (by simp [List.getD, List.getElem?_eq_getElem hlt])
              generalize L.getD k .empty = q at *
              by_cases hqp : q = p
              · subst hqp
                have q1 : (q.toList != q.toList) = false := by simp
                go_wp2_with fail
                refine (KRead2 q hKk hOkk).mono ?_
                rintro e w14 ⟨rfl, hK14, -⟩
                go_wp2_with fail
                refine (KRead q hK14 hOk6).mono ?_
                rintro e w15 ⟨rfl, hK15, -⟩
                generalize Tm.read t q = x1
                generalize Tm.read t' q = x2
                go_wp2
                exact ⟨⟨k + 1, by omega, by go_num, hK15⟩, by simp [intOf]; omega⟩
              · have q1 : (q.toList != p.toList) = true := by
                  rw [bne_iff_ne, ne_eq, ByteArray.toList_eq, ByteArray.toList_eq]
                  exact fun h => hqp (ByteArray.ext (Array.toList_inj.1 h))
                obtain ⟨u', hu1, hu2⟩ := HQk.out hqp
                have q2 : (u'.toList != u'.toList) = false := by simp
                clear hqp
                go_wp2_with fail
                refine (KRead2 q hKk hOkk).mono ?_
                rintro e w14 ⟨rfl, hK14, -⟩
                rw [hu1]
                go_wp2_with fail
                refine (KRead q hK14 hOk6).mono ?_
                rintro e w15 ⟨rfl, hK15, -⟩
                rw [hu2]
                go_wp2
                all_goals exact ⟨⟨k + 1, by omega, by go_num, hK15⟩, by simp [intOf]; omega⟩
            · obtain rfl : k = L.length := by omega
              have i4 : ¬ (L.length : Int) < (L.length : Int) := by omega
              have n4 : ((t2.chs.length : Int) != (t'.chs.length : Int) + 1) = false := by rw [hc2]; simp
              go_wp2_with fail
              refine (KRemove p hKk hOk6).mono ?_
              rintro e w14 ⟨rfl, hK14⟩
              rw [HX.out] at hK14 ⊢
              go_wp2_with fail
              refine (KRemove p hK14 hOk7).mono ?_
              rintro e w15 ⟨rfl, hK15⟩
              rw [HX2.out] at hK15 ⊢
              go_wp2_with fail
              refine (KMark hK15 hOk7).mono ?_
              rintro e w16 ⟨rfl, hK16, -⟩
              go_wp2_with fail
              refine (KRead p hK16 hOk7).mono ?_
              rintro e w17 ⟨rfl, hK17, -⟩
              rw [HR2.out]
              have hBz := hK17.base
              go_wp2
              go_ret
              exact ⟨rfl, hBz⟩
      · obtain ⟨he2, hcase⟩ := Tm.write_not hw0
        rw [he2] at hK6
        have HI : Hid (Pm.isP (bs p) = Tm.isPath p) := rfl
        have hll2 : L.length ≤ 100000000 := by rw [HLl.out]; omega
        have m1 : ((t.chs.length : Int) == (t.chs.length : Int)) = true := by simp
        rcases hcase with ⟨e1, hp⟩ | ⟨e1, hp, hs4⟩ | ⟨e1, hp, hl256⟩
        all_goals rw [e1]
        all_goals rw [hp] at HI
        all_goals clear he2 hw0 e1 hp
        case' inl => have f1 : True := trivial
        case' inr.inl => have f1 : (4096 : Int) < (s.size : Int) := by omega
        case' inr.inr => have f1 : ((L.length : Int) == 256) = true := by rw [HLl.out, hl256]; rfl
        case' inr.inr => clear hl256
        all_goals go_wp2_with fail
        all_goals refine (KListed ⟨#[]⟩ hK6 hOkk).mono ?_
        all_goals rintro e w7 ⟨v2, rfl, hv2, hK7⟩
        all_goals rw [show Tm.list t ⟨#[]⟩ = L from HL.out] at hv2
        all_goals obtain ⟨ad2, c2, hve, -⟩ := hv2.shape
        all_goals subst hve
        all_goals go_wp2_with fail
        all_goals refine (KMark hK7 hOkk).mono ?_
        all_goals rintro e w8 ⟨rfl, hK8, hB8⟩
        all_goals go_wp2_with fail
        all_goals refine (texts_any w8 w8.heap.size _ _ L L hK8.sl ((hv2.below hB8 (Nat.le_refl _)).mono hB8.size) hll2).mono ?_
        all_goals rintro e w9 ⟨rfl, hB9⟩
        all_goals have hK9 := hK8.below hB9
        all_goals rw [decide_eq_true (rfl : L = L)]
        all_goals clear hK6 hK7 hK8 hB8 hB9 hv2
        all_goals go_wp2_with fail
        all_goals refine (Is_any p _ hpz).mono ?_
        all_goals rintro e w10 ⟨rfl, hB10⟩
        all_goals have hBz := hK9.base.trans (hB10.mono hK9.base.size)
        all_goals rw [HI.out]
        all_goals go_wp2
        all_goals go_ret
        all_goals exact ⟨rfl, hBz⟩

end Go.Proofs.Ytifolddmcibkdaa
