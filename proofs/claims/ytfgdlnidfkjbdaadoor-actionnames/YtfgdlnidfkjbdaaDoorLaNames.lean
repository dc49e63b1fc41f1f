/-
  ActionNames' walk.
-/
import Derived.Test.YtfgdlnidfkjbdaaDoorLiOwn
import Derived.Test.YtfgdlnidfkjbdaaDoorAcNames
import Derived.Test.YtfgdlnidfkjbdaaDoorASizeL
namespace Go.Proofs.YtfgdlnidfkjbdaaDoor
open Go.RowKit

theorem ownList {v : Value} {g : Nat} (h : g ∈ v.ownBlock.toList) : v.ownBlock = some g := by
  cases hv : v.ownBlock with
  | none => rw [hv] at h; simp at h
  | some x => rw [hv] at h; simp at h; rw [h]
/-- what Parse answers where the reading goes well, and where not -/
theorem ps_ok {ls : List (List (List UInt8))} {v : Value} {W : World} {a b c d : Nat} (hL : Laid W) (hv : LiS W W.heap.size v ls) (hF : Fit ls) (h : Ac.okLen ls = some (a, b, c, d)) : Calls Tryd.prog 11 #[v] W fun e w' => (∃ f va vc, e = .returned (.tuple #[.slice va a vc, .agg #[.int .i64 0, .int .i64 0]]) ∧ FoNew w' W.heap.size (.slice va a vc) f ∧ Ac.deepL f = b ∧ Ac.ht f = c ∧ Ac.size f = d) ∧ Below W.heap.size W w' := by
  obtain ⟨f, hp, hl, h2, h3, h4⟩ := Ac.okLen_is h
  have hP := Parse_any v ls _ W hL hv (Nat.le_refl _) hF
  rw [hp] at hP
  refine hP.mono ?_
  rintro e w' ⟨⟨va, vn, vc, rfl, hN⟩, hb⟩
  obtain ⟨ad', c', he, -⟩ := hN.foS.shape
  simp only [Value.slice.injEq] at he
  obtain ⟨rfl, rfl, rfl⟩ := he
  subst hl
  exact ⟨⟨f, va, vc, rfl, hN, h2, h3, h4⟩, hb⟩
theorem ps_bad {ls : List (List (List UInt8))} {v : Value} {W : World} {x : Int} {j : Nat} (hL : Laid W) (hv : LiS W W.heap.size v ls) (hF : Fit ls) (h : Ac.badAt ls = some (x, j)) : Calls Tryd.prog 11 #[v] W fun e w' => e = .returned (.tuple #[.slice none 0 0, .agg #[.int .i64 x, .int .i64 (j : Int)]]) ∧ Below W.heap.size W w' := by
  have hP := Parse_any v ls _ W hL hv (Nat.le_refl _) hF
  rw [Ac.badAt_is h] at hP
  exact hP
theorem lit_two (W : World) (s : List UInt8) (S : ByteArray) (hS : str s = S) : LiS (((W.alloc (.cells #[.string ⟨#[114, 101, 112, 101, 97, 116]⟩, .string S] 9)).alloc (.cells #[.string ⟨#[101, 110, 100]⟩] 9)).alloc (.cells #[.slice (some ⟨W.heap.size, 0, none⟩) 2 2, .slice (some ⟨W.heap.size + 1, 0, none⟩) 1 1] 32)) (((W.alloc (.cells #[.string ⟨#[114, 101, 112, 101, 97, 116]⟩, .string S] 9)).alloc (.cells #[.string ⟨#[101, 110, 100]⟩] 9)).alloc (.cells #[.slice (some ⟨W.heap.size, 0, none⟩) 2 2, .slice (some ⟨W.heap.size + 1, 0, none⟩) 1 1] 32)).heap.size (.slice (some ⟨W.heap.size + 1 + 1, 0, none⟩) 2 2) (Ac.rnLines s) ∧ Below W.heap.size W (((W.alloc (.cells #[.string ⟨#[114, 101, 112, 101, 97, 116]⟩, .string S] 9)).alloc (.cells #[.string ⟨#[101, 110, 100]⟩] 9)).alloc (.cells #[.slice (some ⟨W.heap.size, 0, none⟩) 2 2, .slice (some ⟨W.heap.size + 1, 0, none⟩) 1 1] 32)) := by
  subst hS
  obtain ⟨r0, r1, r2, hb3, hz3⟩ := Rw.three W #[.string ⟨#[114, 101, 112, 101, 97, 116]⟩, .string (str s)] #[.string ⟨#[101, 110, 100]⟩] #[.slice (some ⟨W.heap.size, 0, none⟩) 2 2, .slice (some ⟨W.heap.size + 1, 0, none⟩) 1 1] 9 9 32
  generalize (((W.alloc (.cells #[.string ⟨#[114, 101, 112, 101, 97, 116]⟩, .string (str s)] 9)).alloc (.cells #[.string ⟨#[101, 110, 100]⟩] 9)).alloc (.cells #[.slice (some ⟨W.heap.size, 0, none⟩) 2 2, .slice (some ⟨W.heap.size + 1, 0, none⟩) 1 1] 32)) = W3 at *
  exact ⟨LiS.ofRw (rs := [⟨some ⟨W.heap.size, 0, none⟩, 2, 2⟩, ⟨some ⟨W.heap.size + 1, 0, none⟩, 1, 1⟩]) r2 rfl rfl r2.lt ⟨_, _, rfl, Rc.ofRw r0 rfl rfl r0.lt, _, _, rfl, Rc.ofRw r1 rfl rfl r1.lt, rfl⟩, hb3⟩
theorem fit_rn (s : List UInt8) (h : s.length ≤ 10) : Fit (Ac.rnLines s) := by
  refine ⟨by simp [Ac.rnLines], fun l hl => ?_, fun l hl x hx => ?_⟩
  · simp only [Ac.rnLines, List.mem_cons, List.not_mem_nil, or_false] at hl
    rcases hl with rfl | rfl <;> simp [Ac.enLine]
  · simp only [Ac.rnLines, List.mem_cons, List.not_mem_nil, or_false] at hl
    rcases hl with rfl | rfl
    · simp only [List.mem_cons, List.not_mem_nil, or_false] at hx
      rcases hx with rfl | rfl
      · simp
      · omega
    · simp only [Ac.enLine, List.mem_cons, List.not_mem_nil, or_false] at hx
      subst hx
      simp
theorem lit_one (W : World) : LiS ((W.alloc (.cells #[.string ⟨#[114, 101, 112, 101, 97, 116]⟩, .string ⟨#[50]⟩] 9)).alloc (.cells #[.slice (some ⟨W.heap.size, 0, none⟩) 2 2] 32)) ((W.alloc (.cells #[.string ⟨#[114, 101, 112, 101, 97, 116]⟩, .string ⟨#[50]⟩] 9)).alloc (.cells #[.slice (some ⟨W.heap.size, 0, none⟩) 2 2] 32)).heap.size (.slice (some ⟨W.heap.size + 1, 0, none⟩) 1 1) [[[114, 101, 112, 101, 97, 116], [50]]] ∧ Below W.heap.size W ((W.alloc (.cells #[.string ⟨#[114, 101, 112, 101, 97, 116]⟩, .string ⟨#[50]⟩] 9)).alloc (.cells #[.slice (some ⟨W.heap.size, 0, none⟩) 2 2] 32)) := by
  obtain ⟨r0, r1, hb3, hz3⟩ := Rw.two W #[.string ⟨#[114, 101, 112, 101, 97, 116]⟩, .string ⟨#[50]⟩] #[.slice (some ⟨W.heap.size, 0, none⟩) 2 2] 9 32
  generalize ((W.alloc (.cells #[.string ⟨#[114, 101, 112, 101, 97, 116]⟩, .string ⟨#[50]⟩] 9)).alloc (.cells #[.slice (some ⟨W.heap.size, 0, none⟩) 2 2] 32)) = W3 at *
  exact ⟨LiS.ofRw (rs := [⟨some ⟨W.heap.size, 0, none⟩, 2, 2⟩]) r1 rfl rfl r1.lt ⟨_, _, rfl, Rc.ofRw r0 rfl rfl r0.lt, rfl⟩, hb3⟩
/-- the lines of these names are not too great -/
theorem fit_small {ls : List (List (List UInt8))} (h1 : ls.length ≤ 1000) (h2 : ∀ l ∈ ls, l = Ac.upLine ∨ l = Ac.rpLine ∨ l = Ac.enLine) : Fit ls := by
  refine ⟨by omega, fun l hl => ?_, fun l hl x hx => ?_⟩
  · rcases h2 l hl with rfl | rfl | rfl <;> simp [Ac.upLine, Ac.rpLine, Ac.enLine]
  · rcases h2 l hl with rfl | rfl | rfl <;> simp only [Ac.upLine, Ac.rpLine, Ac.enLine, List.mem_cons, List.not_mem_nil, or_false] at hx
    · subst hx; simp
    · rcases hx with rfl | rfl <;> simp
    · subst hx; simp
theorem fit_manyk (k : Nat) (h : k ≤ 1000) : Fit (Ac.many k) := fit_small (by rw [Ac.many, List.length_replicate]; exact h) fun _ hl => .inl (List.eq_of_mem_replicate hl)
theorem fit_many1 : Fit (Ac.many 256 ++ [Ac.upLine]) := by rw [← Ac.many_succ]; exact fit_manyk _ (by decide)
theorem mem_deep {l : List (List UInt8)} (h : l ∈ Ac.rps 8 ++ Ac.ens 8) : l = Ac.upLine ∨ l = Ac.rpLine ∨ l = Ac.enLine := by
  rcases List.mem_append.1 h with h | h
  · exact .inr (.inl (List.eq_of_mem_replicate h))
  · exact .inr (.inr (List.eq_of_mem_replicate h))
theorem fit_deep : Fit (Ac.rps 8 ++ Ac.ens 8) := fit_small (by simp [Ac.rps, Ac.ens]) fun _ hl => mem_deep hl
theorem fit_deep1 : Fit ([Ac.rpLine] ++ (Ac.rps 8 ++ Ac.ens 8 ++ [Ac.enLine])) := by
  refine fit_small (by simp [Ac.rps, Ac.ens]) fun l hl => ?_
  rcases List.mem_append.1 hl with h | h
  · exact .inr (.inl (by simpa using h))
  · rcases List.mem_append.1 h with h | h
    · exact mem_deep h
    · exact .inr (.inr (by simpa using h))

set_option maxRecDepth 100000 in
set_option maxHeartbeats 1000000 in
theorem names_walk (w : World) (hL : Laid w) : Calls Tryd.prog 8 #[] w fun e w' => e = .returned (.bool true) ∧ Below w.heap.size w w' := by
  have hW := works_any w hL
  go_enter Tryd.func8, Tryd.ntmps8
  go_wp2_with (first | (go_at_call 9; refine hW.mono ?_; rintro e w1 ⟨rfl, hb1⟩) | fail)
  go_loopw [1, 3] (fun v i wr => ∃ (k : Nat) (rs : List RawT), k ≤ 256 ∧ i = .int .i64 (k : Int) ∧ LiR.Own wr w.heap.size v rs ∧ Hid (LiN wr w.heap.size (Ac.many k) rs) ∧ Below w.heap.size w wr) (fun _ i _ => 256 - (intOf i).toNat)
  case atStart => exact ⟨0, [], by omega, rfl, Rc.Own.nil _ _, rfl, hb1⟩
  case round =>
    obtain ⟨k, rs, hk, rfl, hO, HN, hbr⟩ := hrel
    have k0 : (0 : Int) ≤ (k : Int) := by omega
    have kb : (k : Int) ≤ 256 := by omega
    obtain ⟨va, vn, vc, rfl⟩ := hO.isSl
    have hsz := hbr.size
    by_cases hlt : k < 256
    · have j1 : (k : Int) < 256 := by omega
      have HLn : Hid (rs.length + [(⟨some ⟨wr.heap.size, 0, none⟩, 1, 1⟩ : RawT)].length ≤ 1099511627) := by show _ ≤ _; have := HN.out.len; rw [this]; simp [Ac.many]; omega
      have hO7 := (hO.alloc (.cells #[.string ⟨#[117, 112, 112, 101, 114]⟩] 9)).alloc (.cells #[.slice (some ⟨wr.heap.size, 0, none⟩) 1 1] 32)
      have hLit := Rc.lit (R := LiR) (wr.alloc (.cells #[.string ⟨#[117, 112, 112, 101, 114]⟩] 9)) ⟨some ⟨wr.heap.size, 0, none⟩, 1, 1⟩ #[.slice (some ⟨wr.heap.size, 0, none⟩) 1 1] rfl
      rw [size_alloc wr] at hLit
      have hzl : w.heap.size ≤ ((wr.alloc (.cells #[.string ⟨#[117, 112, 112, 101, 114]⟩] 9)).alloc (.cells #[.slice (some ⟨wr.heap.size, 0, none⟩) 1 1] 32)).heap.size := by rw [size_alloc, size_alloc]; omega
      go_wp2_with (at_builtin; go_must (refine LiR.append_at rfl _ _ rfl (w.heap.size) (wr.heap.size + 1 + 1) _ _ rs [⟨some ⟨wr.heap.size, 0, none⟩, 1, 1⟩] rfl hO7 rfl hLit (by simp) HLn hzl ?_))
      intro g9 c9 W9 hO9 hG9 hg9 hl9
      go_wp2
      go_roundw
      case rel =>
        obtain ⟨q2, hT⟩ := LiN.push (line := Ac.upLine) hO HN.out hsz rfl rfl hG9
        rw [← Ac.many_succ] at q2
        exact ⟨k + 1, _, by omega, by go_num, hO9, q2, hT.bel hbr fun x hx => (hO.lt x (ownList hx)).1⟩
      case measure => simp [intOf]; omega
    · have j1 : ¬ (k : Int) < 256 := by omega
      obtain rfl : k = 256 := by omega
      have hOm := hO
      have HNm := HN
      clear hO HN
      go_wp2
      generalize wr = wA at hOm HNm hbr hsz ⊢
      go_loopw [2, 4] (fun v i wr => ∃ (k : Nat) (rs : List RawT), k ≤ 8 ∧ i = .int .i64 (k : Int) ∧ LiR.Own wr wA.heap.size v rs ∧ Hid (LiN wr wA.heap.size (Ac.rps k) rs) ∧ Below wA.heap.size wA wr) (fun _ i _ => 8 - (intOf i).toNat)
      case atStart => exact ⟨0, [], by omega, rfl, Rc.Own.nil _ _, rfl, Below.refl _ _⟩
      case round =>
        obtain ⟨k, rs2, hk, rfl, hO, HN, hb2⟩ := hrel
        have k0 : (0 : Int) ≤ (k : Int) := by omega
        have kb : (k : Int) ≤ 8 := by omega
        obtain ⟨da, dn, dc, rfl⟩ := hO.isSl
        have hsz2 := hb2.size
        by_cases hlt : k < 8
        · have j1 : (k : Int) < 8 := by omega
          have HLn : Hid (rs2.length + [(⟨some ⟨wr.heap.size, 0, none⟩, 2, 2⟩ : RawT)].length ≤ 1099511627) := by show _ ≤ _; have := HN.out.len; rw [this]; simp [Ac.rps]; omega
          have hO7 := (hO.alloc (.cells #[.string ⟨#[114, 101, 112, 101, 97, 116]⟩, .string ⟨#[49]⟩] 9)).alloc (.cells #[.slice (some ⟨wr.heap.size, 0, none⟩) 2 2] 32)
          have hLit := Rc.lit (R := LiR) (wr.alloc (.cells #[.string ⟨#[114, 101, 112, 101, 97, 116]⟩, .string ⟨#[49]⟩] 9)) ⟨some ⟨wr.heap.size, 0, none⟩, 2, 2⟩ #[.slice (some ⟨wr.heap.size, 0, none⟩) 2 2] rfl
          rw [size_alloc wr] at hLit
          have hzl : wA.heap.size ≤ ((wr.alloc (.cells #[.string ⟨#[114, 101, 112, 101, 97, 116]⟩, .string ⟨#[49]⟩] 9)).alloc (.cells #[.slice (some ⟨wr.heap.size, 0, none⟩) 2 2] 32)).heap.size := by rw [size_alloc, size_alloc]; omega
          go_wp2_with (at_builtin; go_must (refine LiR.append_at rfl _ _ rfl (wA.heap.size) (wr.heap.size + 1 + 1) _ _ rs2 [⟨some ⟨wr.heap.size, 0, none⟩, 2, 2⟩] rfl hO7 rfl hLit (by simp) HLn hzl ?_))
          intro g9 c9 W9 hO9 hG9 hg9 hl9
          go_wp2
          go_roundw
          case rel =>
            obtain ⟨q2, hT⟩ := LiN.push (line := Ac.rpLine) hO HN.out hsz2 rfl rfl hG9
            rw [← Ac.rps_succ] at q2
            exact ⟨k + 1, _, by omega, by go_num, hO9, q2, hT.bel hb2 fun x hx => (hO.lt x (ownList hx)).1⟩
          case measure => simp [intOf]; omega
        · have j1 : ¬ (k : Int) < 8 := by omega
          obtain rfl : k = 8 := by omega
          go_wp2
          go_loopw [2, 5] (fun v i wr => ∃ (k : Nat) (rs : List RawT), k ≤ 8 ∧ i = .int .i64 (k : Int) ∧ LiR.Own wr wA.heap.size v rs ∧ Hid (LiN wr wA.heap.size (Ac.rps 8 ++ Ac.ens k) rs) ∧ Below wA.heap.size wA wr) (fun _ i _ => 8 - (intOf i).toNat)
          case atStart => exact ⟨0, rs2, by omega, rfl, hO, by show LiN _ _ _ _; rw [show Ac.ens 0 = [] from rfl, List.append_nil]; exact HN.out, hb2⟩
          case round =>
            clear hO HN hb2 hsz2 k0 kb hlt j1 hk
            obtain ⟨k, rs3, hk, rfl, hO, HN, hb2⟩ := hrel
            have k0 : (0 : Int) ≤ (k : Int) := by omega
            have kb : (k : Int) ≤ 8 := by omega
            obtain ⟨ea, en, ec, rfl⟩ := hO.isSl
            have hsz2 := hb2.size
            by_cases hlt : k < 8
            · have j1 : (k : Int) < 8 := by omega
              have HLn : Hid (rs3.length + [(⟨some ⟨wr.heap.size, 0, none⟩, 1, 1⟩ : RawT)].length ≤ 1099511627) := by show _ ≤ _; have := HN.out.len; rw [this]; simp [Ac.rps, Ac.ens]; omega
              have hO7 := (hO.alloc (.cells #[.string ⟨#[101, 110, 100]⟩] 9)).alloc (.cells #[.slice (some ⟨wr.heap.size, 0, none⟩) 1 1] 32)
              have hLit := Rc.lit (R := LiR) (wr.alloc (.cells #[.string ⟨#[101, 110, 100]⟩] 9)) ⟨some ⟨wr.heap.size, 0, none⟩, 1, 1⟩ #[.slice (some ⟨wr.heap.size, 0, none⟩) 1 1] rfl
              rw [size_alloc wr] at hLit
              have hzl : wA.heap.size ≤ ((wr.alloc (.cells #[.string ⟨#[101, 110, 100]⟩] 9)).alloc (.cells #[.slice (some ⟨wr.heap.size, 0, none⟩) 1 1] 32)).heap.size := by rw [size_alloc, size_alloc]; omega
              go_wp2_with (at_builtin; go_must (refine LiR.append_at rfl _ _ rfl (wA.heap.size) (wr.heap.size + 1 + 1) _ _ rs3 [⟨some ⟨wr.heap.size, 0, none⟩, 1, 1⟩] rfl hO7 rfl hLit (by simp) HLn hzl ?_))
              intro g9 c9 W9 hO9 hG9 hg9 hl9
              go_wp2
              go_roundw
              case rel =>
                obtain ⟨q2, hT⟩ := LiN.push (line := Ac.enLine) hO HN.out hsz2 rfl rfl hG9
                rw [List.append_assoc, ← Ac.ens_succ] at q2
                exact ⟨k + 1, _, by omega, by go_num, hO9, q2, hT.bel hb2 fun x hx => (hO.lt x (ownList hx)).1⟩
              case measure => simp [intOf]; omega
            · have j1 : ¬ (k : Int) < 8 := by omega
              obtain rfl : k = 8 := by omega
              have hmA : ∀ g, (Value.slice va vn vc).ownBlock = some g → g < wA.heap.size := fun g hg => (hOm.lt g hg).2
              have hOd := hO
              have HNd := HN
              clear hO HN
              have hOm0 := hOm.below hb2 (Nat.le_refl _)
              have HNm0 : Hid (LiN wr w.heap.size (Ac.many 256) rs) := HNm.out.turn (Turn.of_below hb2) (by simp)
              have hbw := hbr.trans (hb2.mono hbr.size)
              clear hOm HNm hb2
              have hPa := ps_ok (hL.below hbw hL.size) (LiO.liS ⟨rs, hOm0, HNm0.out⟩) (fit_manyk 256 (by decide)) Ac.nm_a
              go_upto_region 17 with (first | (go_at_call 11; refine (hPa).mono ?_; rintro e x3 ⟨⟨f3, ma, mc, rfl, -⟩, hbx3⟩) | fail)
              have hs1 := hbx3.alloc hbx3.size (.cells #[.int .i64 0, .int .i64 0] 28)
              have r1 := Rw.new x3 #[.int .i64 0, .int .i64 0] 28
              generalize x3.alloc (.cells #[.int .i64 0, .int .i64 0] 28) = V1 at hs1 r1 ⊢
              have hbv1 := hbw.trans (hs1.mono hbw.size)
              have hOm1 := hOm0.below hs1 (Nat.le_refl _)
              have HNm1 : Hid (LiN V1 w.heap.size (Ac.many 256) rs) := HNm0.out.turn (Turn.of_below hs1) (by simp)
              have hOd1 := hOd.below hs1 (Nat.le_refl _)
              have HNd1 : Hid (LiN V1 wA.heap.size (Ac.rps 8 ++ Ac.ens 8) rs3) := HNd.out.turn (Turn.of_below hs1) (by simp)
              have hAV : wA.heap.size ≤ V1.heap.size := by have := hs1.size; omega
              have hwV : w.heap.size ≤ V1.heap.size := hbv1.size
              have hbx3s : Hid (wA.heap.size ≤ x3.heap.size) := by show _ ≤ _; have := hbx3.size; omega
              clear hOm0 HNm0 hOd HNd hPa hbx3
              have HLn : Hid (rs.length + [(⟨some ⟨V1.heap.size, 0, none⟩, 1, 1⟩ : RawT)].length ≤ 1099511627) := by show _ ≤ _; have := HNm1.out.len; rw [this]; simp [Ac.many]
              have hO7 := (hOm1.alloc (.cells #[.string ⟨#[117, 112, 112, 101, 114]⟩] 9)).alloc (.cells #[.slice (some ⟨V1.heap.size, 0, none⟩) 1 1] 32)
              have hLit := Rc.lit (R := LiR) (V1.alloc (.cells #[.string ⟨#[117, 112, 112, 101, 114]⟩] 9)) ⟨some ⟨V1.heap.size, 0, none⟩, 1, 1⟩ #[.slice (some ⟨V1.heap.size, 0, none⟩) 1 1] rfl
              rw [size_alloc V1] at hLit
              have hzl : w.heap.size ≤ ((V1.alloc (.cells #[.string ⟨#[117, 112, 112, 101, 114]⟩] 9)).alloc (.cells #[.slice (some ⟨V1.heap.size, 0, none⟩) 1 1] 32)).heap.size := by rw [size_alloc, size_alloc]; omega
              go_wp2_with (at_builtin; go_must (refine LiR.append_at rfl _ _ rfl (w.heap.size) (V1.heap.size + 1 + 1) _ _ rs [⟨some ⟨V1.heap.size, 0, none⟩, 1, 1⟩] rfl hO7 rfl hLit (by simp) HLn hzl ?_))
              intro g9 c9 W9 hO9 hG9 hg9 hl9
              obtain ⟨q2, hT9⟩ := LiN.push (line := Ac.upLine) hOm1 HNm1.out hwV rfl rfl hG9
              have hb9 := hT9.bel hbv1 fun x hx => (hOm1.lt x (ownList hx)).1
              have hS9 : ∀ x ∈ (Value.slice va vn vc).ownBlock.toList, x < wA.heap.size := fun x hx => hmA x (ownList hx)
              have hOd9 := (LiO.turn ⟨rs3, hOd1, HNd1.out⟩ hT9 hS9)
              replace r1 := r1.turn hT9 (fun hx => by have := hS9 _ hx; have := hbx3s.out; omega)
              have hPb := ps_bad (hL.below hb9 hL.size) (LiO.liS ⟨_, hO9, q2⟩) fit_many1 Ac.nm_b
              have hA9 : wA.heap.size ≤ W9.heap.size := by have := hT9.size; omega
              clear hOm1 HNm1 hOd1 HNd1 hO9 hG9 hg9 q2 HLn hLit hO7 hzl hT9 hS9
              go_upto_region 18 with (first | (go_at_call 11; refine (hPb).mono ?_; rintro e x4 ⟨rfl, hbx4⟩) | fail)
              have hs2 := hbx4.alloc hbx4.size (.cells #[.int .i64 3, .int .i64 256] 28)
              have r2 := Rw.new x4 #[.int .i64 3, .int .i64 256] 28
              generalize x4.alloc (.cells #[.int .i64 3, .int .i64 256] 28) = V2 at hs2 r2 ⊢
              have hbv2 := hb9.trans (hs2.mono hb9.size)
              replace r1 := r1.below hs2 r1.lt
              have hD2 := hOd9.below hs2
              have hA2 : wA.heap.size ≤ V2.heap.size := by have := hs2.size; omega
              have hPc := ps_ok (hL.below hbv2 hL.size) hD2.liS fit_deep Ac.nm_c
              clear hOd9 hPb hbx4
              go_upto_region 19 with (first | (go_at_call 11; refine (hPc).mono ?_; rintro e x5 ⟨⟨f5, na, nc, rfl, hF5, e1, e2, e3⟩, hbx5⟩) | fail)
              have hs3 := hbx5.alloc hbx5.size (.cells #[.int .i64 0, .int .i64 0] 28)
              have r3 := Rw.new x5 #[.int .i64 0, .int .i64 0] 28
              have hF := hF5.turn ((Turn.refl [] x5).alloc (.cells #[.int .i64 0, .int .i64 0] 28)) (by simp)
              generalize x5.alloc (.cells #[.int .i64 0, .int .i64 0] 28) = V3 at hs3 r3 hF ⊢
              have hbv3 := hbv2.trans (hs3.mono hbv2.size)
              replace r1 := r1.below hs3 r1.lt
              replace r2 := r2.below hs3 r2.lt
              have hdV2 : ∀ g, (Value.slice ea en ec).ownBlock = some g → g < V2.heap.size := by obtain ⟨_, h, _⟩ := hD2; exact fun g hg => (h.lt g hg).2
              obtain ⟨rs5, hOd3, HNd3'⟩ := hD2.below hs3
              have HNd3 : Hid (LiN V3 wA.heap.size (Ac.rps 8 ++ Ac.ens 8) rs5) := HNd3'
              have hA3 : wA.heap.size ≤ V3.heap.size := by have := hs3.size; omega
              have hV23 : V2.heap.size ≤ V3.heap.size := hs3.size
              clear HNd3' hD2 hPc hbx5 hF5
              obtain ⟨k0, k1, hbA, hzA⟩ := Rw.two V3 #[.string ⟨#[114, 101, 112, 101, 97, 116]⟩, .string ⟨#[49]⟩] #[.slice (some ⟨V3.heap.size, 0, none⟩) 2 2] 9 32
              have hLo := Own.litN (R := LiR) (V3.alloc (.cells #[.string ⟨#[114, 101, 112, 101, 97, 116]⟩, .string ⟨#[49]⟩] 9)) wA.heap.size 1 #[.slice (some ⟨V3.heap.size, 0, none⟩) 2 2] [⟨some ⟨V3.heap.size, 0, none⟩, 2, 2⟩] (by rw [size_alloc]; omega) rfl (by decide) rfl
              rw [size_alloc] at hLo
              have hO7 := (((hOd3.alloc (.cells #[.string ⟨#[114, 101, 112, 101, 97, 116]⟩, .string ⟨#[49]⟩] 9)).alloc (.cells #[.slice (some ⟨V3.heap.size, 0, none⟩) 2 2] 32)).alloc (.cells #[.string ⟨#[101, 110, 100]⟩] 9)).alloc (.cells #[.slice (some ⟨V3.heap.size + 1 + 1, 0, none⟩) 1 1] 32)
              have hLit := Rc.lit (R := LiR) ((((V3.alloc (.cells #[.string ⟨#[114, 101, 112, 101, 97, 116]⟩, .string ⟨#[49]⟩] 9)).alloc (.cells #[.slice (some ⟨V3.heap.size, 0, none⟩) 2 2] 32))).alloc (.cells #[.string ⟨#[101, 110, 100]⟩] 9)) ⟨some ⟨V3.heap.size + 1 + 1, 0, none⟩, 1, 1⟩ #[.slice (some ⟨V3.heap.size + 1 + 1, 0, none⟩) 1 1] rfl
              rw [size_alloc, size_alloc, size_alloc] at hLit
              have hzl : wA.heap.size ≤ ((((V3.alloc (.cells #[.string ⟨#[114, 101, 112, 101, 97, 116]⟩, .string ⟨#[49]⟩] 9)).alloc (.cells #[.slice (some ⟨V3.heap.size, 0, none⟩) 2 2] 32)).alloc (.cells #[.string ⟨#[101, 110, 100]⟩] 9)).alloc (.cells #[.slice (some ⟨V3.heap.size + 1 + 1, 0, none⟩) 1 1] 32)).heap.size := by rw [size_alloc, size_alloc, size_alloc, size_alloc]; omega
              have HLn : Hid (rs5.length + [(⟨some ⟨V3.heap.size + 1 + 1, 0, none⟩, 1, 1⟩ : RawT)].length ≤ 1099511627) := by show _ ≤ _; have := HNd3.out.len; rw [this]; simp [Ac.rps, Ac.ens]
              have HLn2 : Hid ([(⟨some ⟨V3.heap.size, 0, none⟩, 2, 2⟩ : RawT)].length + (rs5 ++ [(⟨some ⟨V3.heap.size + 1 + 1, 0, none⟩, 1, 1⟩ : RawT)]).length ≤ 1099511627) := by show _ ≤ _; have := HNd3.out.len; rw [List.length_append, this]; simp [Ac.rps, Ac.ens]
              go_wp2_with (at_builtin; go_must (refine LiR.append_at rfl _ _ rfl wA.heap.size (V3.heap.size + 1 + 1 + 1 + 1) _ _ rs5 [⟨some ⟨V3.heap.size + 1 + 1, 0, none⟩, 1, 1⟩] rfl hO7 rfl hLit (by simp) HLn hzl ?_))
              intro g9 c9 X9 hO9 hG9 hg9 hl9
              rw [← hzA] at hG9
              obtain ⟨q2, hT9⟩ := LiN.push (line := Ac.enLine) ((hOd3.alloc (.cells #[.string ⟨#[114, 101, 112, 101, 97, 116]⟩, .string ⟨#[49]⟩] 9)).alloc (.cells #[.slice (some ⟨V3.heap.size, 0, none⟩) 2 2] 32)) (HNd3.out.turn (((Turn.refl [] V3).alloc (.cells #[.string ⟨#[114, 101, 112, 101, 97, 116]⟩, .string ⟨#[49]⟩] 9)).alloc (.cells #[.slice (some ⟨V3.heap.size, 0, none⟩) 2 2] 32)) (by simp)) (by rw [hzA]; omega) rfl rfl hG9
              rw [hzA] at q2
              have hown : ∀ x ∈ (Value.slice ea en ec).ownBlock.toList, x < V3.heap.size ∧ wA.heap.size ≤ x ∧ x < V2.heap.size := fun x hx => ⟨(hOd3.lt x (ownList hx)).2, (hOd3.lt x (ownList hx)).1, hdV2 x (ownList hx)⟩
              have hLo9 := Row.turn hLo hT9 (fun g hg hx => by have := (hown g hx).1; simp [Value.ownBlock] at hg; omega)
              have k0' := k0.turn hT9 (fun hx => by have := (hown _ hx).1; omega)
              have k1' := k1.turn hT9 (fun hx => by have := (hown _ hx).1; omega)
              have hz9 : wA.heap.size ≤ X9.heap.size := by have := hT9.size; omega
              go_wp2_with (at_builtin; go_must (refine LiR.append_at rfl _ _ rfl wA.heap.size X9.heap.size _ (.slice (some ⟨g9, 0, none⟩) (rs5.length + 1) c9) [(⟨some ⟨V3.heap.size, 0, none⟩, 2, 2⟩ : RawT)] (rs5 ++ [(⟨some ⟨V3.heap.size + 1 + 1, 0, none⟩, 1, 1⟩ : RawT)]) rfl hLo9 rfl hO9.sl (by simp) HLn2 hz9 ?_))
              intro g10 c10 X10 hO10 hG10 hg10 hl10
              have hT10 := Turn.of_grown hG10
              have q1 : LiN X9 wA.heap.size [Ac.rpLine] [⟨some ⟨V3.heap.size, 0, none⟩, 2, 2⟩] := ⟨V3.heap.size, _, [], rfl, k0', hA3, rfl, rfl⟩
              have q3 := (q1.app q2).turn hT10 (fun x hx => .inr (by have e := ownList hx; simp [Value.ownBlock] at e; subst e; exact ⟨_, _, k1', by decide⟩))
              have hTT : Turn (Value.slice ea en ec).ownBlock.toList V3 X10 := ((((Turn.refl _ V3).alloc (.cells #[.string ⟨#[114, 101, 112, 101, 97, 116]⟩, .string ⟨#[49]⟩] 9)).alloc (.cells #[.slice (some ⟨V3.heap.size, 0, none⟩) 2 2] 32)).trans hT9 (fun _ hx _ => hx)).trans hT10 (fun x hx hl => by have e := ownList hx; simp [Value.ownBlock] at e; omega)
              have hb10 := hTT.bel hbv3 fun x hx => by have := (hown x hx).2.1; omega
              have hPd := ps_bad (hL.below hb10 hL.size) (LiO.liS ⟨_, hO10, q3⟩) fit_deep1 Ac.nm_d
              replace r1 := r1.turn hTT (fun hx => Rw.ne_row r1 hOd3 (by decide) (ownList hx) rfl)
              replace r2 := r2.turn hTT (fun hx => Rw.ne_row r2 hOd3 (by decide) (ownList hx) rfl)
              replace r3 := r3.turn hTT (fun hx => Rw.ne_row r3 hOd3 (by decide) (ownList hx) rfl)
              replace hF := hF.turn hTT (fun x hx => (hown x hx).2.2)
              have hV10 : V2.heap.size ≤ X10.heap.size := by have := hTT.size; omega
              clear hO7 hLit hzl HLn HLn2 hO9 hG9 hg9 hl9 q1 q2 q3 hT9 hT10 hTT hLo hLo9 k0 k1 k0' k1' hG10 hO10 hown hOd3 HNd3 hbA hzA
              go_upto_region 20 with (first | (go_at_call 11; refine (hPd).mono ?_; rintro e x6 ⟨rfl, hbx6⟩) | fail)
              have hs4 := hbx6.alloc hbx6.size (.cells #[.int .i64 132, .int .i64 8] 28)
              have r4 := Rw.new x6 #[.int .i64 132, .int .i64 8] 28
              generalize x6.alloc (.cells #[.int .i64 132, .int .i64 8] 28) = V4 at hs4 r4 ⊢
              have hbv4 := hb10.trans (hs4.mono hb10.size)
              replace r1 := r1.below hs4 r1.lt
              replace r2 := r2.below hs4 r2.lt
              replace r3 := r3.below hs4 r3.lt
              replace hF := hF.turn (Turn.of_below hs4) (by simp)
              clear hPd hbx6 hb10
              obtain ⟨hli, hbl⟩ := lit_two V4 [49, 48, 48, 48] ⟨#[49, 48, 48, 48]⟩ rfl
              have hPl := ps_ok (hL.below (hbv4.trans (hbl.mono hbv4.size)) hL.size) hli (fit_rn _ (by decide)) Ac.nm_e
              clear hli
              go_upto_region 21 with (first | (go_at_call 11; refine (hPl).mono ?_; rintro e x7 ⟨⟨_, ya, yc, rfl, -⟩, hcx7⟩) | fail)
              have hbx7 := hbl.trans (hcx7.mono hbl.size)
              clear hPl hcx7 hbl
              have hs5 := hbx7.alloc hbx7.size (.cells #[.int .i64 0, .int .i64 0] 28)
              have r5 := Rw.new x7 #[.int .i64 0, .int .i64 0] 28
              generalize x7.alloc (.cells #[.int .i64 0, .int .i64 0] 28) = V5 at hs5 r5 ⊢
              have hbv5 := hbv4.trans (hs5.mono hbv4.size)
              replace r1 := r1.below hs5 r1.lt
              replace r2 := r2.below hs5 r2.lt
              replace r3 := r3.below hs5 r3.lt
              replace r4 := r4.below hs5 r4.lt
              replace hF := hF.turn (Turn.of_below hs5) (by simp)
              clear hbx7 hbv4
              obtain ⟨hli, hbl⟩ := lit_two V5 [49, 48, 48, 49] ⟨#[49, 48, 48, 49]⟩ rfl
              have hPl := ps_bad (hL.below (hbv5.trans (hbl.mono hbv5.size)) hL.size) hli (fit_rn _ (by decide)) Ac.nm_f
              clear hli
              go_upto_region 22 with (first | (go_at_call 11; refine (hPl).mono ?_; rintro e x8 ⟨rfl, hcx8⟩) | fail)
              have hbx8 := hbl.trans (hcx8.mono hbl.size)
              clear hPl hcx8 hbl
              have hs6 := hbx8.alloc hbx8.size (.cells #[.int .i64 130, .int .i64 0] 28)
              have r6 := Rw.new x8 #[.int .i64 130, .int .i64 0] 28
              generalize x8.alloc (.cells #[.int .i64 130, .int .i64 0] 28) = V6 at hs6 r6 ⊢
              have hbv6 := hbv5.trans (hs6.mono hbv5.size)
              replace r1 := r1.below hs6 r1.lt
              replace r2 := r2.below hs6 r2.lt
              replace r3 := r3.below hs6 r3.lt
              replace r4 := r4.below hs6 r4.lt
              replace r5 := r5.below hs6 r5.lt
              replace hF := hF.turn (Turn.of_below hs6) (by simp)
              clear hbx8 hbv5
              obtain ⟨hli, hbl⟩ := lit_two V6 [48, 48] ⟨#[48, 48]⟩ rfl
              have hPl := ps_bad (hL.below (hbv6.trans (hbl.mono hbv6.size)) hL.size) hli (fit_rn _ (by decide)) Ac.nm_g
              clear hli
              go_upto_region 23 with (first | (go_at_call 11; refine (hPl).mono ?_; rintro e x9 ⟨rfl, hcx9⟩) | fail)
              have hbx9 := hbl.trans (hcx9.mono hbl.size)
              clear hPl hcx9 hbl
              have hs7 := hbx9.alloc hbx9.size (.cells #[.int .i64 130, .int .i64 0] 28)
              have r7 := Rw.new x9 #[.int .i64 130, .int .i64 0] 28
              generalize x9.alloc (.cells #[.int .i64 130, .int .i64 0] 28) = V7 at hs7 r7 ⊢
              have hbv7 := hbv6.trans (hs7.mono hbv6.size)
              replace r1 := r1.below hs7 r1.lt
              replace r2 := r2.below hs7 r2.lt
              replace r3 := r3.below hs7 r3.lt
              replace r4 := r4.below hs7 r4.lt
              replace r5 := r5.below hs7 r5.lt
              replace r6 := r6.below hs7 r6.lt
              replace hF := hF.turn (Turn.of_below hs7) (by simp)
              clear hbx9 hbv6
              obtain ⟨hli, hbl⟩ := lit_one V7
              have hPl := ps_bad (hL.below (hbv7.trans (hbl.mono hbv7.size)) hL.size) hli ⟨by decide, by decide, by decide⟩ Ac.nm_h
              clear hli
              go_upto_region 24 with (first | (go_at_call 11; refine (hPl).mono ?_; rintro e x10 ⟨rfl, hcx10⟩) | fail)
              have hbx10 := hbl.trans (hcx10.mono hbl.size)
              clear hPl hcx10 hbl
              have hs8 := hbx10.alloc hbx10.size (.cells #[.int .i64 131, .int .i64 1] 28)
              have r8 := Rw.new x10 #[.int .i64 131, .int .i64 1] 28
              generalize x10.alloc (.cells #[.int .i64 131, .int .i64 1] 28) = V8 at hs8 r8 ⊢
              have hbv8 := hbv7.trans (hs8.mono hbv7.size)
              replace r1 := r1.below hs8 r1.lt
              replace r2 := r2.below hs8 r2.lt
              replace r3 := r3.below hs8 r3.lt
              replace r4 := r4.below hs8 r4.lt
              replace r5 := r5.below hs8 r5.lt
              replace r6 := r6.below hs8 r6.lt
              replace r7 := r7.below hs8 r7.lt
              replace hF := hF.turn (Turn.of_below hs8) (by simp)
              have sp : ∀ W, Below V8.heap.size V8 W → W.cell? ⟨x3.heap.size, 0, none⟩ = some (.int .i64 0) ∧ W.cell? ⟨x3.heap.size, 1, none⟩ = some (.int .i64 0) ∧ W.cell? ⟨x4.heap.size, 0, none⟩ = some (.int .i64 3) ∧ W.cell? ⟨x4.heap.size, 1, none⟩ = some (.int .i64 256) ∧ W.cell? ⟨x5.heap.size, 0, none⟩ = some (.int .i64 0) ∧ W.cell? ⟨x5.heap.size, 1, none⟩ = some (.int .i64 0) ∧ W.cell? ⟨x6.heap.size, 0, none⟩ = some (.int .i64 132) ∧ W.cell? ⟨x6.heap.size, 1, none⟩ = some (.int .i64 8) ∧ W.cell? ⟨x7.heap.size, 0, none⟩ = some (.int .i64 0) ∧ W.cell? ⟨x7.heap.size, 1, none⟩ = some (.int .i64 0) ∧ W.cell? ⟨x8.heap.size, 0, none⟩ = some (.int .i64 130) ∧ W.cell? ⟨x8.heap.size, 1, none⟩ = some (.int .i64 0) ∧ W.cell? ⟨x9.heap.size, 0, none⟩ = some (.int .i64 130) ∧ W.cell? ⟨x9.heap.size, 1, none⟩ = some (.int .i64 0) ∧ W.cell? ⟨x10.heap.size, 0, none⟩ = some (.int .i64 131) ∧ W.cell? ⟨x10.heap.size, 1, none⟩ = some (.int .i64 1) := fun W h => ⟨(r1.below h r1.lt).cell 0, (r1.below h r1.lt).cell 1, (r2.below h r2.lt).cell 0, (r2.below h r2.lt).cell 1, (r3.below h r3.lt).cell 0, (r3.below h r3.lt).cell 1, (r4.below h r4.lt).cell 0, (r4.below h r4.lt).cell 1, (r5.below h r5.lt).cell 0, (r5.below h r5.lt).cell 1, (r6.below h r6.lt).cell 0, (r6.below h r6.lt).cell 1, (r7.below h r7.lt).cell 0, (r7.below h r7.lt).cell 1, (r8.below h r8.lt).cell 0, (r8.below h r8.lt).cell 1⟩
              have hDp := Deep_any f5 _ V8 _ hF.foS (Nat.le_refl _) (hL.below hbv8 hL.size) (by omega) (by omega)
              rw [e1] at hDp
              clear hF r1 r2 r3 r4 r5 r6 r7 r8 hs8 hbx10
              obtain ⟨p1, q1, p2, q2, p3, q3, p4, q4, p5, q5, p6, q6, p7, q7, p8, q8⟩ := sp V8 (Below.refl _ _)
              go_wp2_with (first | (go_at_call 22; refine hDp.mono ?_; rintro e y1 ⟨rfl, hby⟩; obtain ⟨p1, q1, p2, q2, p3, q3, p4, q4, p5, q5, p6, q6, p7, q7, p8, q8⟩ := sp y1 hby) | fail)
              go_ret
              exact ⟨rfl, hbv8.trans (hby.mono hbv8.size)⟩

end Go.Proofs.YtfgdlnidfkjbdaaDoor
