/-
  THE LANDED once: each of some texts where it stands first.
-/
import Derived.Test.YtppcfidaalejfaaMpU
import Derived.Test.YtppcfidaalejfaaPBs
import Derived.Test.YtppcfidaalejfaaRw
import Derived.Test.YtppcfidaalejfaaDpDeps
namespace Go.Proofs.Ytppcfidaalejfaa
open Go.RowKit

/-- the map of what was seen -/
def SeenM (w : World) (b n : Nat) (X : List (List UInt8)) : Prop := ∃ f, MapU w b n f ∧ ∀ x, f x = if bs x ∈ X then some (.agg #[]) else none
theorem SeenM.turn {w w' : World} {b n : Nat} {X : List (List UInt8)} {S : List Nat} (h : SeenM w b n X) (hT : Turn S w w') (hb : b ∉ S) : SeenM w' b n X := by
  obtain ⟨f, h1, h2⟩ := h
  exact ⟨f, h1.turn hT hb, h2⟩

theorem run_makeSeen (n : Int) (w : World) : (Instr.makeMap 89 (some (.int .i64 n))).run Try.prog w = .ok (.map (some w.heap.size)) (w.alloc (.map #[] 0)) := by
  simp [Instr.makeMap, run_underlying Try.underlying89, asInt, asIntOf, Result.andThen]

set_option maxRecDepth 100000 in
set_option maxHeartbeats 4000000 in
theorem once_any (v : Value) (l : List (List UInt8)) (w : World) (B : Nat) (hv : BR.Sl w B v l) (hB : B ≤ w.heap.size) (hl : l.length ≤ 100000000) (hw : ∀ x ∈ l, x.length ≤ 1000000000) :
    Calls Try.prog 38 #[v] w fun e w' => ∃ v', e = .returned v' ∧ BR.Own w' w.heap.size v' (Dp.adds [] l) ∧ Below w.heap.size w w' := by
  obtain ⟨ad, c, rfl, hle⟩ := hv.shape
  have HFIN : Hid (Dp.adds [] l = Dp.adds [] (l.take l.length)) := by show _ = _; rw [List.take_length]
  generalize Dp.adds [] l = R at *
  have HW : Hid _ := hw
  clear hw
  have hb0 := (Below.refl w.heap.size w).alloc (Nat.le_refl _) (.map #[] 0)
  have hM0 : SeenM (w.alloc (.map #[] 0)) w.heap.size 0 [] := ⟨_, MapU.made w, fun _ => by simp⟩
  have hmm := run_makeSeen
  go_enter Try.func38, Try.ntmps38
  go_wp2
  go_loopw [4, 14] (fun vo k wr => ∃ (j n : Nat) (X : List (List UInt8)), j ≤ l.length ∧ n ≤ j ∧ X.length ≤ j ∧ k = .int .i64 (j : Int) ∧ BR.Own wr (w.heap.size + 1) vo X ∧ Hid (X = Dp.adds [] (l.take j)) ∧ SeenM wr w.heap.size n X ∧ Below w.heap.size w wr) (fun _ k _ => l.length - (intOf k).toNat)
  case atStart => exact ⟨0, 0, [], Nat.zero_le _, Nat.le_refl _, Nat.le_refl _, rfl, Rc.Own.nil _ _, rfl, hM0, hb0⟩
  case round =>
    clear hM0 hb0
    obtain ⟨j, n, X, hj, hnj, hXj, rfl, hO, HX, hM, hBe⟩ := hrel
    obtain ⟨oa, oc, rfl, hoc⟩ := hO.sl.shape
    by_cases hjl : j < l.length
    · have j1 : (j : Int) < (l.length : Int) := by omega
      obtain ⟨b2, o2, cc2, e, hb2, r0⟩ := BR.ix (hv.below (hBe.mono hB) (Nat.le_refl _)) hjl
      simp only [Value.slice.injEq] at e
      obtain ⟨rfl, -, rfl⟩ := e
      have hsz := HW.out l[j] (List.getElem_mem hjl)
      have HT : Hid (Dp.adds [] (l.take (j + 1)) = Dp.add X l[j]) := by
        show _ = _
        rw [List.take_succ_eq_append_getElem hjl, Dp.adds, List.foldl_append, HX.out]
        rfl
      generalize l[j] = d at *
      obtain ⟨sd, hsd⟩ : ∃ sd, str d = sd := ⟨_, rfl⟩
      have hbd : bs sd = d := by rw [← hsd, bs_str]
      have hss : sd.size ≤ 1099511627 := by rw [← hsd, str_size]; omega
      rw [hsd] at r0
      have hwr : w.heap.size < wr.heap.size := by obtain ⟨f, h1, -⟩ := hM; exact h1.lt
      obtain ⟨f, hMf, hf⟩ := hM
      have hlk := hMf.at_ok (t := 89) (e := 90) Try.underlying89 (z := .agg #[]) (by kernel_rfl) (x := sd) hss
      have hfx := hf sd
      rw [hbd] at hfx
      have hzr : wr.heap.size ≤ (wr.alloc (.cells #[] 90)).heap.size := by rw [size_alloc]; omega
      have hO1 := hO.alloc (.cells #[] 90)
      have hM1 := hMf.alloc (.cells #[] 90)
      have hBe1 := hBe.alloc hBe.size (.cells #[] 90)
      by_cases hdX : d ∈ X
      · rw [if_pos hdX] at hfx
        rw [hfx] at hlk
        simp only [Option.getD_some, Option.isSome_some] at hlk
        have HR : Hid (X = Dp.adds [] (l.take (j + 1))) := by
          show _ = _
          rw [HT.out]
          unfold Dp.add
          rw [if_pos hdX]
        clear hdX hfx
        go_wp2
        exact ⟨⟨j + 1, n, X, by omega, by omega, by omega, by go_num, hO1, HR, ⟨f, hM1, hf⟩, hBe1⟩, by simp [intOf]; omega⟩
      · rw [if_neg hdX] at hfx
        obtain ⟨W2, hst, hM2, hT2⟩ := hM1.store (t := 89) (e := 90) Try.underlying89 (by omega) (.agg #[]) hss
        rw [hfx] at hlk hM2
        simp only [Option.getD_none, Option.isSome_none] at hlk
        rw [if_neg (by simp)] at hM2
        have HR : Hid (X ++ [d] = Dp.adds [] (l.take (j + 1))) := by
          show _ = _
          rw [HT.out]
          unfold Dp.add
          rw [if_neg hdX]
        have HS2 : SeenM W2 w.heap.size (n + 1) (X ++ [d]) := by
          refine ⟨_, hM2, fun x => ?_⟩
          unfold updU
          by_cases hx : x = sd
          · rw [if_pos hx, if_pos (by rw [hx, hbd]; simp)]
          · have hxd : bs x ≠ d := fun e => hx (by rw [← hbd] at e; have := congrArg str e; rw [show str (bs x) = x from str_of x, show str (bs sd) = sd from str_of sd] at this; exact this)
            rw [if_neg hx, hf x]
            by_cases hxx : bs x ∈ X
            · rw [if_pos hxx, if_pos (List.mem_append_left _ hxx)]
            · rw [if_neg hxx, if_neg (by simp [hxx, hxd])]
        have hO2 : BR.Own W2 (w.heap.size + 1) (.slice oa X.length oc) X := Row.turn hO1 hT2 (fun g hg hm => by rw [List.mem_singleton] at hm; subst hm; exact absurd (hO1.lt _ hg).1 (by omega))
        have hB2 : Below w.heap.size w W2 := hT2.bel hBe1 (by simp)
        have hO3 := hO2.alloc (.cells #[.string sd] 9)
        have hS3 := HS2.turn ((Turn.refl [] W2).alloc (.cells #[.string sd] 9)) (by simp)
        have hB3 := hB2.alloc hB2.size (.cells #[.string sd] 9)
        have hL := BR.lit W2 d #[.string sd] (by rw [← hsd]; rfl)
        have HLn : Hid (X.length + [d].length ≤ 1099511627) := by show _ ≤ _; simp only [List.length_cons, List.length_nil]; omega
        have hz2 : w.heap.size + 1 ≤ (W2.alloc (.cells #[.string sd] 9)).heap.size := by rw [size_alloc]; have := hT2.size; omega
        clear hdX hfx hf hMf hO hO1 hM1 hBe1 hO2 hB2 HS2 hM2
        go_wp2_with (at_builtin; go_must (refine BR.append_at rfl _ _ rfl (w.heap.size + 1) (W2.heap.size + 1) _ _ X [d] rfl hO3 rfl hL (by simp) HLn hz2 ?_))
        intro g cap w5 hO5 hg5 hw5 hlt5
        have hT5 := Turn.of_grown hg5
        have hS5 := hS3.turn hT5 (fun hm => by have := (hO3.lt w.heap.size (by simpa using hm)).1; omega)
        have hB5 := hB3.trans (hT5.below' hB3.size (fun x hx => by have := (hO3.lt x (by simpa using hx)).1; omega))
        go_wp2
        exact ⟨⟨j + 1, n + 1, X ++ [d], by omega, by omega, by rw [List.length_append]; simp only [List.length_cons, List.length_nil]; omega, by go_num, hO5, HR, hS5, hB5⟩, by simp [intOf]; omega⟩
    · obtain rfl : j = l.length := by omega
      have j1 : ¬ (l.length : Int) < (l.length : Int) := by omega
      have HR : Hid (R = X) := HFIN.out.trans HX.out.symm
      go_wp2
      go_ret
      rw [HR.out]
      exact ⟨_, rfl, hO.low (by omega), hBe⟩
end Go.Proofs.Ytppcfidaalejfaa
