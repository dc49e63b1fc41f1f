/-
  WHAT pathOf, ask DO.
-/
import Derived.Test.YtnobmgkdieaclaaGreatDoorIpClone
import Derived.Test.YtnobmgkdieaclaaGreatDoorBd
import Derived.Test.YtnobmgkdieaclaaGreatDoorPXS
import Derived.Test.YtnobmgkdieaclaaGreatDoorIpMove
namespace Go.Proofs.YtnobmgkdieaclaaGreatDoor
open Go.RowKit

/-- what becomes of a run at a word that may have no path -/
def Ip.St.path (s : Ip.St) (line w : Ip.B) : Ip.St := match Ip.St.pathOf line w with
  | some _ => s
  | none => s.fail 141 (Ip.told line w)
theorem norm_of (line u : List UInt8) (w : World) (hl : line.length ≤ 10000) (hu : u.length ≤ 4000) (hb : line.length ≤ 256) :
    Calls Tryz.prog 122 #[.string (str (Ip.told line u))] w fun e w' => (∃ t c, e = .returned (.tuple #[.string t, .int .i64 c]) ∧ (c = 0 ↔ (Ip.St.pathOf line u).isSome = true) ∧ ∀ p, Ip.St.pathOf line u = some p → t = str p) ∧ Below w.heap.size w w' := by
  have hlen := flat_len 64 line u
  rw [← told_flat] at hlen
  have h1 : u.length * (line.length + 1) ≤ 4000 * 257 := Nat.mul_le_mul hu (by omega)
  refine (Norm_any (str (Ip.told line u)) w (by rw [str_size]; omega)).mono ?_
  rintro e w' ⟨⟨t, rfl, ht⟩, hB⟩
  rw [bs_str] at ht ⊢
  refine ⟨⟨t, _, rfl, ?_, fun p hp => ?_⟩, hB⟩
  · unfold Ip.St.pathOf
    by_cases h0 : (Pm.norm (Ip.told line u)).2 = 0
    · rw [if_pos h0]; simp [h0]
    · rw [if_neg h0]; simp; omega
  · unfold Ip.St.pathOf at hp
    by_cases h0 : (Pm.norm (Ip.told line u)).2 = 0
    · rw [if_pos h0] at hp
      simp only [Option.some.injEq] at hp
      rw [← hp, ← ht, str_bs]
    · rw [if_neg h0] at hp; cases hp

set_option maxRecDepth 100000 in
theorem pathOf_any (line u : List UInt8) (w : World) (O : List Nat) (x : RP) (s : Ip.St) (h : RunS w O x s) (hu : u.length ≤ 4000) (hb : line.length ≤ 256) :
    Calls Tryz.prog 105 #[.pointer (some ⟨x.p, 0, none⟩), .string (str line), .string (str u)] w fun e w' => e = .returned (.tuple #[.string (str ((Ip.St.pathOf line u).getD [])), .bool (Ip.St.pathOf line u).isSome]) ∧ RunS w' O x (s.path line u) ∧ Turn [x.p] w w' := by
  have hT := asTold_any line [u] (.slice (some ⟨w.heap.size, 0, none⟩) 1 1) (w.alloc (.cells #[.string (str u)] 9)) (w.heap.size + 1) (row_one w u) (by rw [size_alloc]; exact Nat.le_refl _) (by show u.length ≤ _; omega) (by simp) (by omega)
  have hN := fun W => norm_of line u W (by omega) hu hb
  have hF := fun W hh => fail_any 141 (Ip.told line u) W O x s hh
  have b0 := (Below.refl w.heap.size w).alloc (Nat.le_refl _) (.cells #[.string (str u)] 9)
  change Calls _ _ _ _ fun e w' => e = .returned (.string (str (Ip.told line u))) ∧ _ at hT
  have HP : Hid _ := h
  have HS : Hid (s.path line u = match Ip.St.pathOf line u with | some _ => s | none => s.fail 141 (Ip.told line u)) := rfl
  generalize s.path line u = R at *
  generalize str (Ip.told line u) = T at *
  cases hp : Ip.St.pathOf line u with
  | some p =>
    rw [hp] at HS
    have hN2 : ∀ W, Calls Tryz.prog 122 #[.string T] W fun e w' => e = .returned (.tuple #[.string (str p), .int .i64 0]) ∧ Below W.heap.size W w' := by
      intro W
      refine (hN W).mono ?_
      rintro e w' ⟨⟨t, c, rfl, h1, h2⟩, h3⟩
      rw [hp] at h1 h2
      rw [h1.2 rfl, h2 p rfl]
      exact ⟨rfl, h3⟩
    clear hN hp hF h hu hb
    generalize str line = L at *
    generalize str u = U at *
    show Calls _ _ _ _ fun e w' => e = .returned (.tuple #[.string (str p), .bool true]) ∧ _
    generalize str p = P at *
    go_enter Tryz.func105, Tryz.ntmps105
    go_wp2_with (first | (go_at_call 101; refine hT.mono ?_; rintro e w1 ⟨rfl, h1⟩) | (go_at_call 122; refine (hN2 _).mono ?_; rintro e w2 ⟨rfl, h2⟩) | fail)
    go_ret2
    have hB := (b0.trans (h1.mono b0.size)).trans (h2.mono (Nat.le_trans b0.size h1.size))
    rw [show R = s from HS.out]
    exact ⟨rfl, HP.out.below hB, (Turn.of_below hB).mono (by simp)⟩
  | none =>
    rw [hp] at HS
    have hN2 : ∀ W, Calls Tryz.prog 122 #[.string T] W fun e w' => (∃ t c, e = .returned (.tuple #[.string t, .int .i64 c]) ∧ (c == 0) = false) ∧ Below W.heap.size W w' := by
      intro W
      refine (hN W).mono ?_
      rintro e w' ⟨⟨t, c, rfl, h1, h2⟩, h3⟩
      rw [hp] at h1
      refine ⟨⟨t, c, rfl, ?_⟩, h3⟩
      simp at h1 ⊢
      exact h1
    clear hN hp h hu hb
    generalize str line = L at *
    generalize str u = U at *
    show Calls _ _ _ _ fun e w' => e = .returned (.tuple #[.string ⟨#[]⟩, .bool false]) ∧ _
    go_enter Tryz.func105, Tryz.ntmps105
    go_wp2_with (first | (go_at_call 101; refine hT.mono ?_; rintro e w1 ⟨rfl, h1⟩) | (go_at_call 122; refine (hN2 _).mono ?_; rintro e w2 ⟨⟨t, c, rfl, hc⟩, h2⟩; have hB := (b0.trans (h1.mono b0.size)).trans (h2.mono (Nat.le_trans b0.size h1.size)); have hF2 := hF w2 (HP.out.below hB)) | (go_at_call 52; refine hF2.mono ?_; rintro e w3 ⟨rfl, h4, h5⟩) | fail)
    go_ret2
    rw [show R = _ from HS.out]
    exact ⟨rfl, h4, ((Turn.of_below hB).mono (by simp)).trans h5 (fun _ hx _ => hx)⟩

end Go.Proofs.YtnobmgkdieaclaaGreatDoor

namespace Go.Proofs.YtnobmgkdieaclaaGreatDoor
open Go.RowKit

theorem MapH.look {w : World} {b n : Nat} {f : Ip.B → Option Ip.B} (h : MapH w b n f) {p : Ip.B} (hp : p.length ≤ 1000) :
    (Instr.lookup 60 (.map (some b)) (.string (str p)) true).run Tryz.prog w = .ok (.tuple #[.agg #[.string (str ((f p).getD []))], .bool (f p).isSome]) w := by
  have := MapV.look h (t := 60) (E := 89) Tryz.underlying60 (z := .agg #[.string (str [])]) (by kernel_rfl) (x := str p) (by rw [str_size]; omega)
  rw [bs_str] at this
  rw [this]
  cases f p <;> rfl
theorem path_len {line u p : Ip.B} (h : Ip.St.pathOf line u = some p) : p.length ≤ 60 ∧ Pm.isP p = true := by
  unfold Ip.St.pathOf at h
  by_cases h0 : (Pm.norm (Ip.told line u)).2 = 0
  · rw [if_pos h0] at h
    simp only [Option.some.injEq] at h
    have hp := (Pm.norm_path (s := Ip.told line u) (p := p) (by rw [← h, ← h0])).1
    exact ⟨(Pm.isP_parts hp).1, hp⟩
  · rw [if_neg h0] at h; cases h

set_option maxRecDepth 100000 in
set_option maxHeartbeats 1000000 in
theorem ask_any (line u : List UInt8) (w : World) (O : List Nat) (x : RP) (s : Ip.St) (h : RunS w O x s) (hu : u.length ≤ 4000) (hb : line.length ≤ 256) (hnd : s.needs.length ≤ 8) :
    Calls Tryz.prog 98 #[.pointer (some ⟨x.p, 0, none⟩), .string (str line), .string (str u)] w fun e w' => e = .returned (.tuple #[.string (str ((s.has line u).getD [])), .bool (s.has line u).isSome]) ∧ Went w O x (s.ask line u) w' := by
  have hP := pathOf_any line u w O x s h hu hb
  have hown : ∀ {W : World}, Turn [x.p] w W → Turn x.own w W := fun hT => hT.mono (fun b hb _ => by simp at hb; rw [hb]; exact x.p_own)
  cases hp : Ip.St.pathOf line u with
  | none =>
    have e1 : s.has line u = none := by unfold Ip.St.has; rw [hp]; rfl
    have e2 : s.ask line u = s.path line u := by unfold Ip.St.ask Ip.St.path; rw [hp]
    rw [hp] at hP
    rw [e1, e2]
    change Calls _ _ _ _ fun e w' => e = .returned (.tuple #[.string ⟨#[]⟩, .bool false]) ∧ _ at hP
    change Calls _ _ _ _ fun e w' => e = .returned (.tuple #[.string ⟨#[]⟩, .bool false]) ∧ _
    clear hp e1 e2 h hu hb hnd
    generalize s.path line u = R at *
    generalize str line = L at *
    generalize str u = U at *
    go_enter Tryz.func98, Tryz.ntmps98
    go_wp2_with (first | (go_at_call 105; refine hP.mono ?_; rintro e w1 ⟨rfl, h1, h2⟩) | fail)
    go_ret2
    exact ⟨rfl, Went.same h1 (hown h2)⟩
  | some p =>
    have e2 : s.path line u = s := by unfold Ip.St.path; rw [hp]
    rw [hp, e2] at hP
    have hpl := (path_len hp).1
    change Calls _ _ _ _ fun e w' => e = .returned (.tuple #[.string (str p), .bool true]) ∧ _ at hP
    have hlk : ∀ W, RunS W O x s → (Instr.lookup 60 (.map (some x.mt)) (.string (str p)) true).run Tryz.prog W = .ok (.tuple #[.agg #[.string (str ((s.told p).getD []))], .bool (s.told p).isSome]) W := by
      intro W hW
      obtain ⟨n, m1, -⟩ := hW.mt
      exact m1.look (by omega)
    cases ht : s.told p with
    | some c =>
      have e1 : s.has line u = some c := by unfold Ip.St.has; rw [hp]; exact ht
      have e3 : s.ask line u = s := by unfold Ip.St.ask; rw [hp]; simp only [ht]
      rw [ht] at hlk
      rw [e1, e3]
      replace hlk : ∀ W, RunS W O x s → (Instr.lookup 60 (.map (some x.mt)) (.string (str p)) true).run Tryz.prog W = .ok (.tuple #[.agg #[.string (str c)], .bool true]) W := hlk
      change Calls _ _ _ _ fun e w' => e = .returned (.tuple #[.string (str c), .bool true]) ∧ _
      clear e1 e2 e3 hp ht h hu hb hnd hpl
      generalize str line = L at *
      generalize str u = U at *
      generalize str p = P at *
      generalize str c = C at *
      go_enter Tryz.func98, Tryz.ntmps98
      go_wp2_with (first | (go_at_call 105; refine hP.mono ?_; rintro e w1 ⟨rfl, h1, h2⟩; have k6 := h1.c6; have hl1 := hlk w1 h1) | fail)
      go_ret2
      have hB : Below w1.heap.size w1 (w1.alloc (.cells #[.string C] 89)) := (Below.refl _ w1).alloc (Nat.le_refl _) _
      exact ⟨rfl, Went.same (h1.below hB) (hown (h2.belowTrans hB))⟩
    | none =>
      have e1 : s.has line u = none := by unfold Ip.St.has; rw [hp]; exact ht
      rw [ht] at hlk
      rw [e1]
      replace hlk : ∀ W, RunS W O x s → (Instr.lookup 60 (.map (some x.mt)) (.string (str p)) true).run Tryz.prog W = .ok (.tuple #[.agg #[.string ⟨#[]⟩], .bool false]) W := hlk
      change Calls _ _ _ _ fun e w' => e = .returned (.tuple #[.string ⟨#[]⟩, .bool false]) ∧ _
      have hnn : ∀ W, RunS W O x s → x.nn = s.needs.length := fun W hW => by
        obtain ⟨ad, c, e, -⟩ := hW.nd.sl.shape
        simp only [RP.nv, Value.slice.injEq] at e
        exact e.2.1
      have nn1 := hnn w h
      by_cases h8 : 8 ≤ s.needs.length
      · have e3 : s.ask line u = s.fail 144 p := by unfold Ip.St.ask; rw [hp]; simp only [ht]; rw [if_pos h8]
        rw [e3]
        have g1 : (8 : Int) ≤ (x.nn : Int) := by omega
        have hF := fun W hh => fail_any 144 p W O x s hh
        clear e1 e2 e3 hp ht h hu hb hnd hpl h8 nn1 hnn
        generalize str line = L at *
        generalize str u = U at *
        generalize str p = P at *
        go_enter Tryz.func98, Tryz.ntmps98
        go_upto_region 7 with (first | (go_at_call 105; refine hP.mono ?_; rintro e w1 ⟨rfl, h1, h2⟩; have k6 := h1.c6; have hl1 := hlk w1 h1) | fail)
        have hB : Below w1.heap.size w1 (w1.alloc (.cells #[.string ⟨#[]⟩] 89)) := (Below.refl _ w1).alloc (Nat.le_refl _) _
        generalize w1.alloc (.cells #[.string ⟨#[]⟩] 89) = W2 at *
        have h3 := h1.below hB
        have k8 := h3.c8
        have hF2 := hF W2 h3
        go_wp2_with (first | (go_at_call 52; refine hF2.mono ?_; rintro e w3 ⟨rfl, h4, h5⟩) | fail)
        go_ret2
        exact ⟨rfl, Went.same h4 (hown ((h2.belowTrans hB).trans h5 (fun _ hx _ => hx)))⟩
      · have e3 : s.ask line u = { s with needs := s.needs ++ [p], ev := ⟨1, p, 0, []⟩ } := by unfold Ip.St.ask; rw [hp]; simp only [ht]; rw [if_neg h8]
        rw [e3]
        have g1 : ¬ (8 : Int) ≤ (x.nn : Int) := by omega
        have HLn : Hid (s.needs.length + [p].length ≤ 1099511627) := by show _ ≤ _; simp; omega
        clear e1 e2 e3 hp ht h hu hb hnd hpl h8 nn1 hnn
        generalize str line = L at *
        generalize str u = U at *
        go_enter Tryz.func98, Tryz.ntmps98
        go_upto_region 7 with (first | (go_at_call 105; refine hP.mono ?_; rintro e w1 ⟨rfl, h1, h2⟩; have k6 := h1.c6; have hl1 := hlk w1 h1) | fail)
        have hB : Below w1.heap.size w1 (w1.alloc (.cells #[.string ⟨#[]⟩] 89)) := (Below.refl _ w1).alloc (Nat.le_refl _) _
        generalize w1.alloc (.cells #[.string ⟨#[]⟩] 89) = W2 at *
        have h3 := h1.below hB
        have k8 := h3.c8
        have hsub := hown (h2.belowTrans hB)
        have hL4 := TxR.lit W2 p #[.string (str p)] rfl
        have hO4 := h3.nd.alloc (.cells #[.string (str p)] 9)
        have h7 : 7 ≤ W2.heap.size := by have := h3.low _ x.p_own; have := h3.row.lt; omega
        go_wp2_with (at_builtin; go_must (refine TxR.append_at rfl _ _ rfl 7 (W2.heap.size + 1) _ _ s.needs [p] rfl hO4 rfl hL4 (by simp) HLn (by rw [size_alloc]; omega) ?_))
        intro g cap w4 hO5 hg5 hw5 hlt5
        obtain ⟨r1, r2, r3⟩ := h3.asked hO5 hg5 (hw5.imp id (fun e => by rw [size_alloc]; exact e))
        have hr4 := h3.row_app hg5
        have q8 : w4.cell? ⟨x.p, 8, none⟩ = some (.slice x.na x.nn x.nc) := hr4.cell 8
        have q9 : w4.cell? ⟨x.p, 9, none⟩ = some (.int .i64 (s.ev.kind : Int)) := hr4.cell 9
        have q10 : w4.cell? ⟨x.p, 10, none⟩ = some (.string (str s.ev.path)) := hr4.cell 10
        have q11 : w4.cell? ⟨x.p, 11, none⟩ = some (.int .i64 (s.ev.why : Int)) := hr4.cell 11
        have q12 : w4.cell? ⟨x.p, 12, none⟩ = some (.string (str s.ev.text)) := hr4.cell 12
        have qf := hr4.free
        have HR : Hid (Went W2 O x { s with needs := s.needs ++ [p], ev := ⟨1, p, 0, []⟩ } (evW (w4.setCell ⟨x.p, 8, none⟩ (.slice (some ⟨g, 0, none⟩) (s.needs.length + 1) cap)) x.p ⟨1, p, 0, []⟩)) := ⟨x.withN g (s.needs.length + 1) cap, rfl, r1, r2, r3⟩
        have HW2 : Hid (Went W2 O x { s with needs := s.needs ++ [p], ev := ⟨1, p, 0, []⟩ } (evW (w4.setCell ⟨x.p, 8, none⟩ (.slice (some ⟨g, 0, none⟩) (s.needs.length + 1) cap)) x.p ⟨1, p, 0, []⟩) → Went w O x { s with needs := s.needs ++ [p], ev := ⟨1, p, 0, []⟩ } (evW (w4.setCell ⟨x.p, 8, none⟩ (.slice (some ⟨g, 0, none⟩) (s.needs.length + 1) cap)) x.p ⟨1, p, 0, []⟩)) := fun hh => by
          obtain ⟨x', a1, a2, a3, a4⟩ := hh
          refine ⟨x', a1, a2, fun b hb => ?_, hsub.trans a4 (fun _ hx _ => hx)⟩
          rcases a3 b hb with h | h
          · exact .inl h
          · exact .inr (Nat.le_trans hsub.size h)
        have HF := HW2.out HR.out
        clear r1 r2 r3 hr4 HR HW2 hO5 hg5 hw5 hL4 hO4 HLn hP hlk h1 h2 h3 hB hsub hown k6 k8 hl1
        have HF : Hid _ := HF
        unfold evW at HF
        dsimp only at HF
        generalize str s.ev.path = EP at *
        generalize str s.ev.text = ET at *
        change Hid (Went w O x _ _) at HF
        go_wp2
        go_ret2
        exact ⟨rfl, HF.out⟩

end Go.Proofs.YtnobmgkdieaclaaGreatDoor
