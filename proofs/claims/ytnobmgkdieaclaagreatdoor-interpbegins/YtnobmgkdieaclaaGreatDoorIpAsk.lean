/-
  WHAT pathOf, ask DO.
-/
import Derived.Test.YtnobmgkdieaclaaGreatDoorIpRow
import Derived.Test.YtnobmgkdieaclaaGreatDoorBd
import Derived.Test.YtnobmgkdieaclaaGreatDoorPXS
import Derived.Test.YtnobmgkdieaclaaGreatDoorIpMove
namespace Go.Proofs.YtnobmgkdieaclaaGreatDoor
open Go.RowKit

/-- what becomes of a run at a word that may have no path -/
def Ip.St.path (s : Ip.St) (line w : Ip.B) : Ip.St := match Ip.St.pathOf line w with
  | some _ => s
  | none => s.fail 141 (Ip.told line w)
theorem norm_of (line u : List UInt8) (w : World) (hl : line.length ≤ 10000) (hu : u.length ≤ 4000) (hb : line.length ≤ 256) :
    Calls Tryz.prog 122 #[.string (str (Ip.told line u))] w fun e w' => (∃ t c, e = .returned (.tuple #[.string t, .int .i64 c]) ∧ (c = 0 ↔ (Ip.St.pathOf line u).isSome = true) ∧ ∀ p, Ip.St.pathOf line u = some p → t = str p) ∧ Below w.heap.size w w' := by
  have hlen := flat_len 64 line u
  rw [← told_flat] at hlen
  have h1 : u.length * (line.length + 1) ≤ 4000 * 257 := Nat.mul_le_mul hu (by omega)
  refine (Norm_any (str (Ip.told line u)) w (by rw [str_size]; omega)).mono ?_
  rintro e w' ⟨⟨t, rfl, ht⟩, hB⟩
  rw [bs_str] at ht ⊢
  refine ⟨⟨t, _, rfl, ?_, fun p hp => ?_⟩, hB⟩
  · unfold Ip.St.pathOf
    by_cases h0 : (Pm.norm (Ip.told line u)).2 = 0
    · rw [if_pos h0]; simp [h0]
    · rw [if_neg h0]; simp; omega
  · unfold Ip.St.pathOf at hp
    by_cases h0 : (Pm.norm (Ip.told line u)).2 = 0
    · rw [if_pos h0] at hp
      simp only [Option.some.injEq] at hp
      rw [← hp, ← ht, str_bs]
    · rw [if_neg h0] at hp; cases hp

set_option maxRecDepth 100000 in
theorem pathOf_any (line u : List UInt8) (w : World) (O : List Nat) (x : RP) (s : Ip.St) (h : RunS w O x s) (hu : u.length ≤ 4000) (hb : line.length ≤ 256) :
    Calls Tryz.prog 105 #[.pointer (some ⟨x.p, 0, none⟩), .string (str line), .string (str u)] w fun e w' => e = .returned (.tuple #[.string (str ((Ip.St.pathOf line u).getD [])), .bool (Ip.St.pathOf line u).isSome]) ∧ RunS w' O x (s.path line u) ∧ Turn [x.p] w w' := by
  have hT := asTold_any line [u] (.slice (some ⟨w.heap.size, 0, none⟩) 1 1) (w.alloc (.cells #[.string (str u)] 9)) (w.heap.size + 1) (row_one w u) (by rw [size_alloc]; exact Nat.le_refl _) (by show u.length ≤ _; omega) (by simp) (by omega)
  have hN := fun W => norm_of line u W (by omega) hu hb
  have hF := fun W hh => fail_any 141 (Ip.told line u) W O x s hh
  have b0 := (Below.refl w.heap.size w).alloc (Nat.le_refl _) (.cells #[.string (str u)] 9)
  change Calls _ _ _ _ fun e w' => e = .returned (.string (str (Ip.told line u))) ∧ _ at hT
  have HP : Hid _ := h
  have HS : Hid (s.path line u = match Ip.St.pathOf line u with | some _ => s | none => s.fail 141 (Ip.told line u)) := rfl
  generalize s.path line u = R at *
  generalize str (Ip.told line u) = T at *
  cases hp : Ip.St.pathOf line u with
  | some p =>
    rw [hp] at HS
    have hN2 : ∀ W, Calls Tryz.prog 122 #[.string T] W fun e w' => e = .returned (.tuple #[.string (str p), .int .i64 0]) ∧ Below W.heap.size W w' := by
      intro W
      refine (hN W).mono ?_
      rintro e w' ⟨⟨t, c, rfl, h1, h2⟩, h3⟩
      rw [hp] at h1 h2
      rw [h1.2 rfl, h2 p rfl]
      exact ⟨rfl, h3⟩
    clear hN hp hF h hu hb
    generalize str line = L at *
    generalize str u = U at *
    show Calls _ _ _ _ fun e w' => e = .returned (.tuple #[.string (str p), .bool true]) ∧ _
    generalize str p = P at *
    go_enter Tryz.func105, Tryz.ntmps105
    go_wp2_with (first | (go_at_call 101; refine hT.mono ?_; rintro e w1 ⟨rfl, h1⟩) | (go_at_call 122; refine (hN2 _).mono ?_; rintro e w2 ⟨rfl, h2⟩) | fail)
    go_ret2
    have hB := (b0.trans (h1.mono b0.size)).trans (h2.mono (Nat.le_trans b0.size h1.size))
    rw [show R = s from HS.out]
    exact ⟨rfl, HP.out.below hB, (Turn.of_below hB).mono (by simp)⟩
  | none =>
    rw [hp] at HS
    have hN2 : ∀ W, Calls Tryz.prog 122 #[.string T] W fun e w' => (∃ t c, e = .returned (.tuple #[.string t, .int .i64 c]) ∧ (c == 0) = false) ∧ Below W.heap.size W w' := by
      intro W
      refine (hN W).mono ?_
      rintro e w' ⟨⟨t, c, rfl, h1, h2⟩, h3⟩
      rw [hp] at h1
      refine ⟨⟨t, c, rfl, ?_⟩, h3⟩
      simp at h1 ⊢
      exact h1
    clear hN hp h hu hb
    generalize str line = L at *
    generalize str u = U at *
    show Calls _ _ _ _ fun e w' => e = .returned (.tuple #[.string ⟨#[]⟩, .bool false]) ∧ _
    go_enter Tryz.func105, Tryz.ntmps105
    go_wp2_with (first | (go_at_call 101; refine hT.mono ?_; rintro e w1 ⟨rfl, h1⟩) | (go_at_call 122; refine (hN2 _).mono ?_; rintro e w2 ⟨⟨t, c, rfl, hc⟩, h2⟩; have hB := (b0.trans (h1.mono b0.size)).trans (h2.mono (Nat.le_trans b0.size h1.size)); have hF2 := hF w2 (HP.out.below hB)) | (go_at_call 52; refine hF2.mono ?_; rintro e w3 ⟨rfl, h4, h5⟩) | fail)
    go_ret2
    rw [show R = _ from HS.out]
    exact ⟨rfl, h4, ((Turn.of_below hB).mono (by simp)).trans h5 (fun _ hx _ => hx)⟩

end Go.Proofs.YtnobmgkdieaclaaGreatDoor

namespace Go.Proofs.YtnobmgkdieaclaaGreatDoor
open Go.RowKit

theorem MapH.look {w : World} {b n : Nat} {f : Ip.B → Option Ip.B} (h : MapH w b n f) {p : Ip.B} (hp : p.length ≤ 1000) :
    (Instr.lookup 60 (.map (some b)) (.string (str p)) true).run Tryz.prog w = .ok (.tuple #[.agg #[.string (str ((f p).getD []))], .bool (f p).isSome]) w := by
  have := MapV.look h (t := 60) (E := 89) Tryz.underlying60 (z := .agg #[.string (str [])]) (by kernel_rfl) (x := str p) (by rw [str_size]; omega)
  rw [bs_str] at this
  rw [this]
  cases f p <;> rfl
theorem path_len {line u p : Ip.B} (h : Ip.St.pathOf line u = some p) : p.length ≤ 60 ∧ Pm.isP p = true := by
  unfold Ip.St.pathOf at h
  by_cases h0 : (Pm.norm (Ip.told line u)).2 = 0
  · rw [if_pos h0] at h
    simp only [Option.some.injEq] at h
    have hp := (Pm.norm_path (s := Ip.told line u) (p := p) (by rw [← h, ← h0])).1
    exact ⟨(Pm.isP_parts hp).1, hp⟩
  · rw [if_neg h0] at h; cases h

set_option maxRecDepth 100000 in
set_option maxHeartbeats 1000000 in
theorem ask_any (line u : List UInt8) (w : World) (O : List Nat) (x : RP) (s : Ip.St) (h : RunS w O x s) (hu : u.length ≤ 4000) (hb : line.length ≤ 256) (hnd : s.needs.length ≤ 8) :
    Calls Tryz.prog 98 #[.pointer (some ⟨x.p, 0, none⟩), .string (str line), .string (str u)] w fun e w' => e = .returned (.tuple #[.string (str ((s.has line u).getD [])), .bool (s.has line u).isSome]) ∧ Went w O x (s.ask line u) w' := by
  have hP := pathOf_any line u w O x s h hu hb
  have hown : ∀ {W : World}, Turn [x.p] w W → Turn x.own w W := fun hT => hT.mono (fun b hb _ => by simp at hb; rw [hb]; exact x.p_own)
  cases hp : Ip.St.pathOf line u with
  | none =>
    have e1 : s.has line u = none := by unfold Ip.St.has; rw [hp]; rfl
    have e2 : s.ask line u = s.path line u := by unfold Ip.St.ask Ip.St.path; rw [hp]
    rw [hp] at hP
    rw [e1, e2]
    change Calls _ _ _ _ fun e w' => e = .returned (.tuple #[.string ⟨#[]⟩, .bool false]) ∧ _ at hP
    change Calls _ _ _ _ fun e w' => e = .returned (.tuple #[.string ⟨#[]⟩, .bool false]) ∧ _
    clear hp e1 e2 h hu hb hnd
    generalize s.path line u = R at *
    generalize str line = L at *
    generalize str u = U at *
    go_enter Tryz.func98, Tryz.ntmps98
    go_wp2_with (first | (go_at_call 105; refine hP.mono ?_; rintro e w1 ⟨rfl, h1, h2⟩) | fail)
    go_ret2
    exact ⟨rfl, Went.same h1 (hown h2)⟩
  | some p =>
    have e2 : s.path line u = s := by unfold Ip.St.path; rw [hp]
    rw [hp, e2] at hP
    have hpl := (path_len hp).1
    change Calls _ _ _ _ fun e w' => e = .returned (.tuple #[.string (str p), .bool true]) ∧ _ at hP
    have hlk : ∀ W, RunS W O x s → (Instr.lookup 60 (.map (some x.mt)) (.string (str p)) true).run Tryz.prog W = .ok (.tuple #[.agg #[.string (str ((s.told p).getD []))], .bool (s.told p).isSome]) W := by
      intro W hW
      obtain ⟨n, m1, -⟩ := hW.mt
      exact m1.look (by omega)
    cases ht : s.told p with
    | some c =>
      have e1 : s.has line u = some c := by unfold Ip.St.has; rw [hp]; exact ht
      have e3 : s.ask line u = s := by unfold Ip.St.ask; rw [hp]; simp only [ht]
      rw [ht] at hlk
      rw [e1, e3]
      replace hlk : ∀ W, RunS W O x s → (Instr.lookup 60 (.map (some x.mt)) (.string (str p)) true).run Tryz.prog W = .ok (.tuple #[.agg #[.string (str c)], .bool true]) W := hlk
      change Calls _ _ _ _ fun e w' => e = .returned (.tuple #[.string (str c), .bool true]) ∧ _
      clear e1 e2 e3 hp ht h hu hb hnd hpl
      generalize str line = L at *
      generalize str u = U at *
      generalize str p = P at *
      generalize str c = C at *
      go_enter Tryz.func98, Tryz.ntmps98
      go_wp2_with (first | (go_at_call 105; refine hP.mono ?_; rintro e w1 ⟨rfl, h1, h2⟩; have k6 := h1.c6; have hl1 := hlk w1 h1) | fail)
      go_ret2
      have hB : Below w1.heap.size w1 (w1.alloc (.cells #[.string C] 89)) := (Below.refl _ w1).alloc (Nat.le_refl _) _
      exact ⟨rfl, Went.same (h1.below hB) (hown (h2.belowTrans hB))⟩
    | none =>
      have e1 : s.has line u = none := by unfold Ip.St.has; rw [hp]; exact ht
      rw [ht] at hlk
      rw [e1]
      replace hlk : ∀ W, RunS W O x s → (Instr.lookup 60 (.map (some x.mt)) (.string (str p)) true).run Tryz.prog W = .ok (.tuple #[.agg #[.string ⟨#[]⟩], .bool false]) W := hlk
      change Calls _ _ _ _ fun e w' => e = .returned (.tuple #[.string ⟨#[]⟩, .bool false]) ∧ _
      have hnn : ∀ W, RunS W O x s → x.nn = s.needs.length := fun W hW => by
        obtain ⟨ad, c, e, -⟩ := hW.nd.sl.shape
        simp only [RP.nv, Value.slice.injEq] at e
        exact e.2.1
      have nn1 := hnn w h
      by_cases h8 : 8 ≤ s.needs.length
      · have e3 : s.ask line u = s.fail 144 p := by unfold Ip.St.ask; rw [hp]; simp only [ht]; rw [if_pos h8]
        rw [e3]
        have g1 : (8 : Int) ≤ (x.nn : Int) := by omega
        have hF := fun W hh => fail_any 144 p W O x s hh
        clear e1 e2 e3 hp ht h hu hb hnd hpl h8 nn1 hnn
        generalize str line = L at *
        generalize str u = U at *
        generalize str p = P at *
        go_enter Tryz.func98, Tryz.ntmps98
        go_upto_region 7 with (first | (go_at_call 105; refine hP.mono ?_; rintro e w1 ⟨rfl, h1, h2⟩; have k6 := h1.c6; have hl1 := hlk w1 h1) | fail)
        have hB : Below w1.heap.size w1 (w1.alloc (.cells #[.string ⟨#[]⟩] 89)) := (Below.refl _ w1).alloc (Nat.le_refl _) _
        generalize w1.alloc (.cells #[.string ⟨#[]⟩] 89) = W2 at *
        have h3 := h1.below hB
        have k8 := h3.c8
        have hF2 := hF W2 h3
        go_wp2_with (first | (go_at_call 52; refine hF2.mono ?_; rintro e w3 ⟨rfl, h4, h5⟩) | fail)
        go_ret2
        exact ⟨rfl, Went.same h4 (hown ((h2.belowTrans hB).trans h5 (fun _ hx _ => hx)))⟩
      · have e3 : s.ask line u = { s with needs := s.needs ++ [p], ev := ⟨1, p, 0, []⟩ } := by unfold Ip.St.ask; rw [hp]; simp only [ht]; rw [if_neg h8]
        rw [e3]
        have g1 : ¬ (8 : Int) ≤ (x.nn : Int) := by omega
        have HLn : Hid (s.needs.length + [p].length ≤ 1099511627) := by show _ ≤ _; simp; omega
        clear e1 e2 e3 hp ht h hu hb hnd hpl h8 nn1 hnn
        generalize str line = L at *
        generalize str u = U at *
        go_enter Tryz.func98, Tryz.ntmps98
        go_upto_region 7 with (first | (go_at_call 105; refine hP.mono ?_; rintro e w1 ⟨rfl, h1, h2⟩; have k6 := h1.c6; have hl1 := hlk w1 h1) | fail)
        have hB : Below w1.heap.size w1 (w1.alloc (.cells #[.string ⟨#[]⟩] 89)) := (Below.refl _ w1).alloc (Nat.le_refl _) _
        generalize w1.alloc (.cells #[.string ⟨#[]⟩] 89) = W2 at *
        have h3 := h1.below hB
        have k8 := h3.c8
        have hsub := hown (h2.belowTrans hB)
        have hL4 := TxR.lit W2 p #[.string (str p)] rfl
        have hO4 := h3.nd.alloc (.cells #[.string (str p)] 9)
        have h7 : 7 ≤ W2.heap.size := by have := h3.low _ x.p_own; have := h3.row.lt; omega
        go_wp2_with (at_builtin; go_must (refine TxR.append_at rfl _ _ rfl 7 (W2.heap.size + 1) _ _ s.needs [p] rfl hO4 rfl hL4 (by simp) HLn (by rw [size_alloc]; omega) ?_))
        intro g cap w4 hO5 hg5 hw5 hlt5
        obtain ⟨r1, r2, r3⟩ := h3.asked hO5 hg5 (hw5.imp id (fun e => by rw [size_alloc]; exact e))
        have hr4 := h3.row_app hg5
        have q8 : w4.cell? ⟨x.p, 8, none⟩ = some (.slice x.na x.nn x.nc) := hr4.cell 8
        have q9 : w4.cell? ⟨x.p, 9, none⟩ = some (.int .i64 (s.ev.kind : Int)) := hr4.cell 9
        have q10 : w4.cell? ⟨x.p, 10, none⟩ = some (.string (str s.ev.path)) := hr4.cell 10
        have q11 : w4.cell? ⟨x.p, 11, none⟩ = some (.int .i64 (s.ev.why : Int)) := hr4.cell 11
        have q12 : w4.cell? ⟨x.p, 12, none⟩ = some (.string (str s.ev.text)) := hr4.cell 12
        have qf := hr4.free
        have HR : Hid (Went W2 O x { s with needs := s.needs ++ [p], ev := ⟨1, p, 0, []⟩ } (evW (w4.setCell ⟨x.p, 8, none⟩ (.slice (some ⟨g, 0, none⟩) (s.needs.length + 1) cap)) x.p ⟨1, p, 0, []⟩)) := ⟨x.withN g (s.needs.length + 1) cap, rfl, r1, r2, r3⟩
        have HW2 : Hid (Went W2 O x { s with needs := s.needs ++ [p], ev := ⟨1, p, 0, []⟩ } (evW (w4.setCell ⟨x.p, 8, none⟩ (.slice (some ⟨g, 0, none⟩) (s.needs.length + 1) cap)) x.p ⟨1, p, 0, []⟩) → Went w O x { s with needs := s.needs ++ [p], ev := ⟨1, p, 0, []⟩ } (evW (w4.setCell ⟨x.p, 8, none⟩ (.slice (some ⟨g, 0, none⟩) (s.needs.length + 1) cap)) x.p ⟨1, p, 0, []⟩)) := fun hh => by
          obtain ⟨x', a1, a2, a3, a4⟩ := hh
          refine ⟨x', a1, a2, fun b hb => ?_, hsub.trans a4 (fun _ hx _ => hx)⟩
          rcases a3 b hb with h | h
          · exact .inl h
          · exact .inr (Nat.le_trans hsub.size h)
        have HF := HW2.out HR.out
        clear r1 r2 r3 hr4 HR HW2 hO5 hg5 hw5 hL4 hO4 HLn hP hlk h1 h2 h3 hB hsub hown k6 k8 hl1
        have HF : Hid _ := HF
        unfold evW at HF
        dsimp only at HF
        generalize str s.ev.path = EP at *
        generalize str s.ev.text = ET at *
        change Hid (Went w O x _ _) at HF
        go_wp2
        go_ret2
        exact ⟨rfl, HF.out⟩

end Go.Proofs.YtnobmgkdieaclaaGreatDoor

namespace Go.Proofs.YtnobmgkdieaclaaGreatDoor
open Go.RowKit Go.MapKept Go.Maps Go.ChangeMaps

set_option maxRecDepth 100000 in
theorem Index_texts (l : List (List UInt8)) (v : Value) (p : List UInt8) (w : World) (B : Nat) (h : TxR.Sl w B v l) (hl : l.length ≤ 1099511627) :
    Calls Tryz.prog 88 #[v, .string (str p)] w fun e w' => (∃ k : Int, e = .returned (.int .i64 k) ∧ -1 ≤ k ∧ (0 ≤ k ↔ p ∈ l)) ∧ w' = w := by
  obtain ⟨ad, c, rfl, hle⟩ := h.shape
  have nb : (l.length : Int) ≤ 1099511627 := by omega
  have HN : Hid _ := hl
  clear hl
  go_enter Tryz.func88, Tryz.ntmps88
  go_wp2
  go_loop [8] (fun i => ∃ k : Nat, k ≤ l.length ∧ i = .int .i64 (k : Int) ∧ Hid (p ∉ l.take k)) (fun i => l.length - (intOf i).toNat)
  case atStart => exact ⟨0, Nat.zero_le _, rfl, by show _ ∉ _; simp⟩
  case round =>
    obtain ⟨k, hk, rfl, HM⟩ := hrel
    by_cases hlt : k < l.length
    · have i1 : (k : Int) < (l.length : Int) := by omega
      obtain ⟨g, o, c', e1, hg, p1⟩ := TxR.at h hlt
      simp only [Value.slice.injEq] at e1
      obtain ⟨rfl, -, rfl⟩ := e1
      have hbq := beq_str p l[k]
      by_cases he : p = l[k]
      · have q1 : ((str p).toList == (str l[k]).toList) = true := by rw [hbq]; simpa using he
        have HE : Hid (p ∈ l) := by show p ∈ l; rw [he]; exact List.getElem_mem hlt
        clear hbq he
        generalize str l[k] = Y at *
        generalize str p = X at *
        go_wp2
        go_ret
        exact ⟨⟨k, rfl, by omega, by simp [HE.out]⟩, rfl⟩
      · have q1 : ((str p).toList == (str l[k]).toList) = false := by rw [hbq]; simpa using he
        have HE : Hid (p ∉ l.take (k + 1)) := by
          show p ∉ _
          rw [List.take_succ_eq_append_getElem hlt]
          simp only [List.mem_append, List.mem_singleton, not_or]
          exact ⟨HM.out, he⟩
        clear hbq he
        generalize str l[k] = Y at *
        generalize str p = X at *
        go_wp2
        exact ⟨⟨k + 1, by omega, by go_num, HE.out⟩, by simp [intOf]; omega⟩
    · obtain rfl : k = l.length := by omega
      have i1 : ¬ (l.length : Int) < (l.length : Int) := by omega
      have HM2 := HM.out
      rw [List.take_length] at HM2
      have HE : Hid _ := HM2
      clear HM HM2
      go_wp2
      go_ret
      exact ⟨⟨-1, rfl, by omega, by simp; exact HE.out⟩, rfl⟩
set_option maxRecDepth 100000 in
theorem Contains_texts (l : List (List UInt8)) (v : Value) (p : List UInt8) (w : World) (B : Nat) (h : TxR.Sl w B v l) (hl : l.length ≤ 1099511627) :
    Calls Tryz.prog 63 #[v, .string (str p)] w fun e w' => e = .returned (.bool (decide (p ∈ l))) ∧ w' = w := by
  have hI := Index_texts l v p w B h hl
  obtain ⟨ad, c, rfl, hle⟩ := h.shape
  by_cases hm : p ∈ l
  · rw [decide_eq_true hm]
    have hI2 : Calls Tryz.prog 88 #[.slice ad l.length c, .string (str p)] w fun e w' => (∃ k : Int, e = .returned (.int .i64 k) ∧ 0 ≤ k) ∧ w' = w := by
      refine hI.mono ?_
      rintro e w' ⟨⟨k, rfl, h1, h2⟩, h3⟩
      exact ⟨⟨k, rfl, h2.2 hm⟩, h3⟩
    clear hI hm
    generalize str p = X at *
    go_enter Tryz.func63, Tryz.ntmps63
    go_wp2_with (first | (go_at_call 88; refine hI2.mono ?_; rintro e w1 ⟨⟨k, rfl, h1⟩, hw⟩; rw [hw]; clear hw) | fail)
    go_ret
    exact ⟨rfl, rfl⟩
  · rw [decide_eq_false hm]
    have hI2 : Calls Tryz.prog 88 #[.slice ad l.length c, .string (str p)] w fun e w' => e = .returned (.int .i64 (-1)) ∧ w' = w := by
      refine hI.mono ?_
      rintro e w' ⟨⟨k, rfl, h1, h2⟩, h3⟩
      have hk : ¬ 0 ≤ k := fun h => hm (h2.1 h)
      have : k = -1 := by omega
      rw [this]
      exact ⟨rfl, h3⟩
    clear hI hm
    generalize str p = X at *
    go_enter Tryz.func63, Tryz.ntmps63
    go_wp2_with (first | (go_at_call 88; refine hI2.mono ?_; rintro e w1 ⟨rfl, hw⟩; rw [hw]; clear hw) | fail)
    go_ret
    exact ⟨rfl, rfl⟩


theorem count_upd (f : Ip.B → Option Ip.B) (p v : Ip.B) (hf : f p = none) : ∀ l : List Ip.B, l.countP (fun q => (f q).isSome) ≤ l.countP (fun q => (Ip.upd f p v q).isSome) ∧ (p ∈ l → l.countP (fun q => (f q).isSome) + 1 ≤ l.countP (fun q => (Ip.upd f p v q).isSome))
  | [] => by simp
  | a :: r => by
    obtain ⟨h1, h2⟩ := count_upd f p v hf r
    rw [List.countP_cons, List.countP_cons]
    by_cases ha : a = p
    · have e1 : (f a).isSome = false := by rw [ha, hf]; rfl
      have e2 : (Ip.upd f p v a).isSome = true := by rw [ha]; simp [Ip.upd]
      rw [e1, e2]
      simp
      omega
    · have e2 : (Ip.upd f p v a).isSome = (f a).isSome := by simp [Ip.upd, ha]
      rw [e2]
      refine ⟨by omega, fun hm => ?_⟩
      have := h2 ((List.mem_cons.1 hm).resolve_left (fun e => ha e.symm))
      omega
theorem MapH.upd {w : World} {b n : Nat} {f : Ip.B → Option Ip.B} (h : MapH w b n f) (hn : n < 1099511627) (p v : Ip.B) (hp : p.length ≤ 1000) (hf : f p = none) :
    ∃ w', (Instr.mapUpdate 60 (.map (some b)) (.string (str p)) (.agg #[.string (str v)])).run Tryz.prog w = .ok () w' ∧ MapH w' b (n + 1) (Ip.upd f p v) ∧ w.mapTurned w' b := by
  obtain ⟨w', h1, h2, h3⟩ := MapV.store h (t := 60) (E := 89) Tryz.underlying60 hn v (x := str p) (by rw [str_size]; omega)
  refine ⟨w', h1, ?_, h3⟩
  rw [bs_str, hf] at h2
  have e : updV (fun k => f (bs k)) (str p) (some v) = fun k => Ip.upd f p v (bs k) := by
    funext k
    unfold updV Ip.upd
    by_cases hk : k = str p
    · rw [if_pos hk, hk, bs_str, if_pos rfl]
    · rw [if_neg hk, if_neg (fun e => hk (by rw [← e, str_bs]))]
  rw [e] at h2
  exact h2
theorem turn_map {w w' : World} {b : Nat} (h : w.mapTurned w' b) : Turn [b] w w' := by
  obtain ⟨es, c, es', c', h1, rfl⟩ := h
  refine ⟨rfl, rfl, rfl, by simp [setBlock], fun k hk hn => ?_⟩
  simp only [List.mem_singleton] at hn
  simp [setBlock, Ne.symm hn]
/-- what a target has now -/
theorem RunS.wrote {w : World} {O : List Nat} {x : RP} {s : Ip.St} {p : Ip.B} (h : RunS w O x s) (hp : p.length ≤ 1000) (h1 : s.written p = none) (h2 : p ∈ s.targets) (h3 : s.targets.length ≤ 4) :
    ∃ w', (Instr.mapUpdate 60 (.map (some x.mw)) (.string (str p)) (.agg #[.string (str s.buffer)])).run Tryz.prog w = .ok () w' ∧ RunS w' O x { s with written := Ip.upd s.written p s.buffer } ∧ Turn [x.mw] w w' := by
  obtain ⟨d1, d2, d3, d4, d5, d6⟩ := RP.parts h.nodup
  obtain ⟨n, m1, m2⟩ := h.mw
  have hcp := List.countP_le_length (p := fun p => (s.written p).isSome) (l := s.targets)
  obtain ⟨w', r1, r2, r3⟩ := m1.upd (by omega) p s.buffer hp h1
  have hT := turn_map r3
  refine ⟨w', r1, ?_, hT⟩
  have hk : ∀ b, b < w.heap.size ∧ b ∉ O → w'.heap[b]? = w.heap[b]? := fun b hb => hT.block b hb.1 (fun hx => hb.2 (by rw [List.mem_singleton] at hx; rw [hx]; exact h.sub _ x.mw_own))
  have hP : ∀ b, b < w.heap.size ∧ b ∉ O → b < w'.heap.size ∧ b ∉ O := fun b hb => ⟨Nat.lt_of_lt_of_le hb.1 hT.size, hb.2⟩
  obtain ⟨rs, o1, o2⟩ := h.op
  obtain ⟨k, m3, m4⟩ := h.mt
  have hc := (count_upd s.written p s.buffer h1 s.targets).2 h2
  exact ⟨h.row.turn hT (by simpa using d2), h.tg.keep hk hP, ⟨rs, o1.turnP hT (fun g hg => by simp; exact (d4 g hg).2.2), o2.keep hk hP⟩, ⟨k, MapV.of_block m3 (hT.block _ (h.lt _ x.mt_own) (by simp; exact d3)), m4⟩, ⟨n + 1, r2, Nat.le_trans (Nat.succ_le_succ m2) hc⟩,
    h.nd.turnP hT (fun g hg => by simp; exact (d5 g hg).2.2), h.nodup, h.sub, h.low, fun b hb => Nat.lt_of_lt_of_le (h.lim b hb) hT.size⟩

set_option maxRecDepth 100000 in
set_option maxHeartbeats 1000000 in
theorem write_any (p : List UInt8) (w : World) (O : List Nat) (x : RP) (s : Ip.St) (h : RunS w O x s) (hp : p.length ≤ 1000) (h4 : s.targets.length ≤ 4) :
    Calls Tryz.prog 106 #[.pointer (some ⟨x.p, 0, none⟩), .string (str p)] w fun e w' => e = .returned (.tuple #[]) ∧ RunS w' O x (s.write p) ∧ Turn [x.p, x.mw] w w' := by
  have hlk : (Instr.lookup 60 (.map (some x.mw)) (.string (str p)) true).run Tryz.prog w = .ok (.tuple #[.agg #[.string (str ((s.written p).getD []))], .bool (s.written p).isSome]) w := by
    obtain ⟨n, m1, -⟩ := h.mw
    exact m1.look (by omega)
  have k7 := h.c7
  obtain ⟨C, hC⟩ : ∃ C, str ((s.written p).getD []) = C := ⟨_, rfl⟩
  rw [hC] at hlk
  have hB : Below w.heap.size w (w.alloc (.cells #[.string C] 89)) := (Below.refl _ w).alloc (Nat.le_refl _) _
  have h2 := h.below hB
  have hTw : ∀ W, Turn [x.p] (w.alloc (.cells #[.string C] 89)) W → Turn [x.p, x.mw] w W := fun W hT => ((Turn.of_below hB).mono (S' := [x.p, x.mw]) (by simp)).trans hT (fun b hb _ => by simp at hb; simp [hb])
  cases hwr : s.written p with
  | some c =>
    have e1 : s.write p = s.fail 142 p := by unfold Ip.St.write; rw [if_pos (.inl (by rw [hwr]; rfl))]
    rw [e1]
    rw [hwr] at hlk
    change _ = Result.ok (Value.tuple #[.agg #[.string C], .bool true]) w at hlk
    have hF := fail_any 142 p _ O x s h2
    have HT : Hid _ := hTw
    clear e1 hwr hC h h2 hB hp h4 hTw
    generalize str p = P at *
    go_enter Tryz.func106, Tryz.ntmps106
    go_wp2_with (first | (go_at_call 52; refine hF.mono ?_; rintro e w3 ⟨rfl, h4, h5⟩) | fail)
    refine bodyPost_ret (results_none rfl _ _ _) rfl ?_
    exact ⟨rfl, h4, HT.out _ h5⟩
  | none =>
    rw [hwr] at hlk
    change _ = Result.ok (Value.tuple #[.agg #[.string C], .bool false]) w at hlk
    have k0 := h2.c0
    have hCt := Contains_texts s.targets x.tv p _ (w.alloc (.cells #[.string C] 89)).heap.size (h2.tg.sl (fun b hb => hb.1)) (by omega)
    change Calls _ _ #[.slice x.ta x.tn x.tc, _] _ _ at hCt
    by_cases hm : p ∈ s.targets
    · rw [decide_eq_true hm] at hCt
      have e1 : s.write p = { s with written := Ip.upd s.written p s.buffer, buffer := [] } := by unfold Ip.St.write; rw [if_neg (by rw [hwr]; simp [hm])]
      rw [e1]
      have hW : RunS (w.alloc (.cells #[.string C] 89)).drew O x s := h2.drewN 1
      obtain ⟨w3, m1, m2, m3⟩ := hW.wrote hp hwr hm h4
      have hT3 : Turn [x.p, x.mw] w (w3.setCell ⟨x.p, 5, none⟩ (.string ⟨#[]⟩)) := ((((Turn.of_below hB).mono (S' := [x.p, x.mw]) (by simp)).drew).trans m3 (fun b hb _ => by simp at hb; simp [hb])).set (fun _ => by simp) _
      have HE : Hid (RunS (w3.setCell ⟨x.p, 5, none⟩ (.string ⟨#[]⟩)) O x { s with written := Ip.upd s.written p s.buffer, buffer := [] } ∧ Turn [x.p, x.mw] w (w3.setCell ⟨x.p, 5, none⟩ (.string ⟨#[]⟩))) := ⟨m2.setBuffer [], hT3⟩
      have q5 := m2.c5
      have qf := m2.free 5
      have k5 : (w.alloc (.cells #[.string C] 89)).drew.cell? ⟨x.p, 5, none⟩ = some (.string (str s.buffer)) := hW.c5
      have k77 : (w.alloc (.cells #[.string C] 89)).drew.cell? ⟨x.p, 7, none⟩ = some (.map (some x.mw)) := hW.c7
      have q7' : w3.cell? ⟨x.p, 7, none⟩ = some (.map (some x.mw)) := m2.c7
      have q5' : w3.cell? ⟨x.p, 5, none⟩ = some (.string (str s.buffer)) := q5
      clear e1 hC h hB hwr hm hT3 m2 m3 hW h2 hTw q5
      generalize str s.buffer = SB at *
      generalize str p = P at *
      go_enter Tryz.func106, Tryz.ntmps106
      go_upto_region 3 with (first | (go_at_call 63; refine hCt.mono ?_; rintro e w2 ⟨rfl, hw⟩; rw [hw]; clear hw) | fail)
      generalize w.alloc (.cells #[.string C] 89) = W1 at *
      go_region_held3 (fun X : World => X.cell? ⟨x.p, 5, none⟩ = some (.string SB) ∧ X.cell? ⟨x.p, 7, none⟩ = some (.map (some x.mw))) (first | with_reducible exact ⟨k5, k77⟩ | go_keep) (fail)
      go_wp2
      go_end0
      exact ⟨rfl, HE.out⟩
    · rw [decide_eq_false hm] at hCt
      have e1 : s.write p = s.fail 142 p := by unfold Ip.St.write; rw [if_pos (.inr hm)]
      rw [e1]
      have hF := fail_any 142 p _ O x s h2
      have HT : Hid _ := hTw
      clear e1 hwr hC h h2 hB hp h4 hTw hm
      generalize str p = P at *
      go_enter Tryz.func106, Tryz.ntmps106
      go_wp2_with (first | (go_at_call 63; refine hCt.mono ?_; rintro e w2 ⟨rfl, hw⟩; rw [hw]; clear hw) | (go_at_call 52; refine hF.mono ?_; rintro e w3 ⟨rfl, h4, h5⟩) | fail)
      refine bodyPost_ret (results_none rfl _ _ _) rfl ?_
      exact ⟨rfl, h4, HT.out _ h5⟩

theorem find_none_take {f : Ip.B → Bool} {l : List Ip.B} {k : Nat} (h : (l.take k).find? f = none) (hk : k < l.length) (hf : f l[k] = true) : l.find? f = some l[k] := by
  conv => lhs; rw [← List.take_append_drop k l]
  rw [List.find?_append, h, List.drop_eq_getElem_cons hk, List.find?_cons_of_pos hf]
  rfl
theorem find_none_more {f : Ip.B → Bool} {l : List Ip.B} {k : Nat} (h : (l.take k).find? f = none) (hk : k < l.length) (hf : f l[k] = false) : (l.take (k + 1)).find? f = none := by
  rw [List.take_succ_eq_append_getElem hk, List.find?_append, h]
  simp [hf]
set_option maxRecDepth 100000 in
set_option maxHeartbeats 1000000 in
theorem end_any (w : World) (O : List Nat) (x : RP) (s : Ip.St) (h : RunS w O x s) (h4 : s.targets.length ≤ 4) (h5 : ∀ p ∈ s.targets, p.length ≤ 1000) :
    Calls Tryz.prog 81 #[.pointer (some ⟨x.p, 0, none⟩)] w fun e w' => e = .returned (.tuple #[]) ∧ RunS w' O x s.finish ∧ Turn [x.p] w w' := by
  have k0 := h.c0
  have hsl := h.tg.sl (B := w.heap.size) (fun b hb => hb.1)
  obtain ⟨ad, c, etv, hle⟩ := hsl.shape
  rw [etv] at hsl
  simp only [RP.tv, Value.slice.injEq] at etv
  rw [etv.1, etv.2.1, etv.2.2] at k0
  have HF : Hid (s.finish = match s.targets.find? (fun p => !(s.written p).isSome) with | some p => s.fail 142 p | none => { s with ev := ⟨2, [], 0, []⟩ }) := rfl
  have nb : (s.targets.length : Int) ≤ 4 := by omega
  have H5 : Hid _ := h5
  have HR : Hid _ := h
  generalize s.finish = R at *
  clear h etv h5
  go_enter Tryz.func81, Tryz.ntmps81
  go_wp2
  go_loopw [11] (fun i wr => ∃ k : Nat, k ≤ s.targets.length ∧ i = .int .i64 (k : Int) ∧ Hid ((s.targets.take k).find? (fun p => !(s.written p).isSome) = none) ∧ Hid (Below w.heap.size w wr)) (fun i _ => s.targets.length - (intOf i).toNat)
  case atStart => exact ⟨0, Nat.zero_le _, rfl, by show _ = _; simp, Below.refl _ _⟩
  case round =>
    obtain ⟨k, hk, rfl, HN, HB⟩ := hrel
    have hr := HR.out.below HB.out
    by_cases hlt : k < s.targets.length
    · have i1 : (k : Int) < (s.targets.length : Int) := by omega
      obtain ⟨g, o, c', e1, hg, p1⟩ := TxR.at (hsl.below HB.out (Nat.le_refl _)) hlt
      simp only [Value.slice.injEq] at e1
      obtain ⟨rfl, -, rfl⟩ := e1
      have hpl := H5.out _ (List.getElem_mem hlt)
      have k7 := hr.c7
      have hlk : (Instr.lookup 60 (.map (some x.mw)) (.string (str s.targets[k])) true).run Tryz.prog wr = .ok (.tuple #[.agg #[.string (str ((s.written s.targets[k]).getD []))], .bool (s.written s.targets[k]).isSome]) wr := by
        obtain ⟨n, m1, -⟩ := hr.mw
        exact m1.look (by omega)
      obtain ⟨C, hC⟩ : ∃ C, str ((s.written s.targets[k]).getD []) = C := ⟨_, rfl⟩
      rw [hC] at hlk
      have hBa : Below wr.heap.size wr (wr.alloc (.cells #[.string C] 89)) := (Below.refl _ wr).alloc (Nat.le_refl _) _
      have HBa : Hid (Below w.heap.size w (wr.alloc (.cells #[.string C] 89))) := HB.out.alloc HB.out.size _
      cases hw : (s.written s.targets[k]).isSome with
      | true =>
        rw [hw] at hlk
        have HN2 : Hid _ := find_none_more HN.out hlt (by simp [hw])
        clear hC hBa hw hpl HN
        generalize str s.targets[k] = P at *
        go_wp2
        exact ⟨⟨k + 1, by omega, by go_num, HN2.out, HBa.out⟩, by simp [intOf]; omega⟩
      | false =>
        rw [hw] at hlk
        have hfn := find_none_take HN.out hlt (by simp [hw])
        have HF2 : Hid (R = s.fail 142 s.targets[k]) := by show _ = _; rw [HF.out, hfn]
        have hFl := fail_any 142 s.targets[k] _ O x s (hr.below hBa)
        clear hC hBa hw hpl HN hfn HF
        generalize hP : str s.targets[k] = P at *
        clear hP
        generalize s.fail 142 s.targets[k] = R2 at *
        go_wp2_with (first | (go_at_call 52; refine hFl.mono ?_; rintro e w3 ⟨rfl, h4, h5⟩) | fail)
        refine bodyPost_ret (results_none rfl _ _ _) rfl ?_
        rw [HF2.out]
        exact ⟨rfl, h4, ((Turn.of_below HBa.out).mono (by simp)).trans h5 (fun _ hx _ => hx)⟩
    · obtain rfl : k = s.targets.length := by omega
      have i1 : ¬ (s.targets.length : Int) < (s.targets.length : Int) := by omega
      have hfn := HN.out
      rw [List.take_length] at hfn
      have HF2 : Hid (R = { s with ev := ⟨2, [], 0, []⟩ }) := by show _ = _; rw [HF.out, hfn]
      have hE := hr.event ⟨2, [], 0, []⟩ (fun e => by cases e)
      have hT := evW_turn wr x.p ⟨2, [], 0, []⟩
      have HE : Hid (RunS (evW wr x.p ⟨2, [], 0, []⟩) O x { s with ev := ⟨2, [], 0, []⟩ } ∧ Turn [x.p] w (evW wr x.p ⟨2, [], 0, []⟩)) := ⟨hE, ((Turn.of_below HB.out).mono (by simp)).trans hT (fun _ hx _ => hx)⟩
      have f := hr.free
      have k9 := hr.c9
      have k10 := hr.c10
      have k11 := hr.c11
      have k12 := hr.c12
      clear hE hT hfn HF HN hr
      unfold evW at HE
      dsimp only at HE
      generalize str s.ev.path = P at *
      generalize str s.ev.text = T at *
      go_wp2
      go_end0
      rw [HF2.out]
      exact ⟨rfl, HE.out⟩

end Go.Proofs.YtnobmgkdieaclaaGreatDoor
