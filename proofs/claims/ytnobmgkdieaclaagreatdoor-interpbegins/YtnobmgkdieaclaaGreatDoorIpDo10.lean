/-
  WHAT do DOES AT A STATEMENT OF KIND 10.
-/
import Derived.Test.YtnobmgkdieaclaaGreatDoorIpMul
namespace Go.Proofs.YtnobmgkdieaclaaGreatDoor
open Go.RowKit

set_option maxRecDepth 100000 in
set_option maxHeartbeats 2000000 in
theorem do_10 (a : List (List UInt8)) (n : Nat) (body : Ac.Fo) (line : List UInt8) (aa : Option Addr) (an ac : Nat) (ba : Option Addr) (bn bc : Nat) (w : World) (O : List Nat) (x : RP) (s : Ip.St) (h : RunS w O x s) (hf : s.Fine) (hL : Laid w)
    (ha : TxR.SlP w (fun b => b < w.heap.size ∧ b ∉ O) (.slice aa an ac) a) (hb : FoP w (fun b => b < w.heap.size ∧ b ∉ O) (.slice ba bn bc) body) (hj : (Ip.joinW a).length ≤ 4000) (hal : a.length ≤ 4000) (hl : line.length ≤ 256) (hn : n ≤ 1000) (hbl : body.len ≤ 1000000) :
    Calls Tryz.prog 93 #[.pointer (some ⟨x.p, 0, none⟩), .agg #[.int .i64 10, .slice aa an ac, .int .i64 (n : Int), .slice ba bn bc], .string (str line)] w fun e w' => e = .returned (.tuple #[]) ∧ Went w O x (s.act 10 a n body line) w' := by
  have hUse := And.intro hal (And.intro hn (And.intro hbl (And.intro hj (And.intro hl (And.intro hf hL)))))
  clear hUse
  have hB0 : Below w.heap.size w (w.alloc (.cells #[.int .i64 10, .slice aa an ac, .int .i64 (n : Int), .slice ba bn bc] 75)) := (Below.refl _ w).alloc (Nat.le_refl _) _
  have hR0 := Rw.new w #[.int .i64 10, .slice aa an ac, .int .i64 (n : Int), .slice ba bn bc] 75
  have s0 := hR0.cell 0
  have s1 := hR0.cell 1
  have s2 := hR0.cell 2
  have s3 := hR0.cell 3
  have h0 := h.below hB0
  obtain ⟨W0, hW0⟩ : ∃ W0, w.alloc (.cells #[.int .i64 10, .slice aa an ac, .int .i64 (n : Int), .slice ba bn bc] 75) = W0 := ⟨_, rfl⟩
  rw [hW0] at hB0 s0 s1 s2 s3 h0
  have hk0 : ∀ b, b < w.heap.size ∧ b ∉ O → W0.heap[b]? = w.heap[b]? := fun b hb => hB0.block b hb.1
  have hP0 : ∀ b, b < w.heap.size ∧ b ∉ O → b < W0.heap.size ∧ b ∉ O := fun b hb => ⟨Nat.lt_of_lt_of_le hb.1 hB0.size, hb.2⟩
  have ha0 := ha.keep hk0 hP0
  have hb0 := hb.keep hk0 hP0
  have hL0 := hL.below hB0 hL.size
  change _ = some (Value.int .i64 10) at s0
  change _ = some (Value.slice aa an ac) at s1
  change _ = some (Value.int .i64 (n : Int)) at s2
  change _ = some (Value.slice ba bn bc) at s3
  clear ha hb hL hk0 hP0 hR0
  have HE : Hid (s.act 10 a n body line = s.push ⟨body, body.len, [], List.replicate n line⟩) := rfl
  generalize s.act 10 a n body line = R at *
  obtain ⟨V0, hV0⟩ : ∃ V0, W0.alloc (.cells #[.string (str line)] 9) = V0 := ⟨_, rfl⟩
  have hbV : Below W0.heap.size W0 V0 := by rw [← hV0]; exact (Below.refl _ W0).alloc (Nat.le_refl _) _
  have hzV : V0.heap.size = W0.heap.size + 1 := by rw [← hV0, size_alloc]
  have hlit : TxR.Sl V0.drew (W0.heap.size + 1) (.slice (some ⟨W0.heap.size, 0, none⟩) 1 1) [line] := by rw [← hV0]; exact row_one W0 line
  have hRp := Repeat_line line (.slice (some ⟨W0.heap.size, 0, none⟩) 1 1) n (W0.heap.size + 1) V0.drew hlit (by show _ ≤ V0.heap.size; omega) hn
  have hEn : ∀ W2, Below V0.drew.heap.size V0.drew W2 → TxR.Own W2 V0.drew.heap.size (.slice (some ⟨V0.drew.heap.size, 0, none⟩) n n) (List.replicate n line) →
      Calls Tryz.prog 107 #[.pointer (some ⟨x.p, 0, none⟩), .slice ba bn bc, .slice (some ⟨V0.drew.heap.size, 0, none⟩) n n] W2 fun e w' => e = .returned (.tuple #[]) ∧ Went W0 O x (s.push ⟨body, body.len, [], List.replicate n line⟩) w' := by
    intro W2 hb hO
    have hz : W0.heap.size + 1 ≤ W2.heap.size := by have := hb.size; change V0.heap.size ≤ _ at this; omega
    have hB2 : Below W0.heap.size W0 W2 := hbV.trans (Below.mono ⟨hb.os, hb.tape, hb.output, hb.size, hb.block⟩ (by show _ ≤ V0.heap.size; omega))
    have r2 := h0.below hB2
    have hrd : TxR.SlP W2 (fun b => b < W2.heap.size ∧ b ∉ O) (.slice (some ⟨V0.drew.heap.size, 0, none⟩) n n) (List.replicate n line) := by
      refine hO.slP.keep (fun _ _ => rfl) (fun b hb' => ⟨(hO.lt b hb').2, fun hx => ?_⟩)
      have hge := (hO.lt b hb').1
      change V0.heap.size ≤ b at hge
      have := h0.lim b hx
      omega
    refine (enterRounds_any body (List.replicate n line) ba bn bc _ n n W2 O x s r2 (hb0.keep (fun b hb' => hB2.block b hb'.1) (fun b hb' => ⟨Nat.lt_of_lt_of_le hb'.1 hB2.size, hb'.2⟩)) hrd hf.deep hbl).mono ?_
    rintro e w' ⟨he, hw⟩
    exact ⟨he, hw.ofBelow hB2⟩
  have hkk : ∀ (W : World), Below V0.drew.heap.size V0.drew W → W.cell? ⟨w.heap.size, 3, none⟩ = some (.slice ba bn bc) ∧ W.cell? ⟨w.heap.size, 2, none⟩ = some (.int .i64 (n : Int)) := by
    intro W hb
    have e3 : V0.drew.cell? ⟨w.heap.size, 3, none⟩ = some (.slice ba bn bc) := (hbV.cell (World.block_lt_of_cell? _ _ s3)).trans s3
    have e2 : V0.drew.cell? ⟨w.heap.size, 2, none⟩ = some (.int .i64 (n : Int)) := (hbV.cell (World.block_lt_of_cell? _ _ s2)).trans s2
    exact ⟨(hb.cell (World.block_lt_of_cell? _ _ e3)).trans e3, (hb.cell (World.block_lt_of_cell? _ _ e2)).trans e2⟩
  obtain ⟨v3, v2⟩ := hkk V0.drew (Below.refl _ _)
  have d3 : W0.drew.cell? ⟨w.heap.size, 3, none⟩ = some (.slice ba bn bc) := s3
  have d2 : W0.drew.cell? ⟨w.heap.size, 2, none⟩ = some (.int .i64 (n : Int)) := s2
  change Calls _ _ _ _ fun e w' => e = .returned (.slice (some ⟨V0.heap.size, 0, none⟩) n n) ∧ _ at hRp
  change ∀ W2, _ → _ → Calls _ _ #[_, _, .slice (some ⟨V0.heap.size, 0, none⟩) n n] _ _ at hEn
  have HZV : Hid (V0.heap.size = W0.heap.size + 1) := hzV
  have HR : Hid (R = s.push ⟨body, body.len, [], List.replicate n line⟩) := HE.out
  clear hj hal hn hbl hf h ha0 hb0 hL0 h0 HE hzV hbV hlit
  generalize s.push ⟨body, body.len, [], List.replicate n line⟩ = R2 at *
  generalize str line = L at *
  go_enter Tryz.func93, Tryz.ntmps93
  go_upto_region 24 with fail
  go_region_with (first | (go_at_call 108; refine hRp.mono ?_; rintro e w2 ⟨rfl, h2, h3⟩; obtain ⟨k3, k2⟩ := hkk w2 h3) | (go_at_call 107; refine (hEn _ h3 h2).mono ?_; rintro e w3 ⟨rfl, h4⟩) | fail)
  all_goals (go_wp2; go_end0; rw [HR.out]; exact ⟨rfl, h4.ofBelow hB0⟩)

end Go.Proofs.YtnobmgkdieaclaaGreatDoor
