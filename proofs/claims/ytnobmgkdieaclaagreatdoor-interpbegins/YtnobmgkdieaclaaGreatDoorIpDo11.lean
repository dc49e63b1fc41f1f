/-
  WHAT do DOES AT A STATEMENT OF KIND 11.
-/
import Derived.Test.YtnobmgkdieaclaaGreatDoorIpMul
namespace Go.Proofs.YtnobmgkdieaclaaGreatDoor
open Go.RowKit

set_option maxRecDepth 100000 in
set_option maxHeartbeats 2000000 in
theorem do_11 (u : List UInt8) (n : Nat) (body : Ac.Fo) (line : List UInt8) (aa : Option Addr) (an ac : Nat) (ba : Option Addr) (bn bc : Nat) (w : World) (O : List Nat) (x : RP) (s : Ip.St) (h : RunS w O x s) (hf : s.Fine) (hL : Laid w)
    (ha : TxR.SlP w (fun b => b < w.heap.size ∧ b ∉ O) (.slice aa an ac) [u]) (hb : FoP w (fun b => b < w.heap.size ∧ b ∉ O) (.slice ba bn bc) body) (hj : (Ip.joinW [u]).length ≤ 4000) (hal : [u].length ≤ 4000) (hl : line.length ≤ 256) (hn : n ≤ 1000) (hbl : body.len ≤ 1000000) :
    Calls Tryz.prog 93 #[.pointer (some ⟨x.p, 0, none⟩), .agg #[.int .i64 11, .slice aa an ac, .int .i64 (n : Int), .slice ba bn bc], .string (str line)] w fun e w' => e = .returned (.tuple #[]) ∧ Went w O x (s.act 11 [u] n body line) w' := by
  obtain rfl : an = 1 := by
    obtain ⟨_, _, e, -⟩ := ha
    simp only [Value.slice.injEq] at e
    exact e.2.1
  have hUse := And.intro hal (And.intro hn (And.intro hbl (And.intro hj (And.intro hl (And.intro hf hL)))))
  clear hUse
  have hB0 : Below w.heap.size w (w.alloc (.cells #[.int .i64 11, .slice aa 1 ac, .int .i64 (n : Int), .slice ba bn bc] 75)) := (Below.refl _ w).alloc (Nat.le_refl _) _
  have hR0 := Rw.new w #[.int .i64 11, .slice aa 1 ac, .int .i64 (n : Int), .slice ba bn bc] 75
  have s0 := hR0.cell 0
  have s1 := hR0.cell 1
  have s2 := hR0.cell 2
  have s3 := hR0.cell 3
  have h0 := h.below hB0
  obtain ⟨W0, hW0⟩ : ∃ W0, w.alloc (.cells #[.int .i64 11, .slice aa 1 ac, .int .i64 (n : Int), .slice ba bn bc] 75) = W0 := ⟨_, rfl⟩
  rw [hW0] at hB0 s0 s1 s2 s3 h0
  have hk0 : ∀ b, b < w.heap.size ∧ b ∉ O → W0.heap[b]? = w.heap[b]? := fun b hb => hB0.block b hb.1
  have hP0 : ∀ b, b < w.heap.size ∧ b ∉ O → b < W0.heap.size ∧ b ∉ O := fun b hb => ⟨Nat.lt_of_lt_of_le hb.1 hB0.size, hb.2⟩
  have ha0 := ha.keep hk0 hP0
  have hb0 := hb.keep hk0 hP0
  have hL0 := hL.below hB0 hL.size
  change _ = some (Value.int .i64 11) at s0
  change _ = some (Value.slice aa 1 ac) at s1
  change _ = some (Value.int .i64 (n : Int)) at s2
  change _ = some (Value.slice ba bn bc) at s3
  clear ha hb hL hk0 hP0 hR0
  obtain ⟨ga0, oa0, ca0, ea0, hga0, cw0⟩ := TxR.at (ha0.sl (B := W0.heap.size) (fun b hb => hb.1)) (k := 0) (by simp)
  simp only [Value.slice.injEq] at ea0
  obtain ⟨rfl, -, rfl⟩ := ea0
  change W0.cell? ⟨ga0, oa0 + 0, none⟩ = some (.string (str u)) at cw0
  rw [Nat.add_zero] at cw0
  have hA := ask_any line u W0 O x s h0 hj hl hf.needs
  have HE : Hid (s.act 11 [u] n body line = match s.has line u with | some c => s.push ⟨body, body.len, [], Ip.linesOf c⟩ | none => s.ask line u) := rfl
  generalize s.act 11 [u] n body line = R at *
  cases hh : s.has line u with
  | none =>
    rw [hh] at HE hA
    change Calls _ _ _ _ fun e w' => e = .returned (.tuple #[.string ⟨#[]⟩, .bool false]) ∧ _ at hA
    clear hj hal hn hbl hf h ha0 hb0 hL0 h0 hh
    generalize s.ask line u = R2 at *
    generalize str u = U at *
    generalize str line = L at *
    go_enter Tryz.func93, Tryz.ntmps93
    go_wp2_with (first | (go_at_call 98; refine hA.mono ?_; rintro e w1 ⟨rfl, h1⟩) | fail)
    go_end0
    rw [show R = R2 from HE.out]
    exact ⟨rfl, h1.ofBelow hB0⟩
  | some c =>
    have hcl := has_len hf hh
    rw [ask_has hh] at hA
    rw [hh] at HE hA
    change Calls _ _ _ _ fun e w' => e = .returned (.tuple #[.string (str c), .bool true]) ∧ _ at hA
    have hLi := fun W => linesOf_any c W (by omega)
    have hE : ∀ W x1 W2 c2, x1.p = x.p → RunS W (x1.own ++ O) x1 s → (∀ b ∈ x1.own, b ∈ x.own ∨ W0.heap.size ≤ b) → Turn x.own W0 W → Below W.heap.size W W2 → TxR.Own W2 W.heap.size (.slice (some ⟨W.heap.size, 0, none⟩) (Ip.linesOf c).length c2) (Ip.linesOf c) →
        Calls Tryz.prog 107 #[.pointer (some ⟨x.p, 0, none⟩), .slice ba bn bc, .slice (some ⟨W.heap.size, 0, none⟩) (Ip.linesOf c).length c2] W2 fun e w' => e = .returned (.tuple #[]) ∧ Went W0 O x (s.push ⟨body, body.len, [], Ip.linesOf c⟩) w' := by
      intro W x1 W2 c2 e1 r1 o1 t1 hb hO
      have hkp : ∀ b, b < W0.heap.size ∧ b ∉ O → W2.heap[b]? = W0.heap[b]? := fun b hb' => (hb.block b (Nat.lt_of_lt_of_le hb'.1 t1.size)).trans (t1.block b hb'.1 (fun hx => hb'.2 (h0.sub b hx)))
      have hPP : ∀ b, b < W0.heap.size ∧ b ∉ O → b < W2.heap.size ∧ b ∉ x1.own ++ O := fun b hb' => ⟨Nat.lt_of_lt_of_le hb'.1 (Nat.le_trans t1.size hb.size), fun hx => by
        rcases List.mem_append.1 hx with hx | hx
        · rcases o1 b hx with hx | hx
          · exact hb'.2 (h0.sub b hx)
          · omega
        · exact hb'.2 hx⟩
      have r2 := r1.below hb
      have hrd : TxR.SlP W2 (fun b => b < W2.heap.size ∧ b ∉ x1.own ++ O) (.slice (some ⟨W.heap.size, 0, none⟩) (Ip.linesOf c).length c2) (Ip.linesOf c) := by
        refine hO.slP.keep (fun _ _ => rfl) (fun b hb' => ⟨(hO.lt b hb').2, fun hx => ?_⟩)
        have hge := (hO.lt b hb').1
        have := r1.lim b hx
        omega
      have := enterRounds_any body (Ip.linesOf c) ba bn bc (some ⟨W.heap.size, 0, none⟩) (Ip.linesOf c).length c2 W2 (x1.own ++ O) x1 s r2 (hb0.keep hkp hPP) hrd hf.deep hbl
      rw [e1] at this
      refine this.mono ?_
      rintro e w' ⟨he, hw⟩
      exact ⟨he, Went.step e1 o1 t1 (hw.ofBelow hb)⟩
    have hpw : ∀ b ∈ x.own, b < w.heap.size := h.lt
    have HR : Hid (R = s.push ⟨body, body.len, [], Ip.linesOf c⟩) := HE.out
    clear hj hal hn hbl hf h ha0 hb0 hL0 h0 hh HE hcl
    generalize (Ip.linesOf c).length = LN at *
    generalize s.push ⟨body, body.len, [], Ip.linesOf c⟩ = R2 at *
    generalize str u = U at *
    generalize str c = C at *
    generalize str line = L at *
    go_enter Tryz.func93, Tryz.ntmps93
    go_upto_region 28 with (first | (go_at_call 98; refine hA.mono ?_; rintro e w1 ⟨rfl, h1⟩) | fail)
    obtain ⟨x1, e1, r1, o1, t1⟩ := h1
    have q3 : w1.cell? ⟨w.heap.size, 3, none⟩ = some (.slice ba bn bc) := (t1.cell (p := ⟨w.heap.size, 3, none⟩) (World.block_lt_of_cell? W0 _ s3) (fun hx => by have := hpw _ hx; simp at this)).trans s3
    have q3d : w1.drew.cell? ⟨w.heap.size, 3, none⟩ = some (.slice ba bn bc) := q3
    have hL1 := hLi w1.drew
    change Calls _ _ _ _ fun e w' => (∃ c2, e = .returned (.slice (some ⟨w1.heap.size, 0, none⟩) LN c2) ∧ _) ∧ _ at hL1
    have hkk : ∀ (W : World), Below w1.drew.heap.size w1.drew W → W.cell? ⟨w.heap.size, 3, none⟩ = some (.slice ba bn bc) := fun W hb => (hb.cell (World.block_lt_of_cell? _ _ q3d)).trans q3d
    have hE1 := fun W2 c2 => hE w1 x1 W2 c2 e1 r1 o1 t1
    have hEd : ∀ W2 c2, Below w1.drew.heap.size w1.drew W2 → TxR.Own W2 w1.heap.size (.slice (some ⟨w1.heap.size, 0, none⟩) LN c2) (Ip.linesOf c) → Calls Tryz.prog 107 #[.pointer (some ⟨x.p, 0, none⟩), .slice ba bn bc, .slice (some ⟨w1.heap.size, 0, none⟩) LN c2] W2 fun e w' => e = .returned (.tuple #[]) ∧ Went W0 O x R2 w' := fun W2 c2 hb hO => hE1 W2 c2 ⟨hb.os, hb.tape, hb.output, hb.size, hb.block⟩ hO
    clear hE hE1 r1 o1 t1 hLi hA
    go_region_with (first | (go_at_call 109; refine hL1.mono ?_; rintro e w2 ⟨⟨c2, rfl, h2⟩, h3⟩; have k3 := hkk w2 h3) | (go_at_call 107; refine (hEd _ _ h3 h2).mono ?_; rintro e w3 ⟨rfl, h4⟩) | fail)
    all_goals (go_wp2; go_end0; rw [HR.out]; exact ⟨rfl, h4.ofBelow hB0⟩)

end Go.Proofs.YtnobmgkdieaclaaGreatDoor
