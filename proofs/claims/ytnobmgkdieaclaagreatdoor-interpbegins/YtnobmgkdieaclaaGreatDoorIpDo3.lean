/-
  WHAT do DOES AT A STATEMENT OF KIND 3.
-/
import Derived.Test.YtnobmgkdieaclaaGreatDoorIpMul
namespace Go.Proofs.YtnobmgkdieaclaaGreatDoor
open Go.RowKit

set_option maxRecDepth 100000 in
set_option maxHeartbeats 2000000 in
theorem do_3 (a : List (List UInt8)) (n : Nat) (body : Ac.Fo) (line : List UInt8) (aa : Option Addr) (an ac : Nat) (ba : Option Addr) (bn bc : Nat) (w : World) (O : List Nat) (x : RP) (s : Ip.St) (h : RunS w O x s) (hf : s.Fine) (hL : Laid w)
    (ha : TxR.SlP w (fun b => b < w.heap.size ∧ b ∉ O) (.slice aa an ac) a) (hb : FoP w (fun b => b < w.heap.size ∧ b ∉ O) (.slice ba bn bc) body) (hj : (Ip.joinW a).length ≤ 4000) (hal : a.length ≤ 4000) (hl : line.length ≤ 256) (hn : n ≤ 1000) (hbl : body.len ≤ 1000000) :
    Calls Tryz.prog 93 #[.pointer (some ⟨x.p, 0, none⟩), .agg #[.int .i64 3, .slice aa an ac, .int .i64 (n : Int), .slice ba bn bc], .string (str line)] w fun e w' => e = .returned (.tuple #[]) ∧ Went w O x (s.act 3 a n body line) w' := by
  have hUse := And.intro hal (And.intro hn (And.intro hbl (And.intro hj (And.intro hl (And.intro hf hL)))))
  clear hUse
  have hB0 : Below w.heap.size w (w.alloc (.cells #[.int .i64 3, .slice aa an ac, .int .i64 (n : Int), .slice ba bn bc] 75)) := (Below.refl _ w).alloc (Nat.le_refl _) _
  have hR0 := Rw.new w #[.int .i64 3, .slice aa an ac, .int .i64 (n : Int), .slice ba bn bc] 75
  have s0 := hR0.cell 0
  have s1 := hR0.cell 1
  have s2 := hR0.cell 2
  have s3 := hR0.cell 3
  have h0 := h.below hB0
  obtain ⟨W0, hW0⟩ : ∃ W0, w.alloc (.cells #[.int .i64 3, .slice aa an ac, .int .i64 (n : Int), .slice ba bn bc] 75) = W0 := ⟨_, rfl⟩
  rw [hW0] at hB0 s0 s1 s2 s3 h0
  have hk0 : ∀ b, b < w.heap.size ∧ b ∉ O → W0.heap[b]? = w.heap[b]? := fun b hb => hB0.block b hb.1
  have hP0 : ∀ b, b < w.heap.size ∧ b ∉ O → b < W0.heap.size ∧ b ∉ O := fun b hb => ⟨Nat.lt_of_lt_of_le hb.1 hB0.size, hb.2⟩
  have ha0 := ha.keep hk0 hP0
  have hb0 := hb.keep hk0 hP0
  have hL0 := hL.below hB0 hL.size
  change _ = some (Value.int .i64 3) at s0
  change _ = some (Value.slice aa an ac) at s1
  change _ = some (Value.int .i64 (n : Int)) at s2
  change _ = some (Value.slice ba bn bc) at s3
  clear ha hb hL hk0 hP0 hR0
  have hjo : (Ip.joinW a).length ≤ 10000 := by omega
  have hwl := Ip.words_len line a
  have hwt := Ip.told_le line (Ip.joinW a) (by omega) (by omega)
  have hwb : (Ip.words line a).length ≤ 100010000 := hwt
  have hLn := lenAsTold_any line a (.slice aa an ac) W0 W0.heap.size (ha0.sl (fun b hb => hb.1)) hjo (by omega) (by omega)
  have hMP := mayPut_any ((Ip.words line a).length + 1) W0 O x s h0 hf.used hf.fuel (by omega) hf.buf
  have HE : Hid (s.act 3 a n body line = s.put (Ip.words line a ++ [10])) := rfl
  generalize s.act 3 a n body line = R at *
  have hlen : (Ip.words line a ++ [10]).length = (Ip.words line a).length + 1 := by simp
  have HC : Hid (s.put (Ip.words line a ++ [10]) = if s.canPut ((Ip.words line a).length + 1) then { s.mayPut ((Ip.words line a).length + 1) with buffer := s.buffer ++ (Ip.words line a ++ [10]) } else s.mayPut ((Ip.words line a).length + 1)) := by
    show _ = _
    unfold Ip.St.put
    rw [hlen]
  have wb : ((Ip.words line a).length : Int) ≤ 100010000 := by omega
  have hcast : (((Ip.words line a).length + 1 : Nat) : Int) = ((Ip.words line a).length : Int) + 1 := by omega
  rw [hcast] at hMP
  cases hcp : s.canPut ((Ip.words line a).length + 1) with
  | false =>
    rw [hcp] at HC hMP
    clear hj hal hn hbl hf h ha0 hb0 hL0 h0 hjo hwl hwt hwb hlen hcast hcp
    generalize (Ip.words line a).length = N at *
    generalize str line = L at *
    go_enter Tryz.func93, Tryz.ntmps93
    go_wp2_with (first | (go_at_call 100; refine hLn.mono ?_; rintro e w1 ⟨rfl, hw1⟩; rw [hw1]; clear hw1) | (go_at_call 99; refine hMP.mono ?_; rintro e w2 ⟨rfl, h2, h3⟩) | fail)
    go_end0
    rw [HE.out, HC.out]
    exact ⟨rfl, (Went.same h2 h3.toOwn).ofBelow hB0⟩
  | true =>
    rw [hcp] at HC hMP
    have hbu := put_buffer hcp
    have hTs : ∀ W, Turn [x.p] W0 W → Calls Tryz.prog 101 #[.string (str line), .slice aa an ac] W fun e w' => e = .returned (.string (str (Ip.words line a))) ∧ Below W.heap.size W w' := by
      intro W hT
      refine asTold_any line a (.slice aa an ac) W W.heap.size ?_ (Nat.le_refl _) hjo (by omega) (by omega)
      refine (ha0.keep (w' := W) (P' := fun b => b < W.heap.size) (fun b hb => hT.block b hb.1 (fun hx => ?_)) (fun b hb => Nat.lt_of_lt_of_le hb.1 hT.size)).sl (fun b hb => hb)
      simp at hx
      exact hb.2 (hx ▸ h0.sub _ x.p_own)
    have hfin : ∀ W W2, RunS W O x (s.mayPut ((Ip.words line a).length + 1)) → Turn [x.p] W0 W → Below W.heap.size W W2 → Went W0 O x { s.mayPut ((Ip.words line a).length + 1) with buffer := s.buffer ++ (Ip.words line a ++ [10]) } (W2.setCell ⟨x.p, 5, none⟩ (.string (str s.buffer ++ (str (Ip.words line a) ++ ⟨#[10]⟩)))) := by
      intro W W2 h1 h2 h3
      have h4 := (h1.below h3).setBuffer (s.buffer ++ (Ip.words line a ++ [10]))
      rw [str_append, str_append] at h4
      exact Went.same h4 ((h2.belowTrans h3).set (fun _ => by simp) _).toOwn
    have hsz1 : ¬ 9223372036854775807 < (str (Ip.words line a)).size + (ByteArray.mk #[10]).size := by rw [str_size]; show ¬ _ < _ + 1; omega
    have hsz2 : ¬ 9223372036854775807 < (str s.buffer).size + (str (Ip.words line a) ++ ⟨#[10]⟩).size := by
      rw [str_size, ByteArray.size_append, str_size]
      show ¬ _ < _ + (_ + 1)
      have := hf.buf
      omega
    have hsz3 : ¬ 9223372036854775807 < (str (Ip.words line a)).size + 1 := by rw [str_size]; omega
    have hsz4 : ¬ 9223372036854775807 < (str s.buffer).size + ((str (Ip.words line a)).size + 1) := by rw [str_size, str_size]; have := hf.buf; omega
    have hq : ∀ W, RunS W O x (s.mayPut ((Ip.words line a).length + 1)) → W.cell? ⟨x.p, 5, none⟩ = some (.string (str s.buffer)) ∧ W.frozen? ⟨x.p, 5, none⟩ = false := by
      intro W hW
      have := hW.c5
      rw [hbu] at this
      exact ⟨this, hW.free 5⟩
    have hpw : x.p < w.heap.size := h.row.lt
    clear hj hal hn hbl hf h ha0 hb0 hL0 h0 hjo hwl hwt hwb hlen hcast hcp hbu
    generalize (Ip.words line a).length = N at *
    generalize str (Ip.words line a) = SW at *
    generalize str line = L at *
    generalize str s.buffer = SB at *
    go_enter Tryz.func93, Tryz.ntmps93
    go_upto_region 10 with (first | (go_at_call 100; refine hLn.mono ?_; rintro e w1 ⟨rfl, hw1⟩; rw [hw1]; clear hw1) | (go_at_call 99; refine hMP.mono ?_; rintro e w2 ⟨rfl, h2, h3⟩) | fail)
    obtain ⟨q5, qf⟩ := hq w2 h2
    have q1 : w2.cell? ⟨w.heap.size, 1, none⟩ = some (.slice aa an ac) := (h3.cell (p := ⟨w.heap.size, 1, none⟩) (by have := World.block_lt_of_cell? W0 _ s1; exact this) (by simp; omega)).trans s1
    have hA := hTs w2.drew ⟨h3.os, h3.tape, h3.output, h3.size, h3.block⟩
    have q5d : w2.drew.cell? ⟨x.p, 5, none⟩ = some (.string SB) := q5
    have q1d : w2.drew.cell? ⟨w.heap.size, 1, none⟩ = some (.slice aa an ac) := q1
    have hkk : ∀ (W : World) (p : Addr) (v : Value), Below w2.drew.heap.size w2.drew W → w2.drew.cell? p = some v → W.cell? p = some v := fun W p v hb hv => (hb.cell (World.block_lt_of_cell? _ _ hv)).trans hv
    have hff : ∀ (W : World), Below w2.drew.heap.size w2.drew W → W.frozen? ⟨x.p, 5, none⟩ = false := fun W hb => (World.frozen?_of_block (hb.block x.p (World.block_lt_of_cell? _ _ q5))).trans qf
    have HF : Hid (∀ W2, Below w2.drew.heap.size w2.drew W2 → Went W0 O x _ (W2.setCell ⟨x.p, 5, none⟩ (.string (SB ++ (SW ++ ⟨#[10]⟩))))) := fun W2 hb => hfin w2 W2 h2 h3 ⟨hb.os, hb.tape, hb.output, hb.size, hb.block⟩
    clear hfin hq h2 h3 hLn hMP hTs
    go_region_with (go_at_call 101; refine hA.mono ?_; rintro e w3 ⟨rfl, hb3⟩; have k5 := hkk w3 _ _ hb3 q5d; have k1 := hkk w3 _ _ hb3 q1d; have kf := hff w3 hb3)
    all_goals (go_wp2; go_end0; rw [HE.out, HC.out]; exact ⟨rfl, (HF.out _ hb3).ofBelow hB0⟩)

end Go.Proofs.YtnobmgkdieaclaaGreatDoor
