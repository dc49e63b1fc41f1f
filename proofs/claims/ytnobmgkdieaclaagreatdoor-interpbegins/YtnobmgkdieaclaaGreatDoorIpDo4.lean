/-
  WHAT do DOES AT A STATEMENT OF KIND 4.
-/
import Derived.Test.YtnobmgkdieaclaaGreatDoorIpMul
namespace Go.Proofs.YtnobmgkdieaclaaGreatDoor
open Go.RowKit

set_option maxRecDepth 100000 in
set_option maxHeartbeats 2000000 in
theorem do_4 (a : List (List UInt8)) (n : Nat) (body : Ac.Fo) (line : List UInt8) (aa : Option Addr) (an ac : Nat) (ba : Option Addr) (bn bc : Nat) (w : World) (O : List Nat) (x : RP) (s : Ip.St) (h : RunS w O x s) (hf : s.Fine) (hL : Laid w)
    (ha : TxR.SlP w (fun b => b < w.heap.size ∧ b ∉ O) (.slice aa an ac) a) (hb : FoP w (fun b => b < w.heap.size ∧ b ∉ O) (.slice ba bn bc) body) (hj : (Ip.joinW a).length ≤ 4000) (hal : a.length ≤ 4000) (hl : line.length ≤ 256) (hn : n ≤ 1000) (hbl : body.len ≤ 1000000) :
    Calls Tryz.prog 93 #[.pointer (some ⟨x.p, 0, none⟩), .agg #[.int .i64 4, .slice aa an ac, .int .i64 (n : Int), .slice ba bn bc], .string (str line)] w fun e w' => e = .returned (.tuple #[]) ∧ Went w O x (s.act 4 a n body line) w' := by
  have hUse := And.intro hal (And.intro hn (And.intro hbl (And.intro hj (And.intro hl (And.intro hf hL)))))
  clear hUse
  have hB0 : Below w.heap.size w (w.alloc (.cells #[.int .i64 4, .slice aa an ac, .int .i64 (n : Int), .slice ba bn bc] 75)) := (Below.refl _ w).alloc (Nat.le_refl _) _
  have hR0 := Rw.new w #[.int .i64 4, .slice aa an ac, .int .i64 (n : Int), .slice ba bn bc] 75
  have s0 := hR0.cell 0
  have s1 := hR0.cell 1
  have s2 := hR0.cell 2
  have s3 := hR0.cell 3
  have h0 := h.below hB0
  obtain ⟨W0, hW0⟩ : ∃ W0, w.alloc (.cells #[.int .i64 4, .slice aa an ac, .int .i64 (n : Int), .slice ba bn bc] 75) = W0 := ⟨_, rfl⟩
  rw [hW0] at hB0 s0 s1 s2 s3 h0
  have hk0 : ∀ b, b < w.heap.size ∧ b ∉ O → W0.heap[b]? = w.heap[b]? := fun b hb => hB0.block b hb.1
  have hP0 : ∀ b, b < w.heap.size ∧ b ∉ O → b < W0.heap.size ∧ b ∉ O := fun b hb => ⟨Nat.lt_of_lt_of_le hb.1 hB0.size, hb.2⟩
  have ha0 := ha.keep hk0 hP0
  have hb0 := hb.keep hk0 hP0
  have hL0 := hL.below hB0 hL.size
  change _ = some (Value.int .i64 4) at s0
  change _ = some (Value.slice aa an ac) at s1
  change _ = some (Value.int .i64 (n : Int)) at s2
  change _ = some (Value.slice ba bn bc) at s3
  clear ha hb hL hk0 hP0 hR0
  have HE : Hid (s.act 4 a n body line = { s with buffer := Ip.upper s.buffer }) := rfl
  generalize s.act 4 a n body line = R at *
  have k5 := h0.c5
  have hU := upper_any s.buffer W0 (by have := hf.buf; omega)
  have hfin : ∀ W, Below W0.heap.size W0 W → W.cell? ⟨x.p, 5, none⟩ = some (.string (str s.buffer)) ∧ W.frozen? ⟨x.p, 5, none⟩ = false ∧ Went W0 O x { s with buffer := Ip.upper s.buffer } (W.setCell ⟨x.p, 5, none⟩ (.string (str (Ip.upper s.buffer)))) := by
    intro W hb
    have hr := h0.below hb
    exact ⟨hr.c5, hr.free 5, Went.same (hr.setBuffer _) (((Turn.of_below hb).mono (S' := [x.p]) (by simp)).set (fun _ => by simp) _).toOwn⟩
  clear hj hal hn hbl hf h ha0 hb0 hL0 h0
  generalize str (Ip.upper s.buffer) = SU at *
  generalize str s.buffer = SB at *
  generalize str line = L at *
  go_enter Tryz.func93, Tryz.ntmps93
  go_wp2_with (first | (go_at_call 102; refine hU.mono ?_; rintro e w1 ⟨rfl, h1⟩; obtain ⟨f1, f2, f3⟩ := hfin w1 h1) | fail)
  go_end0
  rw [HE.out]
  exact ⟨rfl, f3.ofBelow hB0⟩

end Go.Proofs.YtnobmgkdieaclaaGreatDoor

namespace Go.Proofs.YtnobmgkdieaclaaGreatDoor
open Go.RowKit

set_option maxRecDepth 100000 in
set_option maxHeartbeats 2000000 in
theorem do_5 (a : List (List UInt8)) (n : Nat) (body : Ac.Fo) (line : List UInt8) (aa : Option Addr) (an ac : Nat) (ba : Option Addr) (bn bc : Nat) (w : World) (O : List Nat) (x : RP) (s : Ip.St) (h : RunS w O x s) (hf : s.Fine) (hL : Laid w)
    (ha : TxR.SlP w (fun b => b < w.heap.size ∧ b ∉ O) (.slice aa an ac) a) (hb : FoP w (fun b => b < w.heap.size ∧ b ∉ O) (.slice ba bn bc) body) (hj : (Ip.joinW a).length ≤ 4000) (hal : a.length ≤ 4000) (hl : line.length ≤ 256) (hn : n ≤ 1000) (hbl : body.len ≤ 1000000) :
    Calls Tryz.prog 93 #[.pointer (some ⟨x.p, 0, none⟩), .agg #[.int .i64 5, .slice aa an ac, .int .i64 (n : Int), .slice ba bn bc], .string (str line)] w fun e w' => e = .returned (.tuple #[]) ∧ Went w O x (s.act 5 a n body line) w' := by
  have hUse := And.intro hal (And.intro hn (And.intro hbl (And.intro hj (And.intro hl (And.intro hf hL)))))
  clear hUse
  have hB0 : Below w.heap.size w (w.alloc (.cells #[.int .i64 5, .slice aa an ac, .int .i64 (n : Int), .slice ba bn bc] 75)) := (Below.refl _ w).alloc (Nat.le_refl _) _
  have hR0 := Rw.new w #[.int .i64 5, .slice aa an ac, .int .i64 (n : Int), .slice ba bn bc] 75
  have s0 := hR0.cell 0
  have s1 := hR0.cell 1
  have s2 := hR0.cell 2
  have s3 := hR0.cell 3
  have h0 := h.below hB0
  obtain ⟨W0, hW0⟩ : ∃ W0, w.alloc (.cells #[.int .i64 5, .slice aa an ac, .int .i64 (n : Int), .slice ba bn bc] 75) = W0 := ⟨_, rfl⟩
  rw [hW0] at hB0 s0 s1 s2 s3 h0
  have hk0 : ∀ b, b < w.heap.size ∧ b ∉ O → W0.heap[b]? = w.heap[b]? := fun b hb => hB0.block b hb.1
  have hP0 : ∀ b, b < w.heap.size ∧ b ∉ O → b < W0.heap.size ∧ b ∉ O := fun b hb => ⟨Nat.lt_of_lt_of_le hb.1 hB0.size, hb.2⟩
  have ha0 := ha.keep hk0 hP0
  have hb0 := hb.keep hk0 hP0
  have hL0 := hL.below hB0 hL.size
  change _ = some (Value.int .i64 5) at s0
  change _ = some (Value.slice aa an ac) at s1
  change _ = some (Value.int .i64 (n : Int)) at s2
  change _ = some (Value.slice ba bn bc) at s3
  clear ha hb hL hk0 hP0 hR0
  have HE : Hid (s.act 5 a n body line = s.lay (Ip.change 5 (Ip.linesOf s.buffer))) := rfl
  generalize s.act 5 a n body line = R at *
  have hC := changeLines_5 W0 O x s h0 hf.buf hL0
  have hLC : Calls Tryz.prog 104 #[.int .i64 5] W0 fun e w' => e = .returned (.func (.func 119) #[] #[]) ∧ w' = W0 := by
    go_enter Tryz.func104, Tryz.ntmps104
    go_wp2
    go_ret
    exact ⟨rfl, rfl⟩
  clear hj hal hn hbl hf h ha0 hb0 hL0 h0
  generalize str line = L at *
  go_enter Tryz.func93, Tryz.ntmps93
  go_wp2_with (first | (go_at_call 104; refine hLC.mono ?_; rintro e w1 ⟨rfl, hw1⟩; rw [hw1]; clear hw1) | (go_at_call 103; refine hC.mono ?_; rintro e w2 ⟨rfl, h2, h3⟩) | fail)
  go_end0
  rw [HE.out]
  exact ⟨rfl, (Went.same h2 h3.toOwn).ofBelow hB0⟩

end Go.Proofs.YtnobmgkdieaclaaGreatDoor

namespace Go.Proofs.YtnobmgkdieaclaaGreatDoor
open Go.RowKit

set_option maxRecDepth 100000 in
set_option maxHeartbeats 2000000 in
theorem do_6 (a : List (List UInt8)) (n : Nat) (body : Ac.Fo) (line : List UInt8) (aa : Option Addr) (an ac : Nat) (ba : Option Addr) (bn bc : Nat) (w : World) (O : List Nat) (x : RP) (s : Ip.St) (h : RunS w O x s) (hf : s.Fine) (hL : Laid w)
    (ha : TxR.SlP w (fun b => b < w.heap.size ∧ b ∉ O) (.slice aa an ac) a) (hb : FoP w (fun b => b < w.heap.size ∧ b ∉ O) (.slice ba bn bc) body) (hj : (Ip.joinW a).length ≤ 4000) (hal : a.length ≤ 4000) (hl : line.length ≤ 256) (hn : n ≤ 1000) (hbl : body.len ≤ 1000000) :
    Calls Tryz.prog 93 #[.pointer (some ⟨x.p, 0, none⟩), .agg #[.int .i64 6, .slice aa an ac, .int .i64 (n : Int), .slice ba bn bc], .string (str line)] w fun e w' => e = .returned (.tuple #[]) ∧ Went w O x (s.act 6 a n body line) w' := by
  have hUse := And.intro hal (And.intro hn (And.intro hbl (And.intro hj (And.intro hl (And.intro hf hL)))))
  clear hUse
  have hB0 : Below w.heap.size w (w.alloc (.cells #[.int .i64 6, .slice aa an ac, .int .i64 (n : Int), .slice ba bn bc] 75)) := (Below.refl _ w).alloc (Nat.le_refl _) _
  have hR0 := Rw.new w #[.int .i64 6, .slice aa an ac, .int .i64 (n : Int), .slice ba bn bc] 75
  have s0 := hR0.cell 0
  have s1 := hR0.cell 1
  have s2 := hR0.cell 2
  have s3 := hR0.cell 3
  have h0 := h.below hB0
  obtain ⟨W0, hW0⟩ : ∃ W0, w.alloc (.cells #[.int .i64 6, .slice aa an ac, .int .i64 (n : Int), .slice ba bn bc] 75) = W0 := ⟨_, rfl⟩
  rw [hW0] at hB0 s0 s1 s2 s3 h0
  have hk0 : ∀ b, b < w.heap.size ∧ b ∉ O → W0.heap[b]? = w.heap[b]? := fun b hb => hB0.block b hb.1
  have hP0 : ∀ b, b < w.heap.size ∧ b ∉ O → b < W0.heap.size ∧ b ∉ O := fun b hb => ⟨Nat.lt_of_lt_of_le hb.1 hB0.size, hb.2⟩
  have ha0 := ha.keep hk0 hP0
  have hb0 := hb.keep hk0 hP0
  have hL0 := hL.below hB0 hL.size
  change _ = some (Value.int .i64 6) at s0
  change _ = some (Value.slice aa an ac) at s1
  change _ = some (Value.int .i64 (n : Int)) at s2
  change _ = some (Value.slice ba bn bc) at s3
  clear ha hb hL hk0 hP0 hR0
  have HE : Hid (s.act 6 a n body line = s.lay (Ip.change 6 (Ip.linesOf s.buffer))) := rfl
  generalize s.act 6 a n body line = R at *
  have hC := changeLines_6 W0 O x s h0 hf.buf hL0
  have hLC : Calls Tryz.prog 104 #[.int .i64 6] W0 fun e w' => e = .returned (.func (.func 120) #[] #[]) ∧ w' = W0 := by
    go_enter Tryz.func104, Tryz.ntmps104
    go_wp2
    go_ret
    exact ⟨rfl, rfl⟩
  clear hj hal hn hbl hf h ha0 hb0 hL0 h0
  generalize str line = L at *
  go_enter Tryz.func93, Tryz.ntmps93
  go_wp2_with (first | (go_at_call 104; refine hLC.mono ?_; rintro e w1 ⟨rfl, hw1⟩; rw [hw1]; clear hw1) | (go_at_call 103; refine hC.mono ?_; rintro e w2 ⟨rfl, h2, h3⟩) | fail)
  go_end0
  rw [HE.out]
  exact ⟨rfl, (Went.same h2 h3.toOwn).ofBelow hB0⟩

end Go.Proofs.YtnobmgkdieaclaaGreatDoor

namespace Go.Proofs.YtnobmgkdieaclaaGreatDoor
open Go.RowKit

set_option maxRecDepth 100000 in
set_option maxHeartbeats 2000000 in
theorem do_7 (a : List (List UInt8)) (n : Nat) (body : Ac.Fo) (line : List UInt8) (aa : Option Addr) (an ac : Nat) (ba : Option Addr) (bn bc : Nat) (w : World) (O : List Nat) (x : RP) (s : Ip.St) (h : RunS w O x s) (hf : s.Fine) (hL : Laid w)
    (ha : TxR.SlP w (fun b => b < w.heap.size ∧ b ∉ O) (.slice aa an ac) a) (hb : FoP w (fun b => b < w.heap.size ∧ b ∉ O) (.slice ba bn bc) body) (hj : (Ip.joinW a).length ≤ 4000) (hal : a.length ≤ 4000) (hl : line.length ≤ 256) (hn : n ≤ 1000) (hbl : body.len ≤ 1000000) :
    Calls Tryz.prog 93 #[.pointer (some ⟨x.p, 0, none⟩), .agg #[.int .i64 7, .slice aa an ac, .int .i64 (n : Int), .slice ba bn bc], .string (str line)] w fun e w' => e = .returned (.tuple #[]) ∧ Went w O x (s.act 7 a n body line) w' := by
  have hUse := And.intro hal (And.intro hn (And.intro hbl (And.intro hj (And.intro hl (And.intro hf hL)))))
  clear hUse
  have hB0 : Below w.heap.size w (w.alloc (.cells #[.int .i64 7, .slice aa an ac, .int .i64 (n : Int), .slice ba bn bc] 75)) := (Below.refl _ w).alloc (Nat.le_refl _) _
  have hR0 := Rw.new w #[.int .i64 7, .slice aa an ac, .int .i64 (n : Int), .slice ba bn bc] 75
  have s0 := hR0.cell 0
  have s1 := hR0.cell 1
  have s2 := hR0.cell 2
  have s3 := hR0.cell 3
  have h0 := h.below hB0
  obtain ⟨W0, hW0⟩ : ∃ W0, w.alloc (.cells #[.int .i64 7, .slice aa an ac, .int .i64 (n : Int), .slice ba bn bc] 75) = W0 := ⟨_, rfl⟩
  rw [hW0] at hB0 s0 s1 s2 s3 h0
  have hk0 : ∀ b, b < w.heap.size ∧ b ∉ O → W0.heap[b]? = w.heap[b]? := fun b hb => hB0.block b hb.1
  have hP0 : ∀ b, b < w.heap.size ∧ b ∉ O → b < W0.heap.size ∧ b ∉ O := fun b hb => ⟨Nat.lt_of_lt_of_le hb.1 hB0.size, hb.2⟩
  have ha0 := ha.keep hk0 hP0
  have hb0 := hb.keep hk0 hP0
  have hL0 := hL.below hB0 hL.size
  change _ = some (Value.int .i64 7) at s0
  change _ = some (Value.slice aa an ac) at s1
  change _ = some (Value.int .i64 (n : Int)) at s2
  change _ = some (Value.slice ba bn bc) at s3
  clear ha hb hL hk0 hP0 hR0
  have HE : Hid (s.act 7 a n body line = s.lay (Ip.change 7 (Ip.linesOf s.buffer))) := rfl
  generalize s.act 7 a n body line = R at *
  have hC := changeLines_7 W0 O x s h0 hf.buf hL0
  have hLC : Calls Tryz.prog 104 #[.int .i64 7] W0 fun e w' => e = .returned (.func (.func 121) #[] #[]) ∧ w' = W0 := by
    go_enter Tryz.func104, Tryz.ntmps104
    go_wp2
    go_ret
    exact ⟨rfl, rfl⟩
  clear hj hal hn hbl hf h ha0 hb0 hL0 h0
  generalize str line = L at *
  go_enter Tryz.func93, Tryz.ntmps93
  go_wp2_with (first | (go_at_call 104; refine hLC.mono ?_; rintro e w1 ⟨rfl, hw1⟩; rw [hw1]; clear hw1) | (go_at_call 103; refine hC.mono ?_; rintro e w2 ⟨rfl, h2, h3⟩) | fail)
  go_end0
  rw [HE.out]
  exact ⟨rfl, (Went.same h2 h3.toOwn).ofBelow hB0⟩

end Go.Proofs.YtnobmgkdieaclaaGreatDoor

namespace Go.Proofs.YtnobmgkdieaclaaGreatDoor
open Go.RowKit

set_option maxRecDepth 100000 in
set_option maxHeartbeats 2000000 in
theorem do_8 (u : List UInt8) (n : Nat) (body : Ac.Fo) (line : List UInt8) (aa : Option Addr) (an ac : Nat) (ba : Option Addr) (bn bc : Nat) (w : World) (O : List Nat) (x : RP) (s : Ip.St) (h : RunS w O x s) (hf : s.Fine) (hL : Laid w)
    (ha : TxR.SlP w (fun b => b < w.heap.size ∧ b ∉ O) (.slice aa an ac) [u]) (hb : FoP w (fun b => b < w.heap.size ∧ b ∉ O) (.slice ba bn bc) body) (hj : (Ip.joinW [u]).length ≤ 4000) (hal : [u].length ≤ 4000) (hl : line.length ≤ 256) (hn : n ≤ 1000) (hbl : body.len ≤ 1000000) :
    Calls Tryz.prog 93 #[.pointer (some ⟨x.p, 0, none⟩), .agg #[.int .i64 8, .slice aa an ac, .int .i64 (n : Int), .slice ba bn bc], .string (str line)] w fun e w' => e = .returned (.tuple #[]) ∧ Went w O x (s.act 8 [u] n body line) w' := by
  obtain rfl : an = 1 := by
    obtain ⟨_, _, e, -⟩ := ha
    simp only [Value.slice.injEq] at e
    exact e.2.1
  have hUse := And.intro hal (And.intro hn (And.intro hbl (And.intro hj (And.intro hl (And.intro hf hL)))))
  clear hUse
  have hB0 : Below w.heap.size w (w.alloc (.cells #[.int .i64 8, .slice aa 1 ac, .int .i64 (n : Int), .slice ba bn bc] 75)) := (Below.refl _ w).alloc (Nat.le_refl _) _
  have hR0 := Rw.new w #[.int .i64 8, .slice aa 1 ac, .int .i64 (n : Int), .slice ba bn bc] 75
  have s0 := hR0.cell 0
  have s1 := hR0.cell 1
  have s2 := hR0.cell 2
  have s3 := hR0.cell 3
  have h0 := h.below hB0
  obtain ⟨W0, hW0⟩ : ∃ W0, w.alloc (.cells #[.int .i64 8, .slice aa 1 ac, .int .i64 (n : Int), .slice ba bn bc] 75) = W0 := ⟨_, rfl⟩
  rw [hW0] at hB0 s0 s1 s2 s3 h0
  have hk0 : ∀ b, b < w.heap.size ∧ b ∉ O → W0.heap[b]? = w.heap[b]? := fun b hb => hB0.block b hb.1
  have hP0 : ∀ b, b < w.heap.size ∧ b ∉ O → b < W0.heap.size ∧ b ∉ O := fun b hb => ⟨Nat.lt_of_lt_of_le hb.1 hB0.size, hb.2⟩
  have ha0 := ha.keep hk0 hP0
  have hb0 := hb.keep hk0 hP0
  have hL0 := hL.below hB0 hL.size
  change _ = some (Value.int .i64 8) at s0
  change _ = some (Value.slice aa 1 ac) at s1
  change _ = some (Value.int .i64 (n : Int)) at s2
  change _ = some (Value.slice ba bn bc) at s3
  clear ha hb hL hk0 hP0 hR0
  obtain ⟨ga0, oa0, ca0, ea0, hga0, cw0⟩ := TxR.at (ha0.sl (B := W0.heap.size) (fun b hb => hb.1)) (k := 0) (by simp)
  simp only [Value.slice.injEq] at ea0
  obtain ⟨rfl, -, rfl⟩ := ea0
  change W0.cell? ⟨ga0, oa0 + 0, none⟩ = some (.string (str u)) at cw0
  rw [Nat.add_zero] at cw0
  have hA := pathOf_any line u W0 O x s h0 hj hl
  have HE : Hid (s.act 8 [u] n body line = match Ip.St.pathOf line u with | some p => s.write p | none => s.fail 141 (Ip.told line u)) := rfl
  generalize s.act 8 [u] n body line = R at *
  cases hp : Ip.St.pathOf line u with
  | none =>
    have e2 : s.path line u = s.fail 141 (Ip.told line u) := by unfold Ip.St.path; rw [hp]
    rw [hp] at HE hA
    rw [e2] at hA
    change Calls _ _ _ _ fun e w' => e = .returned (.tuple #[.string ⟨#[]⟩, .bool false]) ∧ _ at hA
    clear hj hal hn hbl hf h ha0 hb0 hL0 h0 hp e2
    generalize s.fail 141 (Ip.told line u) = R2 at *
    generalize str u = U at *
    generalize str line = L at *
    go_enter Tryz.func93, Tryz.ntmps93
    go_wp2_with (first | (go_at_call 105; refine hA.mono ?_; rintro e w1 ⟨rfl, h1, h2⟩) | fail)
    go_end0
    rw [show R = R2 from HE.out]
    exact ⟨rfl, (Went.same h1 h2.toOwn).ofBelow hB0⟩
  | some p =>
    have e2 : s.path line u = s := by unfold Ip.St.path; rw [hp]
    have hpl := (path_len hp).1
    rw [hp] at HE hA
    rw [e2] at hA
    change Calls _ _ _ _ fun e w' => e = .returned (.tuple #[.string (str p), .bool true]) ∧ _ at hA
    have hW := fun W hW => write_any p W O x s hW (by omega) hf.few
    clear hj hal hn hbl hf h ha0 hb0 hL0 h0 hp e2 hpl
    generalize str u = U at *
    generalize str p = P at *
    generalize str line = L at *
    go_enter Tryz.func93, Tryz.ntmps93
    go_wp2_with (first | (go_at_call 105; refine hA.mono ?_; rintro e w1 ⟨rfl, h1, h2⟩) | (go_at_call 106; refine (hW _ h1).mono ?_; rintro e w2 ⟨rfl, h3, h4⟩) | fail)
    go_end0
    rw [show R = s.write p from HE.out]
    refine ⟨rfl, (Went.same h3 (h2.toOwn.trans (h4.mono (S' := x.own) (fun b hb _ => ?_)) (fun _ hx _ => hx))).ofBelow hB0⟩
    simp at hb
    rcases hb with rfl | rfl
    · exact x.p_own
    · exact x.mw_own

end Go.Proofs.YtnobmgkdieaclaaGreatDoor

namespace Go.Proofs.YtnobmgkdieaclaaGreatDoor
open Go.RowKit

set_option maxRecDepth 100000 in
set_option maxHeartbeats 2000000 in
theorem do_9 (a : List (List UInt8)) (n : Nat) (body : Ac.Fo) (line : List UInt8) (aa : Option Addr) (an ac : Nat) (ba : Option Addr) (bn bc : Nat) (w : World) (O : List Nat) (x : RP) (s : Ip.St) (h : RunS w O x s) (hf : s.Fine) (hL : Laid w)
    (ha : TxR.SlP w (fun b => b < w.heap.size ∧ b ∉ O) (.slice aa an ac) a) (hb : FoP w (fun b => b < w.heap.size ∧ b ∉ O) (.slice ba bn bc) body) (hj : (Ip.joinW a).length ≤ 4000) (hal : a.length ≤ 4000) (hl : line.length ≤ 256) (hn : n ≤ 1000) (hbl : body.len ≤ 1000000) :
    Calls Tryz.prog 93 #[.pointer (some ⟨x.p, 0, none⟩), .agg #[.int .i64 9, .slice aa an ac, .int .i64 (n : Int), .slice ba bn bc], .string (str line)] w fun e w' => e = .returned (.tuple #[]) ∧ Went w O x (s.act 9 a n body line) w' := by
  have hUse := And.intro hal (And.intro hn (And.intro hbl (And.intro hj (And.intro hl (And.intro hf hL)))))
  clear hUse
  have hB0 : Below w.heap.size w (w.alloc (.cells #[.int .i64 9, .slice aa an ac, .int .i64 (n : Int), .slice ba bn bc] 75)) := (Below.refl _ w).alloc (Nat.le_refl _) _
  have hR0 := Rw.new w #[.int .i64 9, .slice aa an ac, .int .i64 (n : Int), .slice ba bn bc] 75
  have s0 := hR0.cell 0
  have s1 := hR0.cell 1
  have s2 := hR0.cell 2
  have s3 := hR0.cell 3
  have h0 := h.below hB0
  obtain ⟨W0, hW0⟩ : ∃ W0, w.alloc (.cells #[.int .i64 9, .slice aa an ac, .int .i64 (n : Int), .slice ba bn bc] 75) = W0 := ⟨_, rfl⟩
  rw [hW0] at hB0 s0 s1 s2 s3 h0
  have hk0 : ∀ b, b < w.heap.size ∧ b ∉ O → W0.heap[b]? = w.heap[b]? := fun b hb => hB0.block b hb.1
  have hP0 : ∀ b, b < w.heap.size ∧ b ∉ O → b < W0.heap.size ∧ b ∉ O := fun b hb => ⟨Nat.lt_of_lt_of_le hb.1 hB0.size, hb.2⟩
  have ha0 := ha.keep hk0 hP0
  have hb0 := hb.keep hk0 hP0
  have hL0 := hL.below hB0 hL.size
  change _ = some (Value.int .i64 9) at s0
  change _ = some (Value.slice aa an ac) at s1
  change _ = some (Value.int .i64 (n : Int)) at s2
  change _ = some (Value.slice ba bn bc) at s3
  clear ha hb hL hk0 hP0 hR0
  have HE : Hid (s.act 9 a n body line = s.fail 140 (Ip.words line a)) := rfl
  generalize s.act 9 a n body line = R at *
  have hT := asTold_any line a (.slice aa an ac) W0 W0.heap.size (ha0.sl (fun b hb => hb.1)) (Nat.le_refl _) (by omega) (by omega) (by omega)
  have hF := fun W hW => fail_any 140 (Ip.words line a) W O x s hW
  have H0 : Hid _ := h0
  clear hj hal hn hbl hf h ha0 hb0 hL0 h0
  generalize s.fail 140 (Ip.words line a) = R2 at *
  generalize str (Ip.words line a) = SW at *
  generalize str line = L at *
  go_enter Tryz.func93, Tryz.ntmps93
  go_wp2_with (first | (go_at_call 101; refine hT.mono ?_; rintro e w1 ⟨rfl, h1⟩) | (go_at_call 52; refine (hF _ (H0.out.below h1)).mono ?_; rintro e w2 ⟨rfl, h2, h3⟩) | fail)
  go_end0
  rw [HE.out]
  exact ⟨rfl, (Went.same h2 (((Turn.of_below h1).mono (S' := [x.p]) (by simp)).trans h3 (fun _ hx _ => hx)).toOwn).ofBelow hB0⟩

end Go.Proofs.YtnobmgkdieaclaaGreatDoor
