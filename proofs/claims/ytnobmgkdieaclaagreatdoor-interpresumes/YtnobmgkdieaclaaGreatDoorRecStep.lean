/-
  'append' in a drawn region: onto a row of the call's own, onto nothing.
-/
import Derived.Test.YtnobmgkdieaclaaGreatDoorRec
import Derived.Deep.AppendLies
import Derived.Test.YtnobmgkdieaclaaGreatDoorIpPush
import Derived.Test.YtnobmgkdieaclaaGreatDoorIpMul
namespace Go.Proofs.YtnobmgkdieaclaaGreatDoor
open Go.RowKit

theorem Rc.step_app {α : Type} {ops : Array Oper} {o : Oper} {a : Act} {K : Act → World → Prop} {Q : Exit → Act → World → Prop} {E : Prop} {w : World} (R : Rc α) (hgd : o.guard = none) (s x : Operand)
    (ho : o.op = .call { callee := .builtin .append, args := #[s, x], argTypes := #[R.st, R.st] }) (base B : Nat) (v vx : Value) (l m : List α)
    (hs : a.eval s = v) (hown : R.Own w base v l) (hx : a.eval x = vx) (hb : R.Sl w B vx m) (hm : m ≠ []) (hlen : Hid (l.length + m.length ≤ 1099511627)) (hbase : base ≤ w.heap.size)
    (h : ∀ g cap w', R.Own w' base (.slice (some ⟨g, 0, none⟩) (l.length + m.length) cap) (l ++ m) → w.grownBy w' v.ownBlock → K (a.put o.dst (.slice (some ⟨g, 0, none⟩) (l.length + m.length) cap)) w') :
    if Region.wanted o (yielded ops a.tmps) = true then Oper.wp Tryz.prog o a w K Q else E := by
  obtain ⟨i0, hi, hz0, hz1, hz2⟩ := info_parts R.info
  have hl := hlen.out
  obtain ⟨ad, c, rfl, hle, hn, hcells⟩ := hb
  obtain ⟨b, o', rfl, _, hcell⟩ := hcells hm
  have hm1 : 0 < m.length := List.length_pos_iff.2 hm
  refine step_append_lies _ hgd s x R.st ho base R.e i0 _ R.k R.bytes R.under hi hz0 hz1 hz2 R.zk R.pos v l.length (R.vals l) hs hown ⟨b, o', none⟩ m.length c (R.vals m) hx (R.vals_length m) ?_ (R.vals_one m) hm1 ?_ ?_ hbase w.heap.size rfl ?_
  · intro j u hu
    rw [addr_at]
    exact hcell j u hu
  · unfold maxLen; omega
  · have h1 : (l.length + m.length) * R.bytes ≤ 1099511627 * 1024 := Nat.mul_le_mul hl R.small
    omega
  · intro g cap w' h1 h2 _ _
    refine h g cap w' ?_ h2
    unfold Own; rw [R.vals_append, List.length_append]; exact h1

/-- and where the row then lies -/
theorem Rc.step_app_at {α : Type} {ops : Array Oper} {o : Oper} {a : Act} {K : Act → World → Prop} {Q : Exit → Act → World → Prop} {E : Prop} {w : World} (R : Rc α) (hgd : o.guard = none) (s x : Operand)
    (ho : o.op = .call { callee := .builtin .append, args := #[s, x], argTypes := #[R.st, R.st] }) (base B : Nat) (v vx : Value) (l m : List α)
    (hs : a.eval s = v) (hown : R.Own w base v l) (hx : a.eval x = vx) (hb : R.Sl w B vx m) (hm : m ≠ []) (hlen : Hid (l.length + m.length ≤ 1099511627)) (hbase : base ≤ w.heap.size)
    (h : ∀ g cap w', R.Own w' base (.slice (some ⟨g, 0, none⟩) (l.length + m.length) cap) (l ++ m) → w.grownBy w' v.ownBlock → (v.ownBlock = some g ∨ g = w.heap.size) → K (a.put o.dst (.slice (some ⟨g, 0, none⟩) (l.length + m.length) cap)) w') :
    if Region.wanted o (yielded ops a.tmps) = true then Oper.wp Tryz.prog o a w K Q else E := by
  obtain ⟨i0, hi, hz0, hz1, hz2⟩ := info_parts R.info
  have hl := hlen.out
  obtain ⟨ad, c, rfl, hle, hn, hcells⟩ := hb
  obtain ⟨b, o', rfl, _, hcell⟩ := hcells hm
  have hm1 : 0 < m.length := List.length_pos_iff.2 hm
  refine step_append_lies _ hgd s x R.st ho base R.e i0 _ R.k R.bytes R.under hi hz0 hz1 hz2 R.zk R.pos v l.length (R.vals l) hs hown ⟨b, o', none⟩ m.length c (R.vals m) hx (R.vals_length m) ?_ (R.vals_one m) hm1 ?_ ?_ hbase w.heap.size rfl ?_
  · intro j u hu
    rw [addr_at]
    exact hcell j u hu
  · unfold maxLen; omega
  · have h1 : (l.length + m.length) * R.bytes ≤ 1099511627 * 1024 := Nat.mul_le_mul hl R.small
    omega
  · intro g cap w' h1 h2 h3 _
    refine h g cap w' ?_ h2 h3
    unfold Own; rw [R.vals_append, List.length_append]; exact h1

/-- 'append(nil, x...)' -/
theorem Rc.step_nil {α : Type} {ops : Array Oper} {o : Oper} {a : Act} {K : Act → World → Prop} {Q : Exit → Act → World → Prop} {E : Prop} {w : World} (R : Rc α) (hgd : o.guard = none) (s x : Operand)
    (ho : o.op = .call { callee := .builtin .append, args := #[s, x], argTypes := #[R.st, R.st] }) (B : Nat) (vx : Value) (m : List α)
    (hs : a.eval s = .slice none 0 0) (hx : a.eval x = vx) (hb : R.Sl w B vx m) (hlen : Hid (m.length ≤ 1099511627))
    (h : ∀ va vn vc w', R.Own w' w.heap.size (.slice va vn vc) m → Below w.heap.size w w' → K (a.put o.dst (.slice va vn vc)) w') :
    if Region.wanted o (yielded ops a.tmps) = true then Oper.wp Tryz.prog o a w K Q else E := by
  by_cases hm : m = []
  · subst hm
    have hw : Region.wanted o (yielded ops a.tmps) = true := by simp [Region.wanted, hgd]
    rw [if_pos hw]
    obtain ⟨i, hi, hz0, hz1, hz2⟩ := info_parts R.info
    obtain ⟨ad, c, rfl, hle, hn, hv⟩ := hb
    rw [List.length_nil] at hx
    have hr : (Builtin.append_ #[R.st, R.st] o.type #[.slice none 0 0, .slice ad 0 c]).run Tryz.prog w = .ok (.slice none 0 0) w := by
      cases ad <;> simp [Builtin.append_, run_underlying R.under, sizeOf, typeInfo, hi, Builtin.lenOf, Builtin.firstCells, loadCells, loadCellsFrom]
    unfold Oper.wp execOp
    simp only [ho, resolve, invoke, builtin, Sem.run_bind, Sem.run_pure, Result.andThen_ok, List.map_toArray, List.map_cons, List.map_nil, hs, hx, hr]
    exact h none 0 0 w (Rc.Own.nil _ _) (Below.refl _ _)
  · refine Rc.step_app R hgd s x ho w.heap.size B (.slice none 0 0) vx [] m hs (Rc.Own.nil _ _) hx hb hm ?_ (Nat.le_refl _) ?_
    · show _ ≤ _
      rw [List.length_nil, Nat.zero_add]
      exact hlen.out
    · intro g cap w' h1 h2
      exact h _ _ _ w' h1 ⟨h2.os, h2.tape, h2.output, h2.size, fun k hk => h2.block k hk (by simp [Value.ownBlock])⟩

end Go.Proofs.YtnobmgkdieaclaaGreatDoor

namespace Go.Proofs.YtnobmgkdieaclaaGreatDoor
open Go.RowKit

/-- the bounds that a run keeps to -/
structure Ip.St.Fine (s : Ip.St) : Prop where
  used : s.used ≤ s.fuel
  fuel : s.fuel ≤ 65536
  buf : s.buffer.length ≤ 256
  told : ∀ p c, s.told p = some c → c.length ≤ 256
  needs : s.needs.length ≤ 8
  few : s.targets.length ≤ 4
  short : ∀ p ∈ s.targets, p.length ≤ 1000
  deep : s.stack.length ≤ 1000000
theorem Went.ofBelow {w w0 w' : World} {O : List Nat} {x : RP} {s' : Ip.St} (hB : Below w.heap.size w w0) (h : Went w0 O x s' w') : Went w O x s' w' := by
  obtain ⟨x', a1, a2, a3, a4⟩ := h
  refine ⟨x', a1, a2, fun b hb => ?_, ((Turn.of_below hB).mono (S' := x.own) (by simp)).trans a4 (fun _ hx _ => hx)⟩
  rcases a3 b hb with h | h
  · exact .inl h
  · exact .inr (Nat.le_trans hB.size h)
theorem Turn.toOwn {w w' : World} {x : RP} (h : Turn [x.p] w w') : Turn x.own w w' := h.mono (fun b hb _ => by simp at hb; rw [hb]; exact x.p_own)
theorem str_append (a b : List UInt8) : str (a ++ b) = str a ++ str b := by
  apply bs_inj
  rw [bs_str]
  have : bs (str a ++ str b) = bs (str a) ++ bs (str b) := by simp [bs]
  rw [this, bs_str, bs_str]
theorem has_len {s : Ip.St} (h : s.Fine) {line u c : Ip.B} (hc : s.has line u = some c) : c.length ≤ 256 := by
  unfold Ip.St.has at hc
  cases hp : Ip.St.pathOf line u with
  | none => rw [hp] at hc; cases hc
  | some p => rw [hp] at hc; exact h.told p c hc
theorem ask_has {s : Ip.St} {line u c : Ip.B} (hc : s.has line u = some c) : s.ask line u = s := by
  unfold Ip.St.has at hc
  unfold Ip.St.ask
  cases hp : Ip.St.pathOf line u with
  | none => rw [hp] at hc; cases hc
  | some p =>
    rw [hp] at hc
    change s.told p = some c at hc
    simp only [hc]

theorem Went.step {w w1 w2 : World} {O : List Nat} {x x1 : RP} {s2 : Ip.St} (e1 : x1.p = x.p) (o1 : ∀ b ∈ x1.own, b ∈ x.own ∨ w.heap.size ≤ b) (t1 : Turn x.own w w1) (k : Went w1 (x1.own ++ O) x1 s2 w2) : Went w O x s2 w2 := by
  obtain ⟨x2, e2, h2, o2, t2⟩ := k
  refine ⟨x2, e2.trans e1, h2.other (fun b hb _ => ?_) (fun b hb => List.mem_append_left _ hb) (fun b hb => h2.lim b ?_), fun b hb => ?_, t1.trans t2 (fun b hb hlt => ?_)⟩
  · rcases List.mem_append.1 hb with hb | hb
    · exact List.mem_append_left _ hb
    · exact List.mem_append_right _ (List.mem_append_right _ hb)
  · rcases List.mem_append.1 hb with hb | hb
    · exact List.mem_append_left _ hb
    · exact List.mem_append_right _ (List.mem_append_right _ hb)
  · rcases o2 b hb with hb | hb
    · exact o1 b hb
    · exact .inr (Nat.le_trans t1.size hb)
  · rcases o1 b hb with hb | hb
    · exact hb
    · omega
/-- what putting bytes behind the buffer comes to, in two steps -/
theorem put_buffer {s : Ip.St} {n : Nat} (hc : s.canPut n = true) : (s.mayPut n).buffer = s.buffer := by
  unfold Ip.St.canPut at hc
  rw [Bool.and_eq_true, decide_eq_true_eq] at hc
  unfold Ip.St.mayPut Ip.St.pay
  rw [if_pos hc.1, hc.2]
  rfl

end Go.Proofs.YtnobmgkdieaclaaGreatDoor

namespace Go.Proofs.YtnobmgkdieaclaaGreatDoor
open Go.RowKit

set_option maxRecDepth 100000 in
set_option maxHeartbeats 2000000 in
theorem do_1 (u : List UInt8) (n : Nat) (body : Ac.Fo) (line : List UInt8) (aa : Option Addr) (an ac : Nat) (ba : Option Addr) (bn bc : Nat) (w : World) (O : List Nat) (x : RP) (s : Ip.St) (h : RunS w O x s) (hf : s.Fine) (hL : Laid w)
    (ha : TxR.SlP w (fun b => b < w.heap.size ∧ b ∉ O) (.slice aa an ac) [u]) (hb : FoP w (fun b => b < w.heap.size ∧ b ∉ O) (.slice ba bn bc) body) (hj : (Ip.joinW [u]).length ≤ 4000) (hal : [u].length ≤ 4000) (hl : line.length ≤ 256) (hn : n ≤ 1000) (hbl : body.len ≤ 1000000) :
    Calls Tryz.prog 93 #[.pointer (some ⟨x.p, 0, none⟩), .agg #[.int .i64 1, .slice aa an ac, .int .i64 (n : Int), .slice ba bn bc], .string (str line)] w fun e w' => e = .returned (.tuple #[]) ∧ Went w O x (s.act 1 [u] n body line) w' := by
  obtain rfl : an = 1 := by
    obtain ⟨_, _, e, -⟩ := ha
    simp only [Value.slice.injEq] at e
    exact e.2.1
  have hUse := And.intro hal (And.intro hn (And.intro hbl (And.intro hj (And.intro hl (And.intro hf hL)))))
  clear hUse
  have hB0 : Below w.heap.size w (w.alloc (.cells #[.int .i64 1, .slice aa 1 ac, .int .i64 (n : Int), .slice ba bn bc] 75)) := (Below.refl _ w).alloc (Nat.le_refl _) _
  have hR0 := Rw.new w #[.int .i64 1, .slice aa 1 ac, .int .i64 (n : Int), .slice ba bn bc] 75
  have s0 := hR0.cell 0
  have s1 := hR0.cell 1
  have s2 := hR0.cell 2
  have s3 := hR0.cell 3
  have h0 := h.below hB0
  obtain ⟨W0, hW0⟩ : ∃ W0, w.alloc (.cells #[.int .i64 1, .slice aa 1 ac, .int .i64 (n : Int), .slice ba bn bc] 75) = W0 := ⟨_, rfl⟩
  rw [hW0] at hB0 s0 s1 s2 s3 h0
  have hk0 : ∀ b, b < w.heap.size ∧ b ∉ O → W0.heap[b]? = w.heap[b]? := fun b hb => hB0.block b hb.1
  have hP0 : ∀ b, b < w.heap.size ∧ b ∉ O → b < W0.heap.size ∧ b ∉ O := fun b hb => ⟨Nat.lt_of_lt_of_le hb.1 hB0.size, hb.2⟩
  have ha0 := ha.keep hk0 hP0
  have hb0 := hb.keep hk0 hP0
  have hL0 := hL.below hB0 hL.size
  change _ = some (Value.int .i64 1) at s0
  change _ = some (Value.slice aa 1 ac) at s1
  change _ = some (Value.int .i64 (n : Int)) at s2
  change _ = some (Value.slice ba bn bc) at s3
  clear ha hb hL hk0 hP0 hR0
  obtain ⟨ga0, oa0, ca0, ea0, hga0, cw0⟩ := TxR.at (ha0.sl (B := W0.heap.size) (fun b hb => hb.1)) (k := 0) (by simp)
  simp only [Value.slice.injEq] at ea0
  obtain ⟨rfl, -, rfl⟩ := ea0
  change W0.cell? ⟨ga0, oa0 + 0, none⟩ = some (.string (str u)) at cw0
  rw [Nat.add_zero] at cw0
  have hA := ask_any line u W0 O x s h0 hj hl hf.needs
  have HE : Hid (s.act 1 [u] n body line = s.ask line u) := rfl
  generalize s.act 1 [u] n body line = R at *
  clear hj hal hn hbl hf h ha0 hb0 hL0 h0
  generalize str ((s.has line u).getD []) = X1 at *
  generalize (s.has line u).isSome = X2 at *
  generalize str u = U at *
  generalize str line = L at *
  go_enter Tryz.func93, Tryz.ntmps93
  go_wp2_with (first | (go_at_call 98; refine hA.mono ?_; rintro e w1 ⟨rfl, h1⟩) | fail)
  go_end0
  rw [HE.out]
  exact ⟨rfl, h1.ofBelow hB0⟩

end Go.Proofs.YtnobmgkdieaclaaGreatDoor

namespace Go.Proofs.YtnobmgkdieaclaaGreatDoor
open Go.RowKit

set_option maxRecDepth 100000 in
set_option maxHeartbeats 2000000 in
theorem do_2 (u : List UInt8) (n : Nat) (body : Ac.Fo) (line : List UInt8) (aa : Option Addr) (an ac : Nat) (ba : Option Addr) (bn bc : Nat) (w : World) (O : List Nat) (x : RP) (s : Ip.St) (h : RunS w O x s) (hf : s.Fine) (hL : Laid w)
    (ha : TxR.SlP w (fun b => b < w.heap.size ∧ b ∉ O) (.slice aa an ac) [u]) (hb : FoP w (fun b => b < w.heap.size ∧ b ∉ O) (.slice ba bn bc) body) (hj : (Ip.joinW [u]).length ≤ 4000) (hal : [u].length ≤ 4000) (hl : line.length ≤ 256) (hn : n ≤ 1000) (hbl : body.len ≤ 1000000) :
    Calls Tryz.prog 93 #[.pointer (some ⟨x.p, 0, none⟩), .agg #[.int .i64 2, .slice aa an ac, .int .i64 (n : Int), .slice ba bn bc], .string (str line)] w fun e w' => e = .returned (.tuple #[]) ∧ Went w O x (s.act 2 [u] n body line) w' := by
  obtain rfl : an = 1 := by
    obtain ⟨_, _, e, -⟩ := ha
    simp only [Value.slice.injEq] at e
    exact e.2.1
  have hUse := And.intro hal (And.intro hn (And.intro hbl (And.intro hj (And.intro hl (And.intro hf hL)))))
  clear hUse
  have hB0 : Below w.heap.size w (w.alloc (.cells #[.int .i64 2, .slice aa 1 ac, .int .i64 (n : Int), .slice ba bn bc] 75)) := (Below.refl _ w).alloc (Nat.le_refl _) _
  have hR0 := Rw.new w #[.int .i64 2, .slice aa 1 ac, .int .i64 (n : Int), .slice ba bn bc] 75
  have s0 := hR0.cell 0
  have s1 := hR0.cell 1
  have s2 := hR0.cell 2
  have s3 := hR0.cell 3
  have h0 := h.below hB0
  obtain ⟨W0, hW0⟩ : ∃ W0, w.alloc (.cells #[.int .i64 2, .slice aa 1 ac, .int .i64 (n : Int), .slice ba bn bc] 75) = W0 := ⟨_, rfl⟩
  rw [hW0] at hB0 s0 s1 s2 s3 h0
  have hk0 : ∀ b, b < w.heap.size ∧ b ∉ O → W0.heap[b]? = w.heap[b]? := fun b hb => hB0.block b hb.1
  have hP0 : ∀ b, b < w.heap.size ∧ b ∉ O → b < W0.heap.size ∧ b ∉ O := fun b hb => ⟨Nat.lt_of_lt_of_le hb.1 hB0.size, hb.2⟩
  have ha0 := ha.keep hk0 hP0
  have hb0 := hb.keep hk0 hP0
  have hL0 := hL.below hB0 hL.size
  change _ = some (Value.int .i64 2) at s0
  change _ = some (Value.slice aa 1 ac) at s1
  change _ = some (Value.int .i64 (n : Int)) at s2
  change _ = some (Value.slice ba bn bc) at s3
  clear ha hb hL hk0 hP0 hR0
  obtain ⟨ga0, oa0, ca0, ea0, hga0, cw0⟩ := TxR.at (ha0.sl (B := W0.heap.size) (fun b hb => hb.1)) (k := 0) (by simp)
  simp only [Value.slice.injEq] at ea0
  obtain ⟨rfl, -, rfl⟩ := ea0
  change W0.cell? ⟨ga0, oa0 + 0, none⟩ = some (.string (str u)) at cw0
  rw [Nat.add_zero] at cw0
  have hA := ask_any line u W0 O x s h0 hj hl hf.needs
  have HE : Hid (s.act 2 [u] n body line = match s.has line u with | some c => s.put c | none => s.ask line u) := rfl
  generalize s.act 2 [u] n body line = R at *
  cases hh : s.has line u with
  | none =>
    rw [hh] at HE hA
    change Calls _ _ _ _ fun e w' => e = .returned (.tuple #[.string ⟨#[]⟩, .bool false]) ∧ _ at hA
    clear hj hal hn hbl hf h ha0 hb0 hL0 h0 hh
    generalize s.ask line u = R2 at *
    generalize str u = U at *
    generalize str line = L at *
    go_enter Tryz.func93, Tryz.ntmps93
    go_wp2_with (first | (go_at_call 98; refine hA.mono ?_; rintro e w1 ⟨rfl, h1⟩) | fail)
    go_end0
    rw [show R = R2 from HE.out]
    exact ⟨rfl, h1.ofBelow hB0⟩
  | some c =>
    have hcl := has_len hf hh
    rw [ask_has hh] at hA
    rw [hh] at HE hA
    change Calls _ _ _ _ fun e w' => e = .returned (.tuple #[.string (str c), .bool true]) ∧ _ at hA
    have hMP := fun W O' x' hW => mayPut_any c.length W O' x' s hW hf.used hf.fuel (by omega) hf.buf
    have hcz := str_size c
    have hsz : ¬ 9223372036854775807 < (str s.buffer).size + (str c).size := by rw [str_size, hcz]; have := hf.buf; omega
    rw [← hcz] at hMP
    have HA : Hid (str (s.buffer ++ c) = str s.buffer ++ str c) := str_append _ _
    have HC : Hid (s.put c = if s.canPut c.length then { s.mayPut c.length with buffer := s.buffer ++ c } else s.mayPut c.length) := rfl
    rw [hcz] at hMP
    have HR : Hid (R = s.put c) := HE.out
    clear hj hal hn hbl h ha0 hb0 hL0 h0 hh HE hcl hf
    generalize str u = U at *
    generalize str line = L at *
    have cz : ((str c).size : Int) = (c.length : Int) := by omega
    cases hcp : s.canPut c.length with
    | false =>
      rw [hcp] at HC
      have hMP2 : ∀ W O' x', RunS W O' x' s → x'.p = x.p → Calls Tryz.prog 99 #[.pointer (some ⟨x.p, 0, none⟩), .int .i64 ((str c).size : Int)] W fun e w' => e = .returned (.bool false) ∧ Went W O' x' (s.mayPut c.length) w' := by
        intro W O' x' hW hp
        have := hMP W O' x' hW
        rw [hcp, hp] at this
        rw [cz]
        refine this.mono ?_
        rintro e w' ⟨h1, h2, h3⟩
        rw [← hp] at h3
        exact ⟨h1, Went.same h2 h3.toOwn⟩
      clear hMP cz hcz hcp
      generalize str c = C at *
      go_enter Tryz.func93, Tryz.ntmps93
      go_wp2_with (first | (go_at_call 98; refine hA.mono ?_; rintro e w1 ⟨rfl, h1⟩) | (go_at_call 99; obtain ⟨x1, e1, r1, o1, t1⟩ := h1; refine (hMP2 _ _ x1 r1 e1).mono ?_; rintro e w2 ⟨rfl, h2⟩) | fail)
      go_end0
      rw [HR.out, HC.out]
      exact ⟨rfl, (Went.step e1 o1 t1 h2).ofBelow hB0⟩
    | true =>
      rw [hcp] at HC
      have hbu := put_buffer hcp
      have hMP2 : ∀ W O' x', RunS W O' x' s → x'.p = x.p → Calls Tryz.prog 99 #[.pointer (some ⟨x.p, 0, none⟩), .int .i64 ((str c).size : Int)] W fun e w' => e = .returned (.bool true) ∧ w'.cell? ⟨x.p, 5, none⟩ = some (.string (str s.buffer)) ∧ w'.frozen? ⟨x.p, 5, none⟩ = false ∧ Went W O' x' { s.mayPut c.length with buffer := s.buffer ++ c } (w'.setCell ⟨x.p, 5, none⟩ (.string (str s.buffer ++ str c))) := by
        intro W O' x' hW hp
        have := hMP W O' x' hW
        rw [hcp, hp] at this
        rw [cz]
        refine this.mono ?_
        rintro e w' ⟨h1, h2, h3⟩
        have q5 := h2.c5
        have qf := h2.free 5
        have hs := h2.setBuffer (s.buffer ++ c)
        rw [hbu] at q5
        rw [HA.out, hp] at hs
        rw [hp] at q5 qf
        rw [← hp] at h3
        refine ⟨h1, q5, qf, Went.same hs ?_⟩
        exact (h3.set (p := ⟨x.p, 5, none⟩) (fun _ => by simp [hp]) _).toOwn
      clear hMP cz hcz hcp hbu HA
      generalize str c = C at *
      generalize str s.buffer = SB at *
      go_enter Tryz.func93, Tryz.ntmps93
      go_wp2_with (first | (go_at_call 98; refine hA.mono ?_; rintro e w1 ⟨rfl, h1⟩) | (go_at_call 99; obtain ⟨x1, e1, r1, o1, t1⟩ := h1; refine (hMP2 _ _ x1 r1 e1).mono ?_; rintro e w2 ⟨rfl, q5, qf, h2⟩) | fail)
      go_end0
      rw [HR.out, HC.out]
      exact ⟨rfl, (Went.step e1 o1 t1 h2).ofBelow hB0⟩

end Go.Proofs.YtnobmgkdieaclaaGreatDoor
