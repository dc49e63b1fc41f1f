/-
  THE WALK OF THE DOCUMENT's Fill.
-/
import Derived.Test.YtnfdjgpephoomaaDoorPBs
namespace Go.Proofs.YtnfdjgpephoomaaDoor
open Go.RowKit

theorem fill_take (p st : Pm.B) (k : Nat) (hk : k < p.length) : Pm.fill (p.take (k + 1)) st = Pm.fill (p.take k) st ++ (if p[k] = 37 then st else [p[k]]) := by
  unfold Pm.fill
  rw [List.take_succ_eq_append_getElem hk, List.flatMap_append]
  simp
theorem fill_len (p st : Pm.B) : (Pm.fill p st).length ≤ p.length * (st.length + 1) := by
  induction p with
  | nil => simp [Pm.fill]
  | cons c r ih =>
    unfold Pm.fill at ih ⊢
    rw [List.flatMap_cons, List.length_append, List.length_cons, Nat.add_mul, Nat.one_mul]
    have : (if c = 37 then st else [c]).length ≤ st.length + 1 := by split <;> simp
    omega

set_option maxRecDepth 100000 in
set_option maxHeartbeats 4000000 in
theorem FillT_any (p st : ByteArray) (w : World) (hp : p.size ≤ 10000) (hst : st.size ≤ 10000) : Calls Tryd.prog 7 #[.string p, .string st] w fun e w' => ∃ t, e = .returned (.string t) ∧ bs t = Pm.fill (bs p) (bs st) ∧ Below w.heap.size w w' := by
  have hpl : (bs p).length = p.size := bs_length p
  go_enter Tryd.func7, Tryd.ntmps7
  go_wp2
  go_loopw [5, 6] (fun v i wr => ∃ k : Nat, k ≤ p.size ∧ i = .int .i64 (k : Int) ∧ Own wr w.heap.size v (Pm.fill ((bs p).take k) (bs st)) ∧ Below w.heap.size w wr) (fun _ i _ => p.size - (intOf i).toNat)
  case atStart => exact ⟨0, Nat.zero_le _, rfl, Own.nil _ _, Below.refl _ _⟩
  case round =>
    obtain ⟨k, hk, rfl, hO, hBe⟩ := hrel
    have hbs : w.heap.size ≤ wr.heap.size := hBe.size
    by_cases hlt : k < p.size
    · have HF : Hid _ := fill_take (bs p) (bs st) k (by rw [hpl]; exact hlt)
      have HLn : Hid ((Pm.fill ((bs p).take k) (bs st)).length ≤ 110000000) := by
        have h1 := fill_len ((bs p).take k) (bs st)
        have h2 : ((bs p).take k).length * ((bs st).length + 1) ≤ 10000 * 10001 := Nat.mul_le_mul (by rw [List.length_take]; omega) (by rw [bs_length]; omega)
        show _ ≤ _
        omega
      generalize Pm.fill ((bs p).take k) (bs st) = J at *
      have e0 : (bs p)[k]'(by rw [hpl]; exact hlt) = p[k] := rfl
      rw [e0] at HF
      clear e0
      have i1 : (k : Int) < (p.size : Int) := by omega
      have Hl : Hid (J.length ≤ 1099511627800) := by have := HLn.out; show _ ≤ _; omega
      have Hl2 : Hid (J.length + st.size ≤ 1099511627800) := by have := HLn.out; show _ ≤ _; omega
      generalize hx : p[k] = x at *
      by_cases hc : x = 37
      · have q1 : ((x.toNat : Int) == 37) = true := by rw [hc]; rfl
        rw [if_pos hc] at HF
        clear hc
        go_wp2_with (at_builtin; go_must (refine wpList_append_text rfl _ _ rfl w.heap.size _ J st rfl hO rfl Hl2 hbs ?_))
        intro v' w' h1 h2
        go_wp2
        refine ⟨⟨k + 1, by omega, by go_num, ?_, hBe.trans h2⟩, by simp [intOf]; omega⟩
        rw [HF.out]
        exact h1
      · have q1 : ((x.toNat : Int) == 37) = false := by
          rw [beq_eq_false_iff_ne]
          intro h
          exact hc (UInt8.toNat_inj.1 (by have : x.toNat = 37 := by omega
                                          rw [this]; rfl))
        rw [if_neg hc] at HF
        clear hc
        go_wp2_with (at_builtin; refine wpList_append_byte wr rfl (.tmp 20) (.tmp 24) rfl w.heap.size _ J _ x ?hc rfl hO rfl Hl hbs ?_)
        case hc => rfl
        intro v' w' h1 h2
        go_wp2
        refine ⟨⟨k + 1, by omega, by go_num, ?_, hBe.trans h2⟩, by simp [intOf]; omega⟩
        rw [HF.out]
        exact h1
    · obtain rfl : k = p.size := by omega
      rw [List.take_of_length_le (by omega)] at hO
      have i1 : ¬ (p.size : Int) < (p.size : Int) := by omega
      have hcv := conv_byts hO.byts
      go_wp2
      go_ret
      exact ⟨_, rfl, str_toList _, hBe⟩

end Go.Proofs.YtnfdjgpephoomaaDoor
