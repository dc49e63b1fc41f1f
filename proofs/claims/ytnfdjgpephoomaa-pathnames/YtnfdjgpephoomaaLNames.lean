/-
  THE WALK OF PathNames.
-/
import Derived.Test.YtnfdjgpephoomaaLWorks
namespace Go.Proofs.Ytnfdjgpephoomaa
open Go.RowKit

/-- thirty-two times a; a path of 60 bytes -/
def Pm.a32 : Pm.B := List.replicate 32 97
def Pm.p60 : Pm.B := List.replicate 32 97 ++ 47 :: List.replicate 27 97
theorem Pm.names_known : Pm.isP Pm.a32 = true ∧ Pm.isP (Pm.a32 ++ [97]) = false ∧ Pm.isP Pm.p60 = true ∧ Pm.isP (Pm.p60 ++ [97]) = false ∧ Pm.norm (Pm.p60 ++ [97]) = ([], 3) ∧ Pm.norm Pm.p60 = (Pm.p60, 0) := by
  decide +kernel

set_option maxRecDepth 100000 in
set_option maxHeartbeats 4000000 in
theorem names_walk (w : World) :
    Calls Try.prog 10 #[] w fun e w' => e = .returned (.bool true) ∧ Below w.heap.size w w' := by
  go_enter Try.func10, Try.ntmps10
  go_wp2_with fail
  refine (works_true _).mono ?_
  rintro e w1 ⟨rfl, hB1⟩
  go_wp2_with fail
  go_loopw [1, 2] (fun v i wr => ∃ (k : Nat) (t : ByteArray), k ≤ 32 ∧ v = .string t ∧ i = .int .i64 (k : Int) ∧ bs t = List.replicate k 97 ∧ t.size = k ∧ Below w.heap.size w wr) (fun _ i _ => 32 - (intOf i).toNat)
  case atStart => exact ⟨0, ⟨#[]⟩, Nat.zero_le _, rfl, rfl, rfl, rfl, hB1⟩
  case round =>
    obtain ⟨k, t, hk, rfl, rfl, ht, hts, hBe⟩ := hrel
    have HT : Hid _ := ht
    clear ht
    by_cases hlt : k < 32
    · have i1 : (k : Int) < 32 := by omega
      have f1 : ¬ 9223372036854775807 < t.size + 1 := by omega
      go_wp2
      refine ⟨⟨k + 1, _, by omega, rfl, by go_num, ?_, ?_, hBe⟩, by simp [intOf]; omega⟩
      · rw [bs_append, HT.out, List.replicate_succ']
      · rw [ByteArray.size_append, hts]; rfl
    · obtain rfl : k = 32 := by omega
      have f1 : ¬ 9223372036854775807 < t.size + 1 := by omega
      have f2 : ¬ 9223372036854775807 < t.size + 1 + 27 := by omega
      have e1 : bs t = Pm.a32 := HT.out
      have hp : bs (t ++ ⟨#[47]⟩ ++ t.extract 0 27) = Pm.p60 := by
        rw [bs_append, bs_append, bs_extract, e1]; decide +kernel
      have hps : (t ++ ⟨#[47]⟩ ++ t.extract 0 27).size = 60 := by
        rw [ByteArray.size_append, ByteArray.size_append, ByteArray.size_extract, hts]; rfl
      obtain ⟨n1, n2, n3, n4, n5, n6⟩ := Pm.names_known
      have HN : Hid (Pm.isP (bs t) = true ∧ Pm.isP (bs (t ++ ⟨#[97]⟩)) = false) := by
        show _ ∧ _
        rw [bs_append, e1]; exact ⟨n1, n2⟩
      clear e1 n1 n2
      go_wp2_with fail
      generalize t ++ ⟨#[47]⟩ ++ t.extract 0 27 = P at *
      have HP : Hid (Pm.isP (bs P) = true ∧ Pm.isP (bs (P ++ ⟨#[97]⟩)) = false ∧ Pm.norm (bs (P ++ ⟨#[97]⟩)) = ([], 3) ∧ Pm.norm (bs P) = (bs P, 0)) := by
        show _ ∧ _
        rw [bs_append, hp]; exact ⟨n3, n4, n5, n6⟩
      clear hp n3 n4 n5 n6
      have f3 : ¬ 9223372036854775807 < P.size + 1 := by omega
      have z1 : (P ++ (⟨#[97]⟩ : ByteArray)).size = 61 := by rw [ByteArray.size_append, hps]; rfl
      refine (Norm_any _ _ (by omega)).mono ?_
      rintro e w2 ⟨⟨u, rfl, -⟩, hB2⟩
      rw [HP.out.2.2.1]
      have hC2 := hBe.trans (hB2.mono hBe.size)
      go_wp2_with fail
      refine (Norm_any P _ (by omega)).mono ?_
      rintro e w3 ⟨⟨n, rfl, hn⟩, hB3⟩
      rw [HP.out.2.2.2] at hn ⊢
      have hC3 := hC2.trans (hB3.mono hC2.size)
      have b1 : (n.toList == P.toList) = true := beq_of_bs hn
      clear hn
      go_wp2_with fail
      refine (Is_any t _ (by omega)).mono ?_
      rintro e w4 ⟨rfl, hB4⟩
      rw [HN.out.1]
      have hC4 := hC3.trans (hB4.mono hC3.size)
      go_wp2_with fail
      have z2 : (t ++ (⟨#[97]⟩ : ByteArray)).size = 33 := by rw [ByteArray.size_append, hts]; rfl
      refine (Is_any _ _ (by omega)).mono ?_
      rintro e w5 ⟨rfl, hB5⟩
      rw [HN.out.2]
      have hC5 := hC4.trans (hB5.mono hC4.size)
      have q1 : ((P.size : Int) == 60) = true := by rw [hps]; rfl
      go_wp2_with fail
      refine (Is_any P _ (by omega)).mono ?_
      rintro e w6 ⟨rfl, hB6⟩
      rw [HP.out.1]
      have hC6 := hC5.trans (hB6.mono hC5.size)
      go_wp2_with fail
      refine (Is_any _ _ (by omega)).mono ?_
      rintro e w7 ⟨rfl, hB7⟩
      rw [HP.out.2.1]
      have hC7 := hC6.trans (hB7.mono hC6.size)
      go_wp2
      go_ret
      exact ⟨rfl, hC7⟩

end Go.Proofs.Ytnfdjgpephoomaa
