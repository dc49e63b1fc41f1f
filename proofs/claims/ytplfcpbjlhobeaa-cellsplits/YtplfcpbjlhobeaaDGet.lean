/-
  THE WALK OF Get.
-/
import Derived.Test.YtplfcpbjlhobeaaDRead
import Derived.Test.YtplfcpbjlhobeaaDWell
namespace Go.Proofs.Ytplfcpbjlhobeaa
open Go.RowKit

/-- what Get answers: the node whose page the bytes are, in new lists; or the error -/
def GotS (w w' : World) (bs : List UInt8) (e : Ending) : Prop :=
  (∃ n vi vk, Cm.got bs = some n ∧ e = .returned (.tuple #[.agg #[.bool n.leaf, vi, vk], .int .i64 0]) ∧ OwnC w' w.heap.size vi n.items ∧ OwnN w' w.heap.size vk n.kids) ∨
  (Cm.got bs = .none ∧ e = .returned (.tuple #[.agg #[.bool false, .slice none 0 0, .slice none 0 0], .int .i64 7]))

theorem OwnC.nds {w : World} {base : Nat} {n : Cm.Nd} {vi vk : Value} (h : OwnC w base vi n.items) (k : OwnN w base vk n.kids) : NdS w w.heap.size (.agg #[.bool n.leaf, vi, vk]) n := ⟨vi, vk, rfl, h.its, k.ints⟩

set_option maxRecDepth 100000 in
set_option maxHeartbeats 1000000 in
theorem Get_any (v : Value) (bs : List UInt8) (B : Nat) (w : World) (hv : Byts w B v bs) (hB : B ≤ w.heap.size) :
    Calls Try.prog 7 #[v] w fun e w' => GotS w w' bs e ∧ Below w.heap.size w w' := by
  have hv0 := hv
  obtain ⟨ad, c, rfl, -⟩ := hv0
  have hb0 := (Below.refl w.heap.size w).alloc (Nat.le_refl _) (.cells #[.bool false, .slice none 0 0, .slice none 0 0] 28)
  have hx0 := heap_alloc_new w (.cells #[.bool false, .slice none 0 0, .slice none 0 0] 28)
  by_cases hl : bs.length = 240
  · have HR : Hid (∀ W : World, Below w.heap.size w W → Calls Try.prog 29 #[.slice ad bs.length c] W fun e w' => RDone W w' bs e) := fun W h => read_any _ bs B W (hv.below h hB) (Nat.le_trans hB h.size) hl
    have hl2 : ((bs.length : Int) != 240) = false := by simp [hl]
    have Hl : Hid (bs.length = 240) := hl
    clear hl hv
    go_enter Try.func7, Try.ntmps7
    go_wp2_with fail
    refine (HR.out _ hb0).mono ?_
    rintro e w1 ⟨n, vi, vk, ok, rfl, ho1, hk1, hb1, hli, hlk, hok1, hok2⟩
    obtain ⟨adi, ci, hvi, -⟩ := ho1.its
    obtain ⟨adk, ck, hvk, -⟩ := hk1.ints
    subst hvi
    subst hvk
    have hx1 := (hb1.block w.heap.size (by simp)).trans hx0
    have hw1 := hb0.trans (hb1.mono (by simp))
    have hs0 : (w.alloc (.cells #[.bool false, .slice none 0 0, .slice none 0 0] 28)).heap.size = w.heap.size + 1 := by simp
    have hs1 := hb1.size
    rw [hs0] at hs1 ho1 hk1
    clear hx0 hb0 hb1 HR hs0
    have hcb := heap_alloc_new w1 (.cells #[.bool n.leaf, .slice adi n.items.length ci, .slice adk n.kids.length ck] 28)
    have hx2 := (((Below.refl _ w1).alloc (Nat.le_refl _) (.cells #[.bool n.leaf, .slice adi n.items.length ci, .slice adk n.kids.length ck] 28)).block w.heap.size (by omega)).trans hx1
    have hw2 := hw1.alloc (by omega) (.cells #[.bool n.leaf, .slice adi n.items.length ci, .slice adk n.kids.length ck] 28)
    have ho2 := OwnC.alloc ho1 (.cells #[.bool n.leaf, .slice adi n.items.length ci, .slice adk n.kids.length ck] 28)
    have hk2 := OwnN.alloc hk1 (.cells #[.bool n.leaf, .slice adi n.items.length ci, .slice adk n.kids.length ck] 28)
    have hs2 : (w1.alloc (.cells #[.bool n.leaf, .slice adi n.items.length ci, .slice adk n.kids.length ck] 28)).heap.size = w1.heap.size + 1 := by simp
    go_upto_region 4 with fail
    generalize w1.alloc (.cells #[.bool n.leaf, .slice adi n.items.length ci, .slice adk n.kids.length ck] 28) = W2 at *
    clear hx1 hw1 ho1 hk1
    obtain ⟨n0, n1, n2⟩ := cells3_of hcb
    obtain ⟨z0, z1, z2⟩ := cells3_of hx2
    have zf := fun j => frozen_of_row W2 w.heap.size j _ _ hx2
    cases ok
    · have HG : Hid (Cm.got bs = .none) := by
        show _ = _
        unfold Cm.got
        rw [if_pos Hl.out, hok2 rfl]
      go_wp2
      simp only [bodyPost, results, Try.results7]
      simp [go_sem, z0, z1, z2]
      exact ⟨.inr ⟨HG.out, rfl⟩, ((hw2.setCell (Nat.le_refl _) _).setCell (Nat.le_refl _) _).setCell (Nat.le_refl _) _⟩
    · have HN : Hid (Cm.rd bs = some n) := hok1 rfl
      clear hok1 hok2
      go_wp2_with fail
      refine (wellFormed_any n _ _ _ (OwnC.nds ho2 hk2) (Nat.le_refl _) (by omega) (by omega)).mono ?_
      rintro e w3 ⟨rfl, hb3⟩
      have hcb3 := (hb3.block w1.heap.size (by omega)).trans hcb
      have hx3 := (hb3.block w.heap.size (by omega)).trans hx2
      have hw3 := hw2.trans (hb3.mono (by omega))
      have ho3 := ho2.below hb3 (Nat.le_refl _)
      have hk3 := hk2.below hb3 (Nat.le_refl _)
      clear hb3 hcb hx2 hw2 ho2 hk2 n0 n1 n2 z0 z1 z2 zf
      obtain ⟨n0, n1, n2⟩ := cells3_of hcb3
      obtain ⟨z0, z1, z2⟩ := cells3_of hx3
      have zf := fun j => frozen_of_row w3 w.heap.size j _ _ hx3
      by_cases hr : Cm.Right n
      · rw [decide_eq_true hr]
        have HG : Hid (Cm.got bs = some n) := by
          show _ = _
          unfold Cm.got
          rw [if_pos Hl.out, HN.out]
          simp only
          rw [if_pos hr]
        clear hr
        have hf0 := heap_set3 hx3 (.bool n.leaf) (.slice adi n.items.length ci) (.slice adk n.kids.length ck)
        obtain ⟨y0, y1, y2⟩ := cells3_of hf0
        have ht : Turn [w.heap.size] w3 (((w3.setCell ⟨w.heap.size, 0, none⟩ (.bool n.leaf)).setCell ⟨w.heap.size, 1, none⟩ (.slice adi n.items.length ci)).setCell ⟨w.heap.size, 2, none⟩ (.slice adk n.kids.length ck)) :=
          (((Turn.refl [w.heap.size] w3).set (by simp) _).set (by simp) _).set (by simp) _
        have hfo : OwnC (((w3.setCell ⟨w.heap.size, 0, none⟩ (.bool n.leaf)).setCell ⟨w.heap.size, 1, none⟩ (.slice adi n.items.length ci)).setCell ⟨w.heap.size, 2, none⟩ (.slice adk n.kids.length ck)) w.heap.size (.slice adi n.items.length ci) n.items := Row.turn (OwnC.low ho3 (by omega)) ht fun g hg hx => by
          simp only [List.mem_singleton] at hx
          exact Row.ne ho3 hx3 (by decide) hg hx
        have hfk : OwnN (((w3.setCell ⟨w.heap.size, 0, none⟩ (.bool n.leaf)).setCell ⟨w.heap.size, 1, none⟩ (.slice adi n.items.length ci)).setCell ⟨w.heap.size, 2, none⟩ (.slice adk n.kids.length ck)) w.heap.size (.slice adk n.kids.length ck) n.kids := Row.turn (OwnN.low hk3 (by omega)) ht fun g hg hx => by
          simp only [List.mem_singleton] at hx
          exact Row.ne hk3 hx3 (by decide) hg hx
        have hfb : Below w.heap.size w (((w3.setCell ⟨w.heap.size, 0, none⟩ (.bool n.leaf)).setCell ⟨w.heap.size, 1, none⟩ (.slice adi n.items.length ci)).setCell ⟨w.heap.size, 2, none⟩ (.slice adk n.kids.length ck)) := ((hw3.setCell (Nat.le_refl _) _).setCell (Nat.le_refl _) _).setCell (Nat.le_refl _) _
        have HF : Hid (GotS w (((w3.setCell ⟨w.heap.size, 0, none⟩ (.bool n.leaf)).setCell ⟨w.heap.size, 1, none⟩ (.slice adi n.items.length ci)).setCell ⟨w.heap.size, 2, none⟩ (.slice adk n.kids.length ck)) bs (.returned (.tuple #[.agg #[.bool n.leaf, .slice adi n.items.length ci, .slice adk n.kids.length ck], .int .i64 0])) ∧ Below w.heap.size w (((w3.setCell ⟨w.heap.size, 0, none⟩ (.bool n.leaf)).setCell ⟨w.heap.size, 1, none⟩ (.slice adi n.items.length ci)).setCell ⟨w.heap.size, 2, none⟩ (.slice adk n.kids.length ck))) :=
          ⟨.inl ⟨n, _, _, HG.out, rfl, hfo, hfk⟩, hfb⟩
        clear ht hfo hfk hfb hf0
        go_wp2
        simp only [bodyPost, results, Try.results7]
        simp [go_sem, y0, y1, y2]
        exact HF.out
      · rw [decide_eq_false hr]
        have HG : Hid (Cm.got bs = .none) := by
          show _ = _
          unfold Cm.got
          rw [if_pos Hl.out, HN.out]
          simp only
          rw [if_neg hr]
        clear hr
        go_wp2
        simp only [bodyPost, results, Try.results7]
        simp [go_sem, z0, z1, z2]
        exact ⟨.inr ⟨HG.out, rfl⟩, ((hw3.setCell (Nat.le_refl _) _).setCell (Nat.le_refl _) _).setCell (Nat.le_refl _) _⟩
  · have HG : Hid (Cm.got bs = .none) := by
      show _ = _
      unfold Cm.got
      rw [if_neg hl]
    have hl2 : ((bs.length : Int) != 240) = true := by simp; omega
    go_enter Try.func7, Try.ntmps7
    go_wp2
    simp only [bodyPost, results, Try.results7]
    simp [go_sem]
    exact ⟨.inr ⟨HG.out, rfl⟩, hb0⟩

end Go.Proofs.Ytplfcpbjlhobeaa
