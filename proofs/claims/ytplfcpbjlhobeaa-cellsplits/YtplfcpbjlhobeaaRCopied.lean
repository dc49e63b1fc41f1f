/-
  THE WALK OF copied.
-/
import Derived.Test.YtplfcpbjlhobeaaCRows
import Derived.Test.YtplfcpbjlhobeaaRSmall
namespace Go.Proofs.Ytplfcpbjlhobeaa
open Go.RowKit

def Since (B : Nat) (a b : World) : Prop := Below B a b
theorem Since.size {B : Nat} {a b : World} (h : Since B a b) : a.heap.size ≤ b.heap.size := Below.size h
theorem Since.block {B : Nat} {a b : World} (h : Since B a b) (k : Nat) (hk : k < B) : b.heap[k]? = a.heap[k]? := Below.block h k hk

theorem OwnC.low {w : World} {B B' : Nat} {v : Value} {l : List Cm.It} (h : OwnC w B v l) (hB : B' ≤ B) : OwnC w B' v l := by
  refine ⟨h.1, ?_⟩
  rcases h.2 with h | ⟨g, cap, cur, h1, h2, h3⟩
  · exact .inl h
  · exact .inr ⟨g, cap, cur, h1, Nat.le_trans hB h2, h3⟩
theorem OwnN.low {w : World} {B B' : Nat} {v : Value} {l : List Int} (h : OwnN w B v l) (hB : B' ≤ B) : OwnN w B' v l := by
  refine ⟨h.1, ?_⟩
  rcases h.2 with h | ⟨g, cap, cur, h1, h2, h3⟩
  · exact .inl h
  · exact .inr ⟨g, cap, cur, h1, Nat.le_trans hB h2, h3⟩
theorem grown_set (w : World) (p j : Nat) (u : Value) : w.grownBy (w.setCell ⟨p, j, none⟩ u) (some p) :=
  ⟨rfl, rfl, rfl, by simp [World.setCell], fun k _ hk => Below.heap_setCell _ _ _ _ (fun e => hk (by simp [e]))⟩
theorem OwnC.set {w : World} {B p j : Nat} {v u : Value} {l : List Cm.It} (h : OwnC w B v l) (hp : p < B) : OwnC (w.setCell ⟨p, j, none⟩ u) B v l :=
  World.ownsRow.kept h (grown_set w p j u) (.inr fun e => by have := (World.ownsRow.lt h p e).1; omega)
theorem OwnN.set {w : World} {B p j : Nat} {v u : Value} {l : List Int} (h : OwnN w B v l) (hp : p < B) : OwnN (w.setCell ⟨p, j, none⟩ u) B v l :=
  World.ownsRow.kept h (grown_set w p j u) (.inr fun e => by have := (World.ownsRow.lt h p e).1; omega)
theorem heap_set3 {w : World} {p : Nat} {x0 x1 x2 : Value} {t : TypeId} (h : w.heap[p]? = some (.cells #[x0, x1, x2] t (0, 0))) (a b c : Value) :
    (((w.setCell ⟨p, 0, none⟩ a).setCell ⟨p, 1, none⟩ b).setCell ⟨p, 2, none⟩ c).heap[p]? = some (.cells #[a, b, c] t (0, 0)) := by
  have h1 := heap_setCell_same w p 0 _ t a h
  have h2 := heap_setCell_same _ p 1 _ t b h1
  have h3 := heap_setCell_same _ p 2 _ t c h2
  rw [h3]
  rfl
theorem below3 {w X : World} (hX : Below w.heap.size w X) (a b c : Value) : Below w.heap.size w (((X.setCell ⟨w.heap.size + 1, 0, none⟩ a).setCell ⟨w.heap.size + 1, 1, none⟩ b).setCell ⟨w.heap.size + 1, 2, none⟩ c) := by
  have h1 : Below w.heap.size w (X.setCell ⟨w.heap.size + 1, 0, none⟩ a) := hX.setCell (by show w.heap.size ≤ w.heap.size + 1; omega) _
  have h2 : Below w.heap.size w ((X.setCell ⟨w.heap.size + 1, 0, none⟩ a).setCell ⟨w.heap.size + 1, 1, none⟩ b) := h1.setCell (by show w.heap.size ≤ w.heap.size + 1; omega) _
  exact h2.setCell (by show w.heap.size ≤ w.heap.size + 1; omega) _
theorem copied_end {w X : World} {n : Cm.Nd} {vi vk : Value} {x0 x1 x2 : Value} (hX : Below w.heap.size w X) (hoc : OwnC X (w.heap.size + 2) vi n.items) (hon : OwnN X (w.heap.size + 2) vk n.kids)
    (hr : X.heap[w.heap.size + 1]? = some (.cells #[x0, x1, x2] 28 (0, 0))) :
    (((X.setCell ⟨w.heap.size + 1, 0, none⟩ (.bool n.leaf)).setCell ⟨w.heap.size + 1, 1, none⟩ vi).setCell ⟨w.heap.size + 1, 2, none⟩ vk).heap[w.heap.size + 1]? = some (.cells #[.bool n.leaf, vi, vk] 28 (0, 0)) ∧
    OwnC (((X.setCell ⟨w.heap.size + 1, 0, none⟩ (.bool n.leaf)).setCell ⟨w.heap.size + 1, 1, none⟩ vi).setCell ⟨w.heap.size + 1, 2, none⟩ vk) w.heap.size vi n.items ∧
    OwnN (((X.setCell ⟨w.heap.size + 1, 0, none⟩ (.bool n.leaf)).setCell ⟨w.heap.size + 1, 1, none⟩ vi).setCell ⟨w.heap.size + 1, 2, none⟩ vk) w.heap.size vk n.kids ∧
    Below w.heap.size w (((X.setCell ⟨w.heap.size + 1, 0, none⟩ (.bool n.leaf)).setCell ⟨w.heap.size + 1, 1, none⟩ vi).setCell ⟨w.heap.size + 1, 2, none⟩ vk) :=
  ⟨heap_set3 hr _ _ _, (((hoc.set (by omega)).set (by omega)).set (by omega)).low (by omega), (((hon.set (by omega)).set (by omega)).set (by omega)).low (by omega),
    below3 hX _ _ _⟩
theorem copied_C {w W A wc wn : World} {n : Cm.Nd} {ac an : Option Addr} {cc cn : Nat} {x0 x1 x2 : Value} (hS : Since (w.heap.size + 2) W A) (hK : ∀ X, Since (w.heap.size + 2) W X → w.heap.size + 2 ≤ X.heap.size ∧ Below w.heap.size w X)
    (hoc : OwnC wc A.heap.size (.slice ac n.items.length cc) n.items) (hbc : Below A.heap.size A wc) (hon : OwnN wn wc.heap.size (.slice an n.kids.length cn) n.kids) (hbn : Below wc.heap.size wc wn)
    (hr : wn.heap[w.heap.size + 1]? = some (.cells #[x0, x1, x2] 28 (0, 0))) :
    ∃ ac' cc' an' cn', (((wn.setCell ⟨w.heap.size + 1, 0, none⟩ (.bool n.leaf)).setCell ⟨w.heap.size + 1, 1, none⟩ (.slice ac n.items.length cc)).setCell ⟨w.heap.size + 1, 2, none⟩ (.slice an n.kids.length cn)).heap[w.heap.size + 1]? = some (.cells #[.bool n.leaf, .slice ac' n.items.length cc', .slice an' n.kids.length cn'] 28 (0, 0)) ∧
      OwnC (((wn.setCell ⟨w.heap.size + 1, 0, none⟩ (.bool n.leaf)).setCell ⟨w.heap.size + 1, 1, none⟩ (.slice ac n.items.length cc)).setCell ⟨w.heap.size + 1, 2, none⟩ (.slice an n.kids.length cn)) w.heap.size (.slice ac' n.items.length cc') n.items ∧
      OwnN (((wn.setCell ⟨w.heap.size + 1, 0, none⟩ (.bool n.leaf)).setCell ⟨w.heap.size + 1, 1, none⟩ (.slice ac n.items.length cc)).setCell ⟨w.heap.size + 1, 2, none⟩ (.slice an n.kids.length cn)) w.heap.size (.slice an' n.kids.length cn') n.kids ∧
      Below w.heap.size w (((wn.setCell ⟨w.heap.size + 1, 0, none⟩ (.bool n.leaf)).setCell ⟨w.heap.size + 1, 1, none⟩ (.slice ac n.items.length cc)).setCell ⟨w.heap.size + 1, 2, none⟩ (.slice an n.kids.length cn)) := by
  have hA := hK A hS
  have hX : Below w.heap.size w wn := (hA.2.trans (hbc.mono (by omega))).trans (hbn.mono (by have := hbc.size; omega))
  exact ⟨ac, cc, an, cn, copied_end hX ((hoc.low hA.1).below hbn (Nat.le_refl _)) (hon.low (by have := hbc.size; omega)) hr⟩
theorem copied_N {w W A wc wn : World} {n : Cm.Nd} {ac an : Option Addr} {cc cn : Nat} {x0 x1 x2 : Value} (hS : Since (w.heap.size + 2) W A) (hK : ∀ X, Since (w.heap.size + 2) W X → w.heap.size + 2 ≤ X.heap.size ∧ Below w.heap.size w X)
    (hon : OwnN wn A.heap.size (.slice an n.kids.length cn) n.kids) (hbn : Below A.heap.size A wn) (hoc : OwnC wc wn.heap.size (.slice ac n.items.length cc) n.items) (hbc : Below wn.heap.size wn wc)
    (hr : wc.heap[w.heap.size + 1]? = some (.cells #[x0, x1, x2] 28 (0, 0))) :
    ∃ ac' cc' an' cn', (((wc.setCell ⟨w.heap.size + 1, 0, none⟩ (.bool n.leaf)).setCell ⟨w.heap.size + 1, 1, none⟩ (.slice ac n.items.length cc)).setCell ⟨w.heap.size + 1, 2, none⟩ (.slice an n.kids.length cn)).heap[w.heap.size + 1]? = some (.cells #[.bool n.leaf, .slice ac' n.items.length cc', .slice an' n.kids.length cn'] 28 (0, 0)) ∧
      OwnC (((wc.setCell ⟨w.heap.size + 1, 0, none⟩ (.bool n.leaf)).setCell ⟨w.heap.size + 1, 1, none⟩ (.slice ac n.items.length cc)).setCell ⟨w.heap.size + 1, 2, none⟩ (.slice an n.kids.length cn)) w.heap.size (.slice ac' n.items.length cc') n.items ∧
      OwnN (((wc.setCell ⟨w.heap.size + 1, 0, none⟩ (.bool n.leaf)).setCell ⟨w.heap.size + 1, 1, none⟩ (.slice ac n.items.length cc)).setCell ⟨w.heap.size + 1, 2, none⟩ (.slice an n.kids.length cn)) w.heap.size (.slice an' n.kids.length cn') n.kids ∧
      Below w.heap.size w (((wc.setCell ⟨w.heap.size + 1, 0, none⟩ (.bool n.leaf)).setCell ⟨w.heap.size + 1, 1, none⟩ (.slice ac n.items.length cc)).setCell ⟨w.heap.size + 1, 2, none⟩ (.slice an n.kids.length cn)) := by
  have hA := hK A hS
  have hX : Below w.heap.size w wc := (hA.2.trans (hbn.mono (by omega))).trans (hbc.mono (by have := hbn.size; omega))
  exact ⟨ac, cc, an, cn, copied_end hX (hoc.low (by have := hbn.size; omega)) ((hon.low hA.1).below hbc (Nat.le_refl _)) hr⟩

set_option maxRecDepth 100000 in
set_option maxHeartbeats 4000000 in
theorem copied_any (n : Cm.Nd) (v : Value) (B : Nat) (w : World) (hv : NdS w B v n) (hB : B ≤ w.heap.size) (hl : n.items.length ≤ 1000000) (hk : n.kids.length ≤ 1000000) :
    Calls Try.prog 16 #[v] w fun e w' => ∃ vi vk, e = .returned (.agg #[.bool n.leaf, vi, vk]) ∧ OwnC w' w.heap.size vi n.items ∧ OwnN w' w.heap.size vk n.kids ∧ Below w.heap.size w w' := by
  have hv0 := hv
  obtain ⟨vi, vk, rfl, hI, hK⟩ := hv
  obtain ⟨ad, c, rfl, hc, hn, -⟩ := id hI
  obtain ⟨kd, d, rfl, hd, hkn, -⟩ := id hK
  have hbx := heap_alloc_new w (.cells #[.bool n.leaf, .slice ad n.items.length c, .slice kd n.kids.length d] 28)
  have hbw := (Below.refl w.heap.size w).alloc (Nat.le_refl _) (.cells #[.bool n.leaf, .slice ad n.items.length c, .slice kd n.kids.length d] 28)
  have hs0 : (w.alloc (.cells #[.bool n.leaf, .slice ad n.items.length c, .slice kd n.kids.length d] 28)).heap.size = w.heap.size + 1 := by simp
  go_enter Try.func16, Try.ntmps16
  go_upto_region 1 with fail
  generalize w.alloc (.cells #[.bool n.leaf, .slice ad n.items.length c, .slice kd n.kids.length d] 28) = W0 at *
  have hby := heap_alloc_new W0 (.cells #[.bool false, .slice none 0 0, .slice none 0 0] 28)
  have hbw1 := hbw.alloc (by omega) (.cells #[.bool false, .slice none 0 0, .slice none 0 0] 28)
  have hbx1 := (((Below.refl _ W0).alloc (Nat.le_refl _) (.cells #[.bool false, .slice none 0 0, .slice none 0 0] 28)).block w.heap.size (lt_of_heap hbx)).trans hbx
  have hs1 : (W0.alloc (.cells #[.bool false, .slice none 0 0, .slice none 0 0] 28)).heap.size = w.heap.size + 2 := by simp [hs0]
  rw [hs0] at hby
  generalize W0.alloc (.cells #[.bool false, .slice none 0 0, .slice none 0 0] 28) = W at *
  have hk0 : Since (w.heap.size + 2) W W.drew := ⟨rfl, rfl, rfl, Nat.le_refl _, fun _ _ => rfl⟩
  have HK : ∀ X, Since (w.heap.size + 2) W X → w.heap.size + 2 ≤ X.heap.size ∧ Below w.heap.size w X ∧ (X.cell? ⟨w.heap.size, 0, none⟩ = some (.bool n.leaf) ∧ X.cell? ⟨w.heap.size, 1, none⟩ = some (.slice ad n.items.length c) ∧ X.cell? ⟨w.heap.size, 2, none⟩ = some (.slice kd n.kids.length d)) ∧ X.heap[w.heap.size + 1]? = some (.cells #[.bool false, .slice none 0 0, .slice none 0 0] 28 (0, 0)) := fun X hX =>
    ⟨by have := hX.size; omega, hbw1.trans (Below.mono hX (by omega)), cells3_of ((hX.block w.heap.size (by omega)).trans hbx1), (hX.block (w.heap.size + 1) (by omega)).trans hby⟩
  have hC : ∀ X, Since (w.heap.size + 2) W X → Calls Try.prog 24 #[.slice ad n.items.length c] X fun e w' => ∃ v', e = .returned v' ∧ OwnC w' X.heap.size v' n.items ∧ Below X.heap.size X w' := fun X hX =>
    CloneC_any n.items _ B X (hI.below (HK X hX).2.1 hB) (by have := (HK X hX).1; omega) hl
  have hN : ∀ X, Since (w.heap.size + 2) W X → Calls Try.prog 36 #[.slice kd n.kids.length d] X fun e w' => ∃ v', e = .returned v' ∧ OwnN w' X.heap.size v' n.kids ∧ Below X.heap.size X w' := fun X hX =>
    CloneN_any n.kids _ B X (hK.below (HK X hX).2.1 hB) (by have := (HK X hX).1; omega) hk
  have hT : ∀ X Y, Since (w.heap.size + 2) W X → Below X.heap.size X Y → Since (w.heap.size + 2) W Y := fun X Y hX hY => Below.trans hX (hY.mono (HK X hX).1)
  clear hI hK hv0 hc hd hn hkn hbx hbw
  have hHK : Hid _ := HK
  have HK2 : Hid (∀ X, Since (w.heap.size + 2) W X → w.heap.size + 2 ≤ X.heap.size ∧ Below w.heap.size w X) := fun X hX => ⟨(HK X hX).1, (HK X hX).2.1⟩
  have HC : Hid _ := hC
  have HN : Hid _ := hN
  have HT : Hid _ := hT
  have HS : Hid (Since (w.heap.size + 2) W W.drew) := hk0
  obtain ⟨-, -, ⟨n0, n1, n2⟩, hr0⟩ := HK _ hk0
  have f1 := frozen_of_row W.drew (w.heap.size + 1) 0 _ _ hr0
  clear HK hC hN hT hk0 hbx1 hby
  go_cut [11] (fun _ wx => ∃ ac cc an cn, wx.heap[w.heap.size + 1]? = some (.cells #[.bool n.leaf, .slice ac n.items.length cc, .slice an n.kids.length cn] 28 (0, 0)) ∧ OwnC wx w.heap.size (.slice ac n.items.length cc) n.items ∧ OwnN wx w.heap.size (.slice an n.kids.length cn) n.kids ∧ Below w.heap.size w wx)
  case first =>
    go_region_with (first
      | (go_at_call 24; refine (HC.out _ (by first | exact HS.out | exact HkN.out)).mono ?_; rintro e wc ⟨vc, rfl, hoc, hbc⟩; obtain ⟨ac, cc, hvc, -⟩ := hoc.its; subst hvc; have HkC : Hid _ := HT.out _ _ (by first | exact HS.out | exact HkN.out) hbc; obtain ⟨-, -, ⟨n0c, n1c, n2c⟩, hrc⟩ := hHK.out _ HkC.out; obtain ⟨r0c, r1c, r2c⟩ := cells3_of hrc; have fc := fun j => frozen_of_row wc (w.heap.size + 1) j _ _ hrc; have Hrc : Hid _ := hrc; clear hrc; have Hoc : Hid _ := hoc; have Hbc : Hid _ := hbc; clear hoc hbc)
      | (go_at_call 36; refine (HN.out _ (by first | exact HS.out | exact HkC.out)).mono ?_; rintro e wn ⟨vn, rfl, hon, hbn⟩; obtain ⟨an, cn, hvn, -⟩ := hon.ints; subst hvn; have HkN : Hid _ := HT.out _ _ (by first | exact HS.out | exact HkC.out) hbn; obtain ⟨-, -, ⟨n0n, n1n, n2n⟩, hrn⟩ := hHK.out _ HkN.out; obtain ⟨r0n, r1n, r2n⟩ := cells3_of hrn; have fn := fun j => frozen_of_row wn (w.heap.size + 1) j _ _ hrn; have Hrn : Hid _ := hrn; clear hrn; have Hon : Hid _ := hon; have Hbn : Hid _ := hbn; clear hon hbn))
    all_goals (go_wp2_with fail)
    all_goals go_meet
    all_goals first
      | exact copied_C HS.out HK2.out Hoc.out Hbc.out Hon.out Hbn.out Hrn.out
      | exact copied_N HS.out HK2.out Hon.out Hbn.out Hoc.out Hbc.out Hrc.out
  case rest =>
    obtain ⟨ac, cc, an, cn, hres, hoc, hon, hbw⟩ := hcut
    obtain ⟨z0, z1, z2⟩ := cells3_of hres
    go_wp2
    simp only [bodyPost, results, Try.results16]
    simp [go_sem, z0, z1, z2]
    exact ⟨_, _, ⟨rfl, rfl⟩, hoc, hon, hbw⟩
end Go.Proofs.Ytplfcpbjlhobeaa
