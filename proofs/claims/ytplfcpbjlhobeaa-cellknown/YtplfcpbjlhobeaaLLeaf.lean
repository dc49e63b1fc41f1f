/-
  THE WALK OF the law's leaf.
-/
import Derived.Test.YtplfcpbjlhobeaaDJoinL
namespace Go.Proofs.Ytplfcpbjlhobeaa
open Go.RowKit

/-- an item with the value x -/
def Cm.itX (k : ByteArray) : Cm.It := ⟨k, ⟨#[120]⟩, 0, 0⟩
/-- the leaf of keys -/
def Cm.leafN (ks : List ByteArray) : Cm.Nd := ⟨true, ks.map Cm.itX, []⟩

set_option maxRecDepth 100000 in
set_option maxHeartbeats 1000000 in
theorem leaf_any (ks : List ByteArray) (ad : Option Addr) (c : Nat) (w : World) (hn : ks.length ≤ 1000) (hv : ∀ j, j < ks.length → ∃ b o, ad = some ⟨b, o, none⟩ ∧ b < w.heap.size ∧ w.cell? ⟨b, o + j, none⟩ = some (.string (ks.getD j .empty))) :
    Calls Try.prog 9 #[.slice ad ks.length c] w fun e w' => ∃ vi, e = .returned (.agg #[.bool true, vi, .slice none 0 0]) ∧ OwnC w' w.heap.size vi (Cm.leafN ks).items ∧ Below w.heap.size w w' := by
  go_enter Try.func9, Try.ntmps9
  have hR0 : ((w.alloc (.cells #[.bool false, .slice none 0 0, .slice none 0 0] 28)).alloc (.cells #[.bool true, .slice none 0 0, .slice none 0 0] 28)).heap[w.heap.size]? = some (.cells #[.bool false, .slice none 0 0, .slice none 0 0] 28 (0, 0)) := k_al (heap_alloc_new w _) _
  have hN0 : ((w.alloc (.cells #[.bool false, .slice none 0 0, .slice none 0 0] 28)).alloc (.cells #[.bool true, .slice none 0 0, .slice none 0 0] 28)).heap[w.heap.size + 1]? = some (.cells #[.bool true, .slice none 0 0, .slice none 0 0] 28 (0, 0)) := heap_al_at _ _ _ (by simp)
  have hB0 : Below w.heap.size w ((w.alloc (.cells #[.bool false, .slice none 0 0, .slice none 0 0] 28)).alloc (.cells #[.bool true, .slice none 0 0, .slice none 0 0] 28)) := ((Below.refl w.heap.size w).alloc (Nat.le_refl _) _).alloc (by simp) _
  go_wp2
  generalize (w.alloc (.cells #[.bool false, .slice none 0 0, .slice none 0 0] 28)).alloc (.cells #[.bool true, .slice none 0 0, .slice none 0 0] 28) = W at *
  go_loopw [9] (fun i wr => ∃ (k : Nat) (vi : Value), k ≤ ks.length ∧ i = .int .i64 (k : Int) ∧ wr.heap[w.heap.size]? = some (.cells #[.bool false, .slice none 0 0, .slice none 0 0] 28 (0, 0)) ∧ wr.heap[w.heap.size + 1]? = some (.cells #[.bool true, vi, .slice none 0 0] 28 (0, 0)) ∧ OwnC wr (w.heap.size + 2) vi ((ks.take k).map Cm.itX) ∧ Below w.heap.size w wr) (fun i _ => ks.length - (intOf i).toNat)
  case atStart => exact ⟨0, _, Nat.zero_le _, rfl, hR0, hN0, by simpa using OwnC.nil _ _, hB0⟩
  case round =>
    obtain ⟨k, vi, hk, rfl, hR, hN, hO, hBe⟩ := hrel
    obtain ⟨r0, r1, r2⟩ := cells3_of hR
    obtain ⟨n0, n1, n2⟩ := cells3_of hN
    have rf := fun j => frozen_of_row wr w.heap.size j _ _ hR
    have nf := fun j => frozen_of_row wr (w.heap.size + 1) j _ _ hN
    obtain ⟨vd, vc, rfl, -⟩ := hO.its
    by_cases hlt : k < ks.length
    · obtain ⟨b, o, rfl, hb, hc⟩ := hv k hlt
      have hcell := (hBe.cell (p := ⟨b, o + k, none⟩) hb).trans hc
      clear hc
      have hsz := lt_of_heap hN
      obtain ⟨key, hkey⟩ : ∃ key, ks.getD k .empty = key := ⟨_, rfl⟩
      have HS : Hid ((ks.take (k + 1)).map Cm.itX = (ks.take k).map Cm.itX ++ [Cm.itX key]) := by
        show _ = _
        rw [← hkey, List.take_add_one, List.map_append]
        simp [List.getD, List.getElem?_eq_getElem hlt]
      rw [hkey] at hcell
      have Hx : Hid (((ks.take k).map Cm.itX).length + [Cm.itX key].length ≤ 1099511627) := by show _ ≤ _; simp; omega
      generalize (ks.take k).map Cm.itX = l at *
      clear hkey
      have HO := OwnC.alloc hO (.cells (itA (Cm.itX key)) 24)
      have HL := its_lit wr (Cm.itX key)
      have hRa := k_al hR (.cells (itA (Cm.itX key)) 24)
      have hNa := k_al hN (.cells (itA (Cm.itX key)) 24)
      have hBa := hBe.alloc hBe.size (.cells (itA (Cm.itX key)) 24)
      have hsa : w.heap.size + 2 ≤ (wr.alloc (.cells (itA (Cm.itX key)) 24)).heap.size := by simp; omega
      simp only [itA, Cm.itX] at HO HL hRa hNa hBa hsa
      go_wp2_with (at_builtin; go_must (refine wpList_append_its rfl (.tmp 14) (.tmp 17) rfl (w.heap.size + 2) (wr.heap.size + 1) _ _ _ [Cm.itX key] rfl HO rfl HL Hx hsa ?_))
      intro v' w' h1 h2
      have hg : ∀ q, (Value.slice vd l.length vc).ownBlock = some q → w.heap.size + 2 ≤ q := fun q hq => (World.ownsRow.lt hO q hq).1
      have hR1 := (h2.block _ (lt_of_heap hRa) (fun h => by have := hg _ h.symm; omega)).trans hRa
      have hN1 := (h2.block _ (lt_of_heap hNa) (fun h => by have := hg _ h.symm; omega)).trans hNa
      have hB1 := hBa.grown h2 hBa.size fun q hq => by have := hg q hq; omega
      clear HO HL hRa hNa hBa hsa hR hN hBe h2 hO r0 r1 r2 n0 n1 n2 rf nf hcell
      obtain ⟨n0, n1, n2⟩ := cells3_of hN1
      have nf := fun j => frozen_of_row w' (w.heap.size + 1) j _ _ hN1
      obtain ⟨vd2, vc2, rfl, -⟩ := h1.its
      have H1 : Hid (OwnC w' (w.heap.size + 2) (.slice vd2 (l ++ [Cm.itX key]).length vc2) (l ++ [Cm.itX key])) := h1
      clear h1
      generalize (l ++ [Cm.itX key]).length = L2 at *
      go_wp2
      refine ⟨⟨k + 1, _, by omega, by go_num, k_s1 hR1 (by omega), heap_setCell_same _ _ 1 _ _ _ hN1, ?_, hB1.setCell (by show w.heap.size ≤ w.heap.size + 1; omega) _⟩, by simp [intOf]; omega⟩
      rw [HS.out]
      exact OwnC.set H1.out (by omega)
    · have hO' : Hid (OwnC wr (w.heap.size + 2) (.slice vd ((ks.take k).map Cm.itX).length vc) (Cm.leafN ks).items) := by
        show OwnC _ _ _ _
        rw [show (Cm.leafN ks).items = (ks.take k).map Cm.itX by unfold Cm.leafN; rw [List.take_of_length_le (by omega)]]
        exact hO
      clear hO
      generalize ((ks.take k).map Cm.itX).length = L at *
      go_wp2
      obtain ⟨y0, y1, y2⟩ := cells3_of (heap_set3 hR (.bool true) (.slice vd L vc) (.slice none 0 0))
      have c2 : w.heap.size < w.heap.size + 2 := by omega
      have HB := ((hBe.setCell (p := ⟨w.heap.size, 0, none⟩) (Nat.le_refl _) (.bool true)).setCell (p := ⟨w.heap.size, 1, none⟩) (Nat.le_refl _) (.slice vd L vc)).setCell (p := ⟨w.heap.size, 2, none⟩) (Nat.le_refl _) (.slice none 0 0)
      have HO := OwnC.low (OwnC.set (j := 2) (u := .slice none 0 0) (OwnC.set (j := 1) (u := .slice vd L vc) (OwnC.set (j := 0) (u := .bool true) hO'.out c2) c2) c2) (show w.heap.size ≤ w.heap.size + 2 by omega)
      simp only [bodyPost, results, Try.results9]
      generalize ((wr.setCell ⟨w.heap.size, 0, none⟩ (.bool true)).setCell ⟨w.heap.size, 1, none⟩ (.slice vd L vc)).setCell ⟨w.heap.size, 2, none⟩ (.slice none 0 0) = X2 at *
      simp [go_sem, y0, y1, y2]
      exact ⟨HO, HB⟩

end Go.Proofs.Ytplfcpbjlhobeaa
