/-
  The document's device: Copy, its words.
-/
import Derived.Test.YtccfoafcfnhejaaRefCrash
namespace Go.Proofs.Ytccfoafcfnhejaa
open Go.RowKit

/-- all blocks of w are in w' what they were -/
def AllKept (w w' : World) : Prop := ∀ (k : Nat) (o : Obj), w.heap[k]? = some o → w'.heap[k]? = some o
theorem kept_alloc {w : World} {k : Nat} {o : Obj} (q : Obj) (h : w.heap[k]? = some o) : (w.alloc q).heap[k]? = some o := by
  rw [Below.heap_alloc w q k (by
    rcases Nat.lt_or_ge k w.heap.size with hlt | hge
    · exact hlt
    · rw [Array.getElem?_eq_none hge] at h; cases h)]
  exact h
theorem kept_drew {w : World} {k : Nat} {o : Obj} (h : w.heap[k]? = some o) : w.drew.heap[k]? = some o := h
theorem alloc_size (w : World) (o : Obj) : (w.alloc o).heap.size = w.heap.size + 1 := by simp
theorem drew_size (w : World) : w.drew.heap.size = w.heap.size := rfl
theorem lit_at (w : World) (o : Obj) (g : Nat) (h : w.heap.size = g) : (w.alloc o).heap[g]? = some o := by
  subst h
  exact heap_alloc_new w o
theorem le_up {a b : Nat} (h : a ≤ b) : a ≤ b + 1 := Nat.le_succ_of_le h
theorem lt_up {a b : Nat} (h : a < b) : a < b + 1 := Nat.lt_succ_of_lt h
theorem belowA {w0 w : World} (h : Below w0.heap.size w0 w) (o : Obj) : Below w0.heap.size w0 (w.alloc o) := h.alloc h.size o
theorem belowD {w0 w : World} (h : Below w0.heap.size w0 w) : Below w0.heap.size w0 w.drew := h.drew

/-- the row that an append to an empty literal makes -/
def NewRow (w : World) (g : Nat) (e : TypeId) (size m cap : Nat) (news : List Value) : Prop :=
  ∃ cur : Array Value, w.heap[g]? = some (.cells cur e (0, 0)) ∧ m ≤ cap ∧ cap ≤ maxLen ∧ cur.size = cap * size ∧ cur.toList.take (m * size) = news

theorem step_append_zero {ops : Array Oper} {o : Oper} {a : Act} {w : World} {K : Act → World → Prop} {Q : Exit → Act → World → Prop} {E : Prop} (hgd : o.guard = none) (s x : Operand) (t : TypeId)
    (ho : o.op = .call { callee := .builtin .append, args := #[s, x], argTypes := #[t, t] })
    (e : TypeId) (i : TypeInfo) (z : Value) (size bytes : Nat) (ht : Try.prog.underlying t = some (.slice e)) (hi : Try.prog.info? e = some i) (hz : i.zero = some z)
    (hsize : i.size = size) (hby : i.bytes = bytes) (hzs : z.cells.size = size)
    (hs' : ∃ b : Addr, a.eval s = .slice (some b) 0 0)
    (ad : Addr) (m c : Nat) (news : List Value) (hx : a.eval x = .slice (some ad) m c) (hl : news.length = m * size) (w0 : World) (hS : Below w0.heap.size w0 w)
    (hnews : ∀ W, Below w0.heap.size w0 W → ∀ j u, news[j]? = some u → W.cell? (ad.add j) = some u)
    (hm : 0 < m) (h63 : m ≤ 1000000000) (hbytes : bytes ≤ 1000)
    (h : ∀ cap w', NewRow w' w.heap.size e size m cap news → AllKept w w' → Below w0.heap.size w0 w' → w'.heap.size = w.heap.size + 1 → K (a.put o.dst (.slice (some ⟨w.heap.size, 0, none⟩) m cap)) w') :
    if Region.wanted o (yielded ops a.tmps) = true then Oper.wp Try.prog o a w K Q else E := by
  have hw : Region.wanted o (yielded ops a.tmps) = true := by simp [Region.wanted, hgd]
  rw [if_pos hw]
  obtain ⟨b, hs⟩ := hs'
  subst hsize hby
  have hmb : m * i.bytes ≤ 281474976710656 := Nat.le_trans (Nat.mul_le_mul h63 hbytes) (by decide)
  have hr := run_append_grow (P := Try.prog) w t o.type e i z ht hi hz b 0 0 [] (by simp) (by intro j v hv; simp at hv) ad m c news hl (hnews w hS) (by omega) (by omega) (by rw [Nat.zero_add, nextslicecap_zero hm]; exact hmb)
  simp only [Nat.zero_add] at hr
  unfold Oper.wp execOp
  simp only [ho, resolve, invoke, builtin, Sem.run_bind, Sem.run_pure, Result.andThen_ok, List.map_toArray, List.map_cons, List.map_nil, hs, hx, hr]
  have hge := grownCap_ge w m 0 e
  refine h _ _ ⟨_, heap_alloc_new w.drew _, hge, grownCap_le_maxLen w m 0 e (by unfold maxLen; omega), ?_, ?_⟩ (fun k q hk => kept_alloc _ (kept_drew hk)) (belowA (belowD hS) _) (by simp)
  · simp only [Array.size_append, List.size_toArray, size_zeroCells, hzs, hl, List.length_nil]
    rw [Nat.zero_add, ← Nat.add_mul, Nat.add_sub_cancel' hge]
  · simp only [Array.toList_append, List.nil_append]
    rw [← hl]
    exact List.take_left

theorem RwO.news {w : World} {R n cap : Nat} {f : Nat → Option Dk.Blk} (h : RwO w R n cap f) : ∃ news : List Value, news.length = n ∧ (∀ W, Below w.heap.size w W → ∀ j u, news[j]? = some u → W.cell? ((⟨R, 0, none⟩ : Addr).add j) = some u) ∧
    (∀ W g cap', Kept5 w W → NewRow W g 27 1 n cap' news → RwO W g n cap' f) := by
  have hlt := h.lt
  obtain ⟨cur, h1, h2, h3, h4, h5⟩ := h
  have hlen : (cur.toList.take n).length = n := by rw [List.length_take, Array.length_toList]; omega
  refine ⟨cur.toList.take n, hlen, fun W hW j u hu => ?_, fun W g cap' hk hN => ?_⟩
  · rw [addr_add, hW.cell (p := ⟨R, 0 + j, none⟩) hlt, Nat.zero_add, cell_of_row w R j cur 27 (0, 0) h1]
    rw [List.getElem?_take] at hu
    split at hu
    · rwa [Array.getElem?_toList] at hu
    · cases hu
  · obtain ⟨cur', g1, g2, g3, g4, g5⟩ := hN
    rw [Nat.mul_one] at g4 g5
    refine ⟨cur', g1, g2, g3, g4, fun i hi => ?_⟩
    obtain ⟨v, hv, hc⟩ := h5 i hi
    refine ⟨v, ?_, hc.kept hk⟩
    have : (cur'.toList.take n)[i]? = (cur.toList.take n)[i]? := by rw [g5]
    rw [List.getElem?_take, List.getElem?_take, if_pos hi, if_pos hi, Array.getElem?_toList, Array.getElem?_toList] at this
    rw [this]
    exact hv

theorem Flt.news {w : World} {v : Value} {F : List (Int × Int)} (h : Flt w v F) (hne : F ≠ []) : ∃ g c, v = .slice (some ⟨g, 0, none⟩) F.length c ∧ (fltV F).length = F.length * 2 ∧ (∀ W, Below w.heap.size w W → ∀ j u, (fltV F)[j]? = some u → W.cell? ((⟨g, 0, none⟩ : Addr).add j) = some u) := by
  have hl := fltV_len F
  rcases h.2 with ⟨_, h0⟩ | ⟨g, cap, cur, rfl, h1, h2, h3, h4, h5, h6⟩
  · exact absurd (List.eq_nil_of_length_eq_zero h0) hne
  · refine ⟨g, cap, rfl, hl, fun W hW j u hu => ?_⟩
    rw [addr_add, hW.cell (p := ⟨g, 0 + j, none⟩) (lt_of_heap h2), Nat.zero_add, cell_of_row w g j cur 106 (0, 0) h2]
    rw [← h6, List.getElem?_take] at hu
    split at hu
    · rwa [Array.getElem?_toList] at hu
    · cases hu
theorem NewRow.flt {w : World} {g cap : Nat} {F : List (Int × Int)} (h : NewRow w g 106 2 F.length cap (fltV F)) : Flt w (.slice (some ⟨g, 0, none⟩) F.length cap) F := by
  obtain ⟨cur, g1, g2, g3, g4, g5⟩ := h
  exact ⟨fltV_len F, .inr ⟨g, cap, cur, rfl, Nat.zero_le _, g1, g2, g3, g4, g5⟩⟩
theorem flt_lit {w : World} {g : Nat} (h : w.heap[g]? = some (.cells #[] 106 (0, 0))) : Flt w (.slice (some ⟨g, 0, none⟩) 0 0) [] :=
  ⟨rfl, .inr ⟨g, 0, #[], rfl, Nat.zero_le _, h, Nat.le_refl _, Nat.zero_le _, rfl, rfl⟩⟩
theorem NewRow.keep {w w' : World} {g : Nat} {e : TypeId} {size m cap : Nat} {news : List Value} (h : NewRow w g e size m cap news) (hk : ∀ o, w.heap[g]? = some o → w'.heap[g]? = some o) : NewRow w' g e size m cap news := by
  obtain ⟨cur, g1, g2⟩ := h
  exact ⟨cur, hk _ g1, g2⟩
theorem NewRow.lt {w : World} {g : Nat} {e : TypeId} {size m cap : Nat} {news : List Value} (h : NewRow w g e size m cap news) : g < w.heap.size := by
  obtain ⟨cur, g1, g2⟩ := h
  exact lt_of_heap g1


theorem step_append_empty {ops : Array Oper} {o : Oper} {a : Act} {w : World} {K : Act → World → Prop} {Q : Exit → Act → World → Prop} {E : Prop} (hgd : o.guard = none) (s x : Operand) (t : TypeId)
    (ho : o.op = .call { callee := .builtin .append, args := #[s, x], argTypes := #[t, t] })
    (e : TypeId) (i : TypeInfo) (ht : Try.prog.underlying t = some (.slice e)) (hi : Try.prog.info? e = some i)
    (b : Addr) (hs : a.eval s = .slice (some b) 0 0) (ad : Option Addr) (c : Nat) (hx : a.eval x = .slice ad 0 c)
    (h : K (a.put o.dst (.slice (some b) 0 0)) w) :
    if Region.wanted o (yielded ops a.tmps) = true then Oper.wp Try.prog o a w K Q else E := by
  have hw : Region.wanted o (yielded ops a.tmps) = true := by simp [Region.wanted, hgd]
  rw [if_pos hw]
  have hr : (Builtin.append_ #[t, t] o.type #[.slice (some b) 0 0, .slice ad 0 c]).run Try.prog w = .ok (.slice (some b) 0 0) w := by
    cases ad <;> simp [Builtin.append_, run_underlying ht, sizeOf, typeInfo, hi, Builtin.lenOf, Builtin.firstCells, loadCells, loadCellsFrom, storeCells]
  unfold Oper.wp execOp
  simp only [ho, resolve, invoke, builtin, Sem.run_bind, Sem.run_pure, Result.andThen_ok, List.map_toArray, List.map_cons, List.map_nil, hs, hx, hr]
  exact h

end Go.Proofs.Ytccfoafcfnhejaa
