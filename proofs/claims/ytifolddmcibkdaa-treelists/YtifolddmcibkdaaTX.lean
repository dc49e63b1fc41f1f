/-
  WHAT THE PROGRAM's tree DOES: New, find, Read, Len, Mark.
-/
import Derived.Test.YtifolddmcibkdaaTHas
import Derived.Shelf.SlMaps.Clone
namespace Go.Proofs.Ytifolddmcibkdaa
open Go.RowKit Go.Shelf
attribute [local go_sem] Oper.semAt_some

set_option maxRecDepth 100000 in
theorem New_any (w : World) : Calls Try.prog 12 #[] w fun e w' => ∃ g S, e = .returned (.pointer (some ⟨g, 0, none⟩)) ∧ HasT w' g Tm.T.zero S ∧ (∀ b ∈ S, w.heap.size ≤ b) ∧ Below w.heap.size w w' := by
  go_enter Try.func12, Try.ntmps12
  go_wp2
  go_ret
  exact ⟨_, [w.heap.size], rfl, HasT.zeroed w, by simp, (Below.refl _ _).alloc (Nat.le_refl _) _⟩

theorem behind_file {w w1 : World} (hB : Below (w.alloc (.cells #[.string ⟨#[]⟩] 71)).heap.size (w.alloc (.cells #[.string ⟨#[]⟩] 71)) w1) :
    Below w.heap.size w w1 ∧ w1.heap[w.heap.size]? = some (.cells #[.string ⟨#[]⟩] 71 (0, 0)) ∧ w1.cell? ⟨w.heap.size, 0, none⟩ = some (.string ⟨#[]⟩) ∧ w1.frozen? ⟨w.heap.size, 0, none⟩ = false ∧ w.heap.size < w1.heap.size := by
  have hsz : (w.alloc (.cells #[.string ⟨#[]⟩] 71)).heap.size = w.heap.size + 1 := World.size_alloc ..
  rw [hsz] at hB
  have hz1 := hB.size
  rw [hsz] at hz1
  have b1 := (hB.block w.heap.size (by omega)).trans (heap_alloc_new w (.cells #[.string ⟨#[]⟩] 71))
  exact ⟨((Below.refl _ w).alloc (Nat.le_refl _) _).trans (hB.mono (by omega)), b1, (cell_of_row w1 w.heap.size 0 _ _ (0, 0) b1).trans rfl, by simp [World.frozen?, b1], by omega⟩
theorem zero_file (w : World) : (zeroValue 71).run Try.prog w = .ok (fileV .empty) w := by kernel_rfl
/-- what stands at a path: a map's answer -/
theorem FilesM.look {w : World} {mv : Option Nat} {l : List Tm.Fl} (h : FilesM w mv l) {p : ByteArray} (hp : p.size ≤ 60) :
    (Instr.lookup 27 (.map mv) (.string p) true).run Try.prog w = .ok (.tuple #[.agg #[.string ((Tm.look l p).getD .empty)], .bool (Tm.look l p).isSome]) w := by
  rcases h with ⟨rfl, rfl⟩ | ⟨b, rfl, h⟩
  · exact Maps.look_nil true keyed9 Try.underlying27 (zero_file w) (key9 (by omega))
  · rw [h.look Try.underlying27 (zero_file w) (by omega)]
    cases Tm.look l p <;> rfl
set_option maxRecDepth 100000 in
theorem find_any (g : Nat) (t : Tm.T) (S : List Nat) (p : ByteArray) (w : World) (h : HasT w g t S) (hk : Tm.Ok t) :
    Calls Try.prog 33 #[.pointer (some ⟨g, 0, none⟩), .string p] w fun e w' => e = .returned (.tuple #[.agg #[.string (Tm.read t p).1], .int .i64 ((Tm.read t p).2 : Int)]) ∧ Below w.heap.size w w' := by
  rcases Tm.read_cases hk p with ⟨hp, hr⟩ | ⟨hp, hno, hr⟩ | ⟨hp, s, hs, hr⟩
  · rw [hr]
    go_enter Try.func33, Try.ntmps33
    go_wp2_with fail
    refine (Is_all p _).mono ?_
    rintro e w1 ⟨rfl, hB⟩
    obtain ⟨hB0, b1, k1, f1, hz1⟩ := behind_file hB
    have hT1 := h.below hB0
    rw [hp]
    go_wp2
    have kk := World.cell?_setCell_same w1 ⟨w.heap.size, 0, none⟩ (.string ⟨#[]⟩) k1
    simp only [bodyPost, results, Try.results33]
    simp [go_sem, kk]
    exact ⟨rfl, hB0.setCell (Nat.le_refl _) _⟩
  · rw [hr]
    have hlk : Tm.look t.files p = none := Tm.look_none.2 hno
    go_enter Try.func33, Try.ntmps33
    go_wp2_with fail
    refine (Is_all p _).mono ?_
    rintro e w1 ⟨rfl, hB⟩
    obtain ⟨hB0, b1, k1, f1, hz1⟩ := behind_file hB
    have hT1 := h.below hB0
    rw [hp]
    obtain ⟨mv, J, hb, hrg, hf, rfl⟩ := hT1
    obtain ⟨c0, -, -, -⟩ := tree_cells hb
    have hl := hf.look (path_short hp)
    rw [hlk] at hl
    clear hf hlk
    go_wp2
    have kk := World.cell?_setCell_same w1 ⟨w.heap.size, 0, none⟩ (.string ⟨#[]⟩) k1
    have ka := (World.cell?_alloc_lt (w1.setCell ⟨w.heap.size, 0, none⟩ (.string ⟨#[]⟩)) (.cells #[.string .empty] 71) ⟨w.heap.size, 0, none⟩ (by simpa [World.setCell] using hz1)).trans kk
    simp only [bodyPost, results, Try.results33]
    simp [go_sem, ka]
    exact ⟨rfl, (hB0.setCell (p := ⟨w.heap.size, 0, none⟩) (Nat.le_refl _) _).alloc (by simpa [World.setCell] using Nat.le_of_lt hz1) _⟩
  · rw [hr]
    have hlk : Tm.look t.files p = some s := (Tm.look_iff hk.rise).2 hs
    go_enter Try.func33, Try.ntmps33
    go_wp2_with fail
    refine (Is_all p _).mono ?_
    rintro e w1 ⟨rfl, hB⟩
    obtain ⟨hB0, b1, k1, f1, hz1⟩ := behind_file hB
    have hT1 := h.below hB0
    rw [hp]
    obtain ⟨mv, J, hb, hrg, hf, rfl⟩ := hT1
    obtain ⟨c0, -, -, -⟩ := tree_cells hb
    have hl := hf.look (path_short hp)
    rw [hlk] at hl
    clear hf hlk
    go_wp2
    have kk := World.cell?_setCell_same w1 ⟨w.heap.size, 0, none⟩ (.string s) k1
    have ka := (World.cell?_alloc_lt (w1.setCell ⟨w.heap.size, 0, none⟩ (.string s)) (.cells #[.string s] 71) ⟨w.heap.size, 0, none⟩ (by simpa [World.setCell] using hz1)).trans kk
    simp only [bodyPost, results, Try.results33]
    simp [go_sem, ka]
    exact (hB0.setCell (p := ⟨w.heap.size, 0, none⟩) (Nat.le_refl _) _).alloc (by simpa [World.setCell] using Nat.le_of_lt hz1) _

set_option maxRecDepth 100000 in
theorem TRead_any (g : Nat) (t : Tm.T) (S : List Nat) (p : ByteArray) (w : World) (h : HasT w g t S) (hk : Tm.Ok t) :
    Calls Try.prog 15 #[.pointer (some ⟨g, 0, none⟩), .string p] w fun e w' => e = .returned (.tuple #[.string (Tm.read t p).1, .int .i64 ((Tm.read t p).2 : Int)]) ∧ Below w.heap.size w w' := by
  have HF := find_any g t S p w h hk
  generalize (Tm.read t p).1 = a at *
  generalize (Tm.read t p).2 = c at *
  go_enter Try.func15, Try.ntmps15
  go_wp2_with fail
  refine HF.mono ?_
  rintro e w1 ⟨rfl, hB⟩
  go_wp2
  go_ret2
  exact ⟨rfl, hB.alloc hB.size _⟩

set_option maxRecDepth 100000 in
theorem TLenQ (g : Nat) (t : Tm.T) (S : List Nat) (w : World) (h : HasT w g t S) (_hk : Tm.Ok t) :
    Calls Try.prog 20 #[.pointer (some ⟨g, 0, none⟩)] w fun e w' => e = .returned (.int .i64 (t.files.length : Int)) ∧ ∃ n, w' = w.drewN n := by
  obtain ⟨mv, J, hb, hr, hf, rfl⟩ := h
  obtain ⟨c0, c1, -, -⟩ := tree_cells hb
  rcases hf with ⟨rfl, h0⟩ | ⟨b, rfl, hM⟩
  · rw [h0]
    go_enter Try.func20, Try.ntmps20
    go_wp2
    go_ret
    exact ⟨rfl, 0, rfl⟩
  · have hl := hM.len Try.underlying27
    go_enter Try.func20, Try.ntmps20
    go_wp2
    go_ret
    exact ⟨rfl, 0, rfl⟩

set_option maxRecDepth 100000 in
theorem TMarkQ (g : Nat) (t : Tm.T) (S : List Nat) (w : World) (h : HasT w g t S) (_hk : Tm.Ok t) :
    Calls Try.prog 21 #[.pointer (some ⟨g, 0, none⟩)] w fun e w' => e = .returned (.int .i64 (t.chs.length : Int)) ∧ ∃ n, w' = w.drewN n := by
  obtain ⟨mv, J, hb, hr, hf, rfl⟩ := h
  obtain ⟨c0, c1, -, -⟩ := tree_cells hb
  go_enter Try.func21, Try.ntmps21
  go_wp2
  go_ret
  exact ⟨rfl, 0, rfl⟩
theorem TLen_any (g : Nat) (t : Tm.T) (S : List Nat) (w : World) (h : HasT w g t S) (hk : Tm.Ok t) :
    Calls Try.prog 20 #[.pointer (some ⟨g, 0, none⟩)] w fun e w' => e = .returned (.int .i64 (t.files.length : Int)) ∧ Below w.heap.size w w' :=
  (TLenQ g t S w h hk).mono fun e w' ⟨he, n, hw⟩ => ⟨he, by rw [hw]; exact below_drewN (Below.refl _ _) _⟩
theorem TMark_any (g : Nat) (t : Tm.T) (S : List Nat) (w : World) (h : HasT w g t S) (hk : Tm.Ok t) :
    Calls Try.prog 21 #[.pointer (some ⟨g, 0, none⟩)] w fun e w' => e = .returned (.int .i64 (t.chs.length : Int)) ∧ Below w.heap.size w w' :=
  (TMarkQ g t S w h hk).mono fun e w' ⟨he, n, hw⟩ => ⟨he, by rw [hw]; exact below_drewN (Below.refl _ _) _⟩

set_option maxRecDepth 100000 in
theorem note_any (g : Nat) (mv : Option Nat) (J chs : List ByteArray) (p : ByteArray) (w : World) (hb : w.heap[g]? = some (.cells (treeCs mv chs.length J) 32 (0, 0))) (hr : Ring J chs) (hc : chs.length ≤ 10000000) :
    Calls Try.prog 35 #[.pointer (some ⟨g, 1, none⟩), .string p] w fun e w' => e = .returned (.tuple #[]) ∧ (∃ J', w'.heap[g]? = some (.cells (treeCs mv (chs ++ [p]).length J') 32 (0, 0)) ∧ Ring J' (chs ++ [p])) ∧ Turn [g] w w' := by
  obtain ⟨c0, c1, c2, fz⟩ := tree_cells hb
  have hi : chs.length % 32 < 32 := Nat.mod_lt _ (by decide)
  have ci := c2 (chs.length % 32) (by rw [hr.1]; exact hi)
  have e1 : (chs.length : Int).tmod 32 = ((chs.length % 32 : Nat) : Int) := by rw [Int.tmod_eq_emod_of_nonneg (by omega)]; omega
  obtain ⟨i, hi2⟩ : ∃ i, chs.length % 32 = i := ⟨_, rfl⟩
  rw [hi2] at ci e1 hi
  go_enter Try.func35, Try.ntmps35
  go_wp2
  go_region
  have b1 : (w.setCell ⟨g, 2 + i, none⟩ (.string p)).drew.heap[g]? = some (.cells (treeCs mv chs.length (J.set i p)) 32 (0, 0)) := by
    have := set_row (j := 2 + i) hb (.string p)
    rw [treeCs_ring] at this
    exact this
  have hT1 : Turn [g] w (w.setCell ⟨g, 2 + i, none⟩ (.string p)).drew := ((Turn.refl [g] w).set (fun _ => by simp) _).drew
  generalize (w.setCell ⟨g, 2 + i, none⟩ (.string p)).drew = W at *
  obtain ⟨-, d1, -, fz1⟩ := tree_cells b1
  have hr1 : Ring (J.set i p) (chs ++ [p]) := by rw [← hi2]; exact hr.step p
  clear c0 c1 c2 ci e1
  have w1 : (chs.length : Int) + 1 ≤ 9223372036854775807 := by omega
  go_wp2
  go_end0
  refine ⟨rfl, ⟨J.set i p, ?_, hr1⟩, hT1.trans ((Turn.refl [g] W).set (fun _ => by simp) _) (fun x h _ => h)⟩
  have := set_row (j := 1) b1 (.int .i64 ((chs.length + 1 : Nat) : Int))
  rw [treeCs_len] at this
  rw [List.length_append, List.length_singleton]
  exact this

/-- what a call leaves; where the map was there, its block stays -/
def LeavesT2 (w w' : World) (g : Nat) (t' : Tm.T) (S : List Nat) : Prop := LeavesT w w' g t' S ∧ ∀ b, S = [g, b] → HasT w' g t' S

/-- a tree whose files turned, and one change more -/
theorem HasT.after {w w1 w2 w3 : World} {g : Nat} {t : Tm.T} {S : List Nat} {mv mv' : Option Nat} {J' : List ByteArray} {F : List Tm.Fl} {p : ByteArray} (hS : S = g :: mv.toList) (hg : g < w.heap.size)
    (hB : Below w.heap.size w w1) (hm : mv' = mv ∨ (mv = none ∧ ∃ b, mv' = some b ∧ w.heap.size ≤ b)) (hT : Turn (g :: mv'.toList) w1 w2) (hF : FilesM w2 mv' F) (hne : mv' ≠ some g)
    (hb3 : w3.heap[g]? = some (.cells (treeCs mv' (t.chs ++ [p]).length J') 32 (0, 0))) (hr : Ring J' (t.chs ++ [p])) (hT3 : Turn [g] w2 w3) : LeavesT2 w w3 g ⟨F, t.chs ++ [p]⟩ S := by
  have hlt2 : ∀ b, mv' = some b → b < w2.heap.size := fun b e => by
    rcases hF with ⟨e2, -⟩ | ⟨c, e2, hM⟩
    · rw [e] at e2; cases e2
    · rw [e] at e2; cases e2; exact hM.lt
  have hH : HasT w3 g ⟨F, t.chs ++ [p]⟩ (g :: mv'.toList) := ⟨mv', J', hb3, hr, hF.of fun b e => hT3.block b (hlt2 b e) (fun hx => hne (by rw [e]; simpa using hx)), rfl⟩
  refine ⟨⟨g :: mv'.toList, hH, fun b hb => ?_, ?_⟩, fun b e => ?_⟩
  · subst hS
    simp only [List.mem_cons, Option.mem_toList] at hb ⊢
    rcases hb with rfl | hb
    · exact .inl (.inl rfl)
    · rcases hm with rfl | ⟨-, c, rfl, hc⟩
      · exact .inl (.inr hb)
      · cases hb; exact .inr hc
  · have h1 : Turn S w w1 := (Turn.of_below hB).mono (by simp)
    refine (h1.trans hT fun x hx hl => ?_).trans hT3 fun x hx _ => ?_
    · subst hS
      simp only [List.mem_cons, Option.mem_toList] at hx ⊢
      rcases hx with rfl | hx
      · exact .inl rfl
      · rcases hm with rfl | ⟨-, c, rfl, hc⟩
        · exact .inr hx
        · cases hx; omega
    · subst hS
      simp only [List.mem_singleton] at hx
      simp [hx]
  · rcases hm with rfl | ⟨rfl, c, rfl, hc⟩
    · rw [hS]; exact hH
    · rw [hS] at e; simp at e

theorem isIn_look {l : List Tm.Fl} (hr : Tm.Rise l) (p : ByteArray) : (Tm.look l p).isSome = Tm.isIn l p := by
  cases h : Tm.isIn l p with
  | true =>
    obtain ⟨s, hs⟩ := (Tm.isIn_iff hr p).1 h
    rw [(Tm.look_iff hr).2 hs]; rfl
  | false => rw [Tm.look_none.2 (Tm.isIn_no hr h)]; rfl
theorem look_put {l : List Tm.Fl} (hr : Tm.Rise l) (p s : ByteArray) : Tm.look (Tm.put l p s) = updV (Tm.look l) p (some s) := by
  obtain ⟨f1, f2, -⟩ := Tm.put_facts hr p s
  funext q
  unfold updV
  by_cases hq : q = p
  · subst hq
    rw [if_pos rfl]
    exact (Tm.look_iff f1).2 ((f2 _).2 (.inl rfl))
  · rw [if_neg hq]
    refine Tm.look_ext f1 hr fun u => ?_
    rw [f2]
    constructor
    · rintro (e | e)
      · cases e; exact absurd rfl hq
      · exact e.1
    · exact fun e => .inr ⟨e, hq⟩
theorem look_cut {l : List Tm.Fl} (hr : Tm.Rise l) {p : ByteArray} (hi : Tm.isIn l p = true) : Tm.look (Tm.cut l p) = updV (Tm.look l) p none := by
  obtain ⟨f1, f2, -⟩ := Tm.cut_facts hr hi
  funext q
  unfold updV
  by_cases hq : q = p
  · subst hq
    rw [if_pos rfl]
    exact Tm.look_none.2 fun u hu => ((f2 _).1 hu).2 rfl
  · rw [if_neg hq]
    refine Tm.look_ext f1 hr fun u => ?_
    rw [f2]
    exact ⟨fun e => e.1, fun e => ⟨e, hq⟩⟩
theorem MapV.put {w : World} {b : Nat} {l : List Tm.Fl} (hr : Tm.Rise l) {p s : ByteArray} (h : MapV fileV w b (if (Tm.look l p).isSome then l.length else l.length + 1) (updV (Tm.look l) p (some s))) : MapV fileV w b (Tm.put l p s).length (Tm.look (Tm.put l p s)) := by
  rw [isIn_look hr] at h
  rw [look_put hr, (Tm.put_facts hr p s).2.2]
  exact h
theorem MapV.cut {w : World} {b : Nat} {l : List Tm.Fl} (hr : Tm.Rise l) {p : ByteArray} (hi : Tm.isIn l p = true) (h : MapV fileV w b (if (Tm.look l p).isSome then l.length - 1 else l.length) (updV (Tm.look l) p none)) : MapV fileV w b (Tm.cut l p).length (Tm.look (Tm.cut l p)) := by
  rw [isIn_look hr, hi, if_pos rfl] at h
  have := (Tm.cut_facts hr hi).2.2
  rw [look_cut hr hi, show (Tm.cut l p).length = l.length - 1 by omega]
  exact h
theorem not_g {w : World} {g b : Nat} {cs : Array Value} {ty : TypeId} {fr : Nat × Nat} {n : Nat} {f : ByteArray → Option ByteArray} (hb : w.heap[g]? = some (.cells cs ty fr)) (h : MapV fileV w b n f) : b ≠ g := by
  rintro rfl
  obtain ⟨es, c, h1⟩ := h.isMap
  rw [hb] at h1; cases h1

set_option maxRecDepth 100000 in
set_option maxHeartbeats 1000000 in
theorem TWrite_2 (g : Nat) (t : Tm.T) (S : List Nat) (p s : ByteArray) (w : World) (h : HasT w g t S) (hk : Tm.Ok t) :
    Calls Try.prog 18 #[.pointer (some ⟨g, 0, none⟩), .string p, .string s] w fun e w' => e = .returned (.int .i64 ((Tm.write t p s).1 : Int)) ∧ LeavesT2 w w' g (Tm.write t p s).2 S := by
  have HF := find_any g t S p w h hk
  have stays : ∀ w', Below w.heap.size w w' → LeavesT2 w w' g t S := fun w' hB => ⟨⟨S, h.below hB, fun b hb => .inl hb, (Turn.of_below hB).mono (by simp)⟩, fun _ _ => h.below hB⟩
  rcases Tm.write_cases t p s with ⟨hp, hw⟩ | ⟨hp, hs, hw⟩ | ⟨hp, hs, hi, hx, hw⟩ | ⟨hp, hs, hi, hn, hw⟩ | ⟨hp, hs, hx, hn, hw⟩
  · rw [hw]
    have hr : Tm.read t p = (.empty, 2) := by unfold Tm.read; rw [if_pos hp]
    rw [hr] at HF
    go_enter Try.func18, Try.ntmps18
    go_wp2_with fail
    refine HF.mono ?_
    rintro e w1 ⟨rfl, hB⟩
    go_wp2
    go_ret
    exact ⟨rfl, stays _ (hB.alloc hB.size _)⟩
  · rw [hw]
    have i1 : (4096 : Int) < (s.size : Int) := by omega
    rcases Tm.read_cases hk p with ⟨hp2, hr⟩ | ⟨hp2, hno, hr⟩ | ⟨hp2, u, hu, hr⟩
    · rw [hp] at hp2; cases hp2
    · rw [hr] at HF
      go_enter Try.func18, Try.ntmps18
      go_wp2_with fail
      refine HF.mono ?_
      rintro e w1 ⟨rfl, hB⟩
      go_wp2
      go_ret
      exact ⟨rfl, stays _ (hB.alloc hB.size _)⟩
    · rw [hr] at HF
      go_enter Try.func18, Try.ntmps18
      go_wp2_with fail
      refine HF.mono ?_
      rintro e w1 ⟨rfl, hB⟩
      go_wp2
      go_ret
      exact ⟨rfl, stays _ (hB.alloc hB.size _)⟩
  · rw [hw]
    have i1 : ¬ (4096 : Int) < (s.size : Int) := by omega
    have hr : Tm.read t p = (s, 0) := by
      obtain ⟨u, hu⟩ := (Tm.isIn_iff hk.rise p).1 hi
      rw [Tm.read_yes hk.rise hp hu, ← hx, Tm.text_of hk.rise hu]
    rw [hr] at HF
    go_enter Try.func18, Try.ntmps18
    go_wp2_with fail
    refine HF.mono ?_
    rintro e w1 ⟨rfl, hB⟩
    go_wp2
    go_ret
    exact ⟨rfl, stays _ (hB.alloc hB.size _)⟩
  · rw [hw]
    have i1 : ¬ (4096 : Int) < (s.size : Int) := by omega
    have hr := Tm.read_no hk.rise hp (Tm.isIn_no hk.rise hi)
    rw [hr] at HF
    go_enter Try.func18, Try.ntmps18
    go_wp2_with fail
    refine HF.mono ?_
    rintro e w1 ⟨rfl, hB⟩
    obtain ⟨mv, J, hb, hrg, hf, rfl⟩ := h.below (hB.alloc hB.size (.cells #[.string .empty] 71))
    obtain ⟨c0, -, -, -⟩ := tree_cells hb
    rcases hf with ⟨-, h0⟩ | ⟨b, rfl, hM⟩
    · rw [h0] at hn; cases hn
    have hl := hM.len Try.underlying27
    rw [hn] at hl
    go_wp2
    go_ret
    exact ⟨rfl, stays _ (hB.alloc hB.size _)⟩
  · rw [hw]
    have i1 : ¬ (4096 : Int) < (s.size : Int) := by omega
    have hps := path_short hp
    have hgl : g < w.heap.size := h.lt g (by obtain ⟨_, _, _, _, _, rfl⟩ := h; simp)
    have hcl := hk.chs
    have hfew := hk.few
    cases hi : Tm.isIn t.files p with
    | true =>
      obtain ⟨u, hu⟩ := (Tm.isIn_iff hk.rise p).1 hi
      have hus : u ≠ s := by rw [← Tm.text_of hk.rise hu]; exact hx hi
      have hus2 : (u.toList == s.toList) = false := by
        rw [beq_eq_false_iff_ne]
        intro e
        rw [ByteArray.toList_eq, ByteArray.toList_eq] at e
        exact hus (bs_inj e)
      rw [Tm.read_yes hk.rise hp hu] at HF
      go_enter Try.func18, Try.ntmps18
      go_wp2_with fail
      refine HF.mono ?_
      rintro e w1 ⟨rfl, hB⟩
      have hB1 := hB.alloc hB.size (.cells #[.string u] 71)
      obtain ⟨mv, J, hb, hrg, hf, rfl⟩ := h.below hB1
      obtain ⟨c0, -, -, -⟩ := tree_cells hb
      rcases hf with ⟨-, h0⟩ | ⟨b, rfl, hM⟩
      · rw [h0] at hu; cases hu
      have hq := fun W => run_eql_map_nil_sl (P := Try.prog) W 27 _ _ (some b) Try.underlying27
      obtain ⟨w2, hr2, hM2, ht2⟩ := hM.store Try.underlying27 (by omega) s (x := p) (by omega)
      have hr2' : (Instr.mapUpdate 27 (.map (some b)) (.string p) (.agg #[.string s])).run Try.prog (w1.alloc (.cells #[.string u] 71)) = .ok () w2 := hr2
      have hne := not_g hb hM
      have hb2 := (ht2.grown.block g (Array.getElem?_eq_some_iff.1 hb).1 (by simpa using Ne.symm hne)).trans hb
      clear hr2
      go_wp2_with fail
      refine (note_any g (some b) J t.chs p w2 hb2 hrg hcl).mono ?_
      rintro e w3 ⟨rfl, ⟨J', hb3, hr3⟩, hT3⟩
      go_wp2
      go_ret
      exact ⟨rfl, HasT.after rfl hgl hB1 (.inl rfl) ((Turn.of_grown ht2.grown).mono (by simp)) (.inr ⟨b, rfl, hM2.put hk.rise⟩) (by simpa using hne) hb3 hr3 hT3⟩
    | false =>
      have hlt : t.files.length < 256 := by have := hn hi; omega
      have hlti : ¬ (256 : Int) ≤ (t.files.length : Int) := by omega
      rw [Tm.read_no hk.rise hp (Tm.isIn_no hk.rise hi)] at HF
      go_enter Try.func18, Try.ntmps18
      go_wp2_with fail
      refine HF.mono ?_
      rintro e w1 ⟨rfl, hB⟩
      have hB1 := hB.alloc hB.size (.cells #[.string .empty] 71)
      obtain ⟨mv, J, hb, hrg, hf, rfl⟩ := h.below hB1
      obtain ⟨c0, -, -, fz⟩ := tree_cells hb
      rcases hf with ⟨rfl, h0⟩ | ⟨b, rfl, hM⟩
      · have hq := fun W => run_eql_map_nil_sl (P := Try.prog) W 27 _ _ none Try.underlying27
        have hmm := @run_makeMap Try.prog
        generalize hW1 : w1.alloc (.cells #[.string .empty] 71) = W1 at *
        have hgW : g < W1.heap.size := (Array.getElem?_eq_some_iff.1 hb).1
        have hb2 : ((W1.setCell ⟨g, 0, none⟩ (.map (some W1.heap.size))).alloc (.map #[] 0)).heap[g]? = some (.cells (treeCs (some W1.heap.size) t.chs.length J) 32 (0, 0)) := by
          have := set_row (j := 0) hb (.map (some W1.heap.size))
          rw [treeCs_map] at this
          exact (Below.heap_alloc _ (.map #[] 0) g (by simpa [World.setCell] using hgW)).trans this
        have hsz : (W1.setCell ⟨g, 0, none⟩ (.map (some W1.heap.size))).heap.size = W1.heap.size := by simp [World.setCell]
        have hM : MapV fileV ((W1.setCell ⟨g, 0, none⟩ (.map (some W1.heap.size))).alloc (.map #[] 0)) W1.heap.size t.files.length (Tm.look t.files) := by
          rw [h0]
          have := MapV.made fileV (W1.setCell ⟨g, 0, none⟩ (.map (some W1.heap.size)))
          rwa [hsz] at this
        have hT2 : Turn [g] W1 ((W1.setCell ⟨g, 0, none⟩ (.map (some W1.heap.size))).alloc (.map #[] 0)) := ((Turn.refl [g] W1).set (fun _ => by simp) _).alloc _
        obtain ⟨w2, hr2, hM2, ht2⟩ := hM.store Try.underlying27 (by omega) s (x := p) (by omega)
        have hr2' : (Instr.mapUpdate 27 (.map (some W1.heap.size)) (.string p) (.agg #[.string s])).run Try.prog ((W1.setCell ⟨g, 0, none⟩ (.map (some W1.heap.size))).alloc (.map #[] 0)) = .ok () w2 := hr2
        have hne : W1.heap.size ≠ g := by omega
        have hb3 := (ht2.grown.block g (Array.getElem?_eq_some_iff.1 hb2).1 (by simpa using Ne.symm hne)).trans hb2
        clear hr2
        rw [h0] at hlti
        go_wp2_with fail
        refine (note_any g (some W1.heap.size) J t.chs p w2 hb3 hrg hcl).mono ?_
        rintro e w3 ⟨rfl, ⟨J', hb4, hr4⟩, hT4⟩
        go_wp2
        go_ret
        exact ⟨rfl, HasT.after rfl hgl hB1 (.inr ⟨rfl, _, rfl, hB1.size⟩) ((hT2.mono (by simp)).trans ((Turn.of_grown ht2.grown).mono (S' := [g, W1.heap.size]) (by simp)) (fun x hx _ => by simpa using hx)) (.inr ⟨_, rfl, hM2.put hk.rise⟩) (by simpa using hne) hb4 hr4 hT4⟩
      have hl := hM.len Try.underlying27
      have hq := fun W => run_eql_map_nil_sl (P := Try.prog) W 27 _ _ (some b) Try.underlying27
      obtain ⟨w2, hr2, hM2, ht2⟩ := hM.store Try.underlying27 (by omega) s (x := p) (by omega)
      have hr2' : (Instr.mapUpdate 27 (.map (some b)) (.string p) (.agg #[.string s])).run Try.prog (w1.alloc (.cells #[.string .empty] 71)) = .ok () w2 := hr2
      have hne := not_g hb hM
      have hb2 := (ht2.grown.block g (Array.getElem?_eq_some_iff.1 hb).1 (by simpa using Ne.symm hne)).trans hb
      clear hr2
      go_wp2_with fail
      refine (note_any g (some b) J t.chs p w2 hb2 hrg hcl).mono ?_
      rintro e w3 ⟨rfl, ⟨J', hb3, hr3⟩, hT3⟩
      go_wp2
      go_ret
      exact ⟨rfl, HasT.after rfl hgl hB1 (.inl rfl) ((Turn.of_grown ht2.grown).mono (by simp)) (.inr ⟨b, rfl, hM2.put hk.rise⟩) (by simpa using hne) hb3 hr3 hT3⟩

set_option maxRecDepth 100000 in
set_option maxHeartbeats 1000000 in
theorem TRemove_2 (g : Nat) (t : Tm.T) (S : List Nat) (p : ByteArray) (w : World) (h : HasT w g t S) (hk : Tm.Ok t) :
    Calls Try.prog 19 #[.pointer (some ⟨g, 0, none⟩), .string p] w fun e w' => e = .returned (.int .i64 ((Tm.remove t p).1 : Int)) ∧ LeavesT2 w w' g (Tm.remove t p).2 S := by
  have HF := find_any g t S p w h hk
  have stays : ∀ w', Below w.heap.size w w' → LeavesT2 w w' g t S := fun w' hB => ⟨⟨S, h.below hB, fun b hb => .inl hb, (Turn.of_below hB).mono (by simp)⟩, fun _ _ => h.below hB⟩
  have hcl := hk.chs
  have hfew := hk.few
  rcases Tm.read_cases hk p with ⟨hp, hr⟩ | ⟨hp, hno, hr⟩ | ⟨hp, u, hu, hr⟩
  · rw [Tm.remove_bad hp]
    rw [hr] at HF
    go_enter Try.func19, Try.ntmps19
    go_wp2_with fail
    refine HF.mono ?_
    rintro e w1 ⟨rfl, hB⟩
    go_wp2
    go_ret
    exact ⟨rfl, stays _ (hB.alloc hB.size _)⟩
  · rw [Tm.remove_no hk hp hno]
    rw [hr] at HF
    go_enter Try.func19, Try.ntmps19
    go_wp2_with fail
    refine HF.mono ?_
    rintro e w1 ⟨rfl, hB⟩
    go_wp2
    go_ret
    exact ⟨rfl, stays _ (hB.alloc hB.size _)⟩
  · have hi : Tm.isIn t.files p = true := (Tm.isIn_iff hk.rise p).2 ⟨u, hu⟩
    have hps := path_short hp
    have hgl : g < w.heap.size := h.lt g (by obtain ⟨_, _, _, _, _, rfl⟩ := h; simp)
    rw [show Tm.remove t p = (0, ⟨Tm.cut t.files p, t.chs ++ [p]⟩) by unfold Tm.remove; rw [hr, if_pos rfl]]
    rw [hr] at HF
    go_enter Try.func19, Try.ntmps19
    go_wp2_with fail
    refine HF.mono ?_
    rintro e w1 ⟨rfl, hB⟩
    have hB1 := hB.alloc hB.size (.cells #[.string u] 71)
    obtain ⟨mv, J, hb, hrg, hf, rfl⟩ := h.below hB1
    obtain ⟨c0, -, -, -⟩ := tree_cells hb
    rcases hf with ⟨-, h0⟩ | ⟨b, rfl, hM⟩
    · rw [h0] at hu; cases hu
    obtain ⟨w2, hr2, hM2, ht2⟩ := hM.drop Try.underlying27 (x := p) (by omega) 0
    have hne := not_g hb hM
    have hb2 := (ht2.grown.block g (Array.getElem?_eq_some_iff.1 hb).1 (by simpa using Ne.symm hne)).trans hb
    go_wp2_with fail
    refine (note_any g (some b) J t.chs p w2 hb2 hrg hcl).mono ?_
    rintro e w3 ⟨rfl, ⟨J', hb3, hr3⟩, hT3⟩
    go_wp2
    go_ret
    exact ⟨rfl, HasT.after rfl hgl hB1 (.inl rfl) ((Turn.of_grown ht2.grown).mono (by simp)) (.inr ⟨b, rfl, hM2.cut hk.rise hi⟩) (by simpa using hne) hb3 hr3 hT3⟩

theorem TWrite_any (g : Nat) (t : Tm.T) (S : List Nat) (p s : ByteArray) (w : World) (h : HasT w g t S) (hk : Tm.Ok t) :
    Calls Try.prog 18 #[.pointer (some ⟨g, 0, none⟩), .string p, .string s] w fun e w' => e = .returned (.int .i64 ((Tm.write t p s).1 : Int)) ∧ LeavesT w w' g (Tm.write t p s).2 S :=
  (TWrite_2 g t S p s w h hk).mono fun _ _ h => ⟨h.1, h.2.1⟩
theorem TRemove_any (g : Nat) (t : Tm.T) (S : List Nat) (p : ByteArray) (w : World) (h : HasT w g t S) (hk : Tm.Ok t) :
    Calls Try.prog 19 #[.pointer (some ⟨g, 0, none⟩), .string p] w fun e w' => e = .returned (.int .i64 ((Tm.remove t p).1 : Int)) ∧ LeavesT w w' g (Tm.remove t p).2 S :=
  (TRemove_2 g t S p w h hk).mono fun _ _ h => ⟨h.1, h.2.1⟩
theorem HasT.map {w : World} {g : Nat} {t : Tm.T} {S : List Nat} (h : HasT w g t S) (hne : t.files ≠ []) : ∃ b, S = [g, b] := by
  obtain ⟨mv, J, -, -, hf, rfl⟩ := h
  rcases hf with ⟨-, h0⟩ | ⟨b, rfl, -⟩
  · exact absurd h0 hne
  · exact ⟨b, rfl⟩

end Go.Proofs.Ytifolddmcibkdaa
