/-
  RulesBack ANSWERS true.
-/
import Derived.Test.YthpipbkbldlfjaaRC
namespace Go.Proofs.Ythpipbkbldlfjaa
open Go.RowKit

theorem Rl.bulk_bi : ∀ {A C : List Rl.It}, A.map Rl.bi = C.map Rl.bi → Rl.bulk A = Rl.bulk C
  | [], [], _ => rfl
  | [], _ :: _, h => by simp at h
  | _ :: _, [], h => by simp at h
  | x :: A, y :: C, h => by
    simp only [List.map_cons, List.cons.injEq] at h
    rw [Rl.bulk_cons, Rl.bulk_cons, Rl.bulk_bi h.2]
    have hv : ∀ {a b : List Lx.V}, a.map Rl.bw = b.map Rl.bw → Rl.vs a = Rl.vs b := by
      intro a b e
      have := congrArg (fun l => (l.map fun p : List UInt8 × Bool × Bool => p.1.length + 1).sum) e
      simp only [List.map_map] at this
      exact this
    have hl : ∀ {a b : List Lx.L}, (a.map fun l => l.words.map Rl.bw) = (b.map fun l => l.words.map Rl.bw) → Rl.ls a = Rl.ls b := by
      intro a
      induction a with
      | nil => intro b e; cases b with | nil => rfl | cons _ _ => simp at e
      | cons m a ih =>
        intro b e
        cases b with
        | nil => simp at e
        | cons n b =>
          simp only [List.map_cons, List.cons.injEq] at e
          rw [Rl.ls_cons, Rl.ls_cons, hv e.1, ih e.2]
    have hb := h.1
    simp only [Rl.bi, Prod.mk.injEq] at hb
    obtain ⟨-, h2, h3, h4, h5⟩ := hb
    unfold Rl.one_
    rw [h2, hv h3, hv h4, hl h5]

set_option maxRecDepth 100000 in
set_option maxHeartbeats 2000000 in
theorem back_walk (hwk : WorksC) (hps : ParseC) (s : ByteArray) (w : World) (hs : s.size ≤ 140737488351232) : Calls Try.prog 7 #[.string s] w fun e w' => e = .returned (.bool true) ∧ Below w.heap.size w w' := by
  have h0 := hwk w
  have hp := fun W : World => hps s W hs
  have hz : Value.agg #[.int .i64 0, .string .empty, .int .i64 0, .int .i64 0] = .agg (whA 0 0 0) := rfl
  go_enter Try.func7, Try.ntmps7
  go_wp2_with fail
  refine h0.mono ?_
  rintro e w1 ⟨rfl, hB1⟩
  clear h0
  go_wp2_with fail
  refine (hp w1).mono ?_
  rintro e w2 ⟨hE, hB2⟩
  have hB12 := hB1.trans (hB2.mono hB1.size)
  clear hp
  cases hA : Rl.answer (bs s) with
  | bad x =>
    rw [hA] at hE
    obtain ⟨ad, c', rfl⟩ := hE
    have hx := Rl.answer_bad hA
    clear hA hs
    obtain ⟨er, l, c⟩ := x
    simp only at hx
    have hne := fun W : World => neq_where W er l c 0 0 0
    rw [decide_eq_false (fun h => hx h.1)] at hne
    have hgd := fun (W : World) (a b : Operand) => guard_where W .neq a b
    have e1 : (er != 0) = true := by rw [bne_iff_ne]; exact hx
    unfold whA at hne
    unfold whV
    simp only
    go_wp2
    go_ret
    exact ⟨rfl, hB12.alloc hB12.size _⟩
  | ok A =>
    rw [hA] at hE
    obtain ⟨ad, c', rfl, hI⟩ := hE
    have hmy := Rl.answer_may hA
    have hsm := Rl.small (Rl.answer_bulk hA)
    have HBK : Hid _ := Rl.answer_bulk hA
    clear hA hs
    have hne := fun W : World => neq_where W 0 0 0 0 0 0
    rw [decide_eq_true ⟨rfl, rfl, rfl⟩] at hne
    have hgd := fun (W : World) (a b : Operand) => guard_where W .neq a b
    have hgd2 := fun (W : World) (a b : Operand) => guard_where W .eql a b
    have heq := fun W : World => eql_where W 0 0 0 0 0 0
    rw [decide_eq_true ⟨rfl, rfl, rfl⟩] at heq
    unfold whA at hne heq
    unfold whV
    have hI3 := fun (W : World) (h : Below w2.heap.size w2 W) => hI.below h (Nat.le_refl _)
    have hpr := fun (W : World) (h : Below w2.heap.size w2 W) => PrintL_any _ A W w2.heap.size (hI3 W h) h.size hsm
    have hma := fun (W : World) (h : Below w2.heap.size w2 W) => MayL_any _ A W w2.heap.size (hI3 W h) h.size hsm
    unfold prV at hpr
    rw [if_pos hmy] at hpr
    rw [hmy] at hma
    have hp2 := fun W : World => hps (str (Rl.print A)) W (by rw [str_size]; have := hsm.print; omega)
    rw [bs_str] at hp2
    have HSZ : Hid _ := str_size (Rl.print A)
    have HPL : Hid _ := hsm.print
    have hb3 := below_box w2
    go_wp2_with fail
    refine (hpr _ (hb3 _)).mono ?_
    rintro e w4 ⟨rfl, hB4⟩
    have hB24 := (hb3 (.cells #[.int .i64 0, .string .empty, .int .i64 0, .int .i64 0] 26)).trans (hB4.mono (hb3 _).size)
    clear hpr
    go_wp2_with fail
    refine (hma w4 hB24).mono ?_
    rintro e w5 ⟨rfl, hB5⟩
    have hB25 := hB24.trans (hB5.mono hB24.size)
    clear hma
    go_wp2_with fail
    refine (hp2 w5).mono ?_
    rintro e w6 ⟨hE2, hB6⟩
    have hB26 := hB25.trans (hB6.mono hB25.size)
    have hB16 : Below w.heap.size w w6 := hB12.trans (hB26.mono hB12.size)
    clear hp2
    by_cases hlen : (Rl.print A).length ≤ 32768
    · obtain ⟨C, hC, hbi⟩ := Rl.answer_print hmy hlen
      rw [hC] at hE2
      obtain ⟨ad2, c2, rfl, hJ⟩ := hE2
      have hmc := Rl.answer_may hC
      have hsc := Rl.small (Rl.answer_bulk hC)
      have hprc : Rl.print C = Rl.print A := ((Rl.one hmy hmc).2 hbi).symm
      have i1 : ¬ ((str (Rl.print A)).size : Int) > 32768 := by rw [str_size]; omega
      have hpc := fun (W : World) (h : Below w6.heap.size w6 W) => PrintL_any _ C W w6.heap.size (hJ.below h (Nat.le_refl _)) h.size hsc
      unfold prV at hpc
      rw [if_pos hmc, hprc] at hpc
      have hsa := fun (W : World) (h : Below w6.heap.size w6 W) => SameL_any _ _ A C W w6.heap.size ((hI3 W (hB26.trans (h.mono hB26.size))).mono hB26.size) (hJ.below h (Nat.le_refl _)) h.size hsm hsc
      rw [decide_eq_true hbi] at hsa
      have hb6 := below_box w6
      generalize str (Rl.print A) = T at *
      clear hC hbi hprc hmc hsc hmy hsm hlen hJ hI hI3 HBK HSZ HPL
      unfold whV
      go_wp2_with fail
      refine (hpc _ (hb6 _)).mono ?_
      rintro e w8 ⟨rfl, hB8⟩
      have hB68 := (hb6 (.cells #[.int .i64 0, .string .empty, .int .i64 0, .int .i64 0] 26)).trans (hB8.mono (hb6 _).size)
      have k8 : w8.heap[w6.heap.size]? = some (.cells #[.int .i64 0, .string .empty, .int .i64 0, .int .i64 0] 26 (0, 0)) := (hB8.block _ (by show _ < (w6.heap.push _).size; rw [Array.size_push]; omega)).trans (heap_alloc_new w6 _)
      have q0 : w8.cell? ⟨w6.heap.size, 0, none⟩ = some (.int .i64 0) := by simp [World.cell?, k8]
      have q1 : w8.cell? ⟨w6.heap.size, 1, none⟩ = some (.string .empty) := by simp [World.cell?, k8]
      have q2 : w8.cell? ⟨w6.heap.size, 2, none⟩ = some (.int .i64 0) := by simp [World.cell?, k8]
      have q3 : w8.cell? ⟨w6.heap.size, 3, none⟩ = some (.int .i64 0) := by simp [World.cell?, k8]
      clear hpc k8
      go_wp2_with fail
      refine (hsa w8 hB68).mono ?_
      rintro e w9 ⟨rfl, hB9⟩
      clear hsa
      go_wp2
      go_ret
      exact ⟨rfl, (hB16.trans (hB68.mono hB16.size)).trans (hB9.mono (Nat.le_trans hB16.size hB68.size))⟩
    · rw [Rl.answer_long (by omega)] at hE2
      obtain ⟨ad2, c2, rfl⟩ := hE2
      have i1 : ((str (Rl.print A)).size : Int) > 32768 := by rw [str_size]; omega
      generalize str (Rl.print A) = T at *
      unfold whV
      simp only
      clear hlen hsm hmy hI hI3 HBK HPL HSZ
      go_wp2
      go_ret
      exact ⟨rfl, hB16.alloc hB16.size _⟩

end Go.Proofs.Ythpipbkbldlfjaa
