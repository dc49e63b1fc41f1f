/-
  RulesTwo ANSWERS true.
-/
import Derived.Test.YthpipbkbldlfjaaLrWorks
import Derived.Test.YthpipbkbldlfjaaRC
import Derived.Test.YthpipbkbldlfjaaRlTwo
import Derived.Test.YthpipbkbldlfjaaZLines
import Derived.Test.YthpipbkbldlfjaaZPlace
import Derived.Test.YthpipbkbldlfjaaXSize
import Derived.BigQuiet
namespace Go.Proofs.Ythpipbkbldlfjaa
open Go.RowKit

/-- a place's block -/
def WhT (w : World) (g : Nat) (er l c : Int) : Prop := w.heap[g]? = some (.cells #[.int .i64 er, .string .empty, .int .i64 l, .int .i64 c] 26 (0, 0))
theorem WhT.cells {w : World} {g : Nat} {er l c : Int} (h : WhT w g er l c) : w.cell? ⟨g, 0, none⟩ = some (.int .i64 er) ∧ w.cell? ⟨g, 1, none⟩ = some (.string .empty) ∧ w.cell? ⟨g, 2, none⟩ = some (.int .i64 l) ∧ w.cell? ⟨g, 3, none⟩ = some (.int .i64 c) := by
  unfold WhT at h
  exact ⟨by simp [World.cell?, h], by simp [World.cell?, h], by simp [World.cell?, h], by simp [World.cell?, h]⟩
theorem WhT.lt {w : World} {g : Nat} {er l c : Int} (h : WhT w g er l c) : g < w.heap.size := (Array.getElem?_eq_some_iff.1 h).1
theorem WhT.below {w w' : World} {g : Nat} {er l c : Int} (h : WhT w g er l c) (hb : Below w.heap.size w w') : WhT w' g er l c := (hb.block g h.lt).trans h
theorem WhT.new (w : World) (er l c : Int) : WhT (w.alloc (.cells #[.int .i64 er, .string .empty, .int .i64 l, .int .i64 c] 26)) w.heap.size er l c := heap_alloc_new w _
/-- a bad answer's line is none of the last -/
theorem ItsS.head {w : World} {B : Nat} {ad : Option Addr} {n c : Nat} {A : List Rl.It} (h : ItsS w B (.slice ad n c) A) (m : Nat) (hm : m ≤ A.length) : ItsS w B (.slice ad m c) (A.take m) := by
  obtain ⟨ps, h1, rfl, h3⟩ := h
  rw [List.length_map] at hm
  refine ⟨ps.take m, ?_, by rw [List.map_take], fun p hp => h3 p (List.mem_of_mem_take hp)⟩
  rw [List.map_take]
  exact h1.head m (by rw [List.length_map]; exact hm)
theorem ItsS.tail {w : World} {B : Nat} {ad : Option Addr} {n c : Nat} {A : List Rl.It} (h : ItsS w B (.slice ad n c) A) (m : Nat) (hm : m ≤ A.length) :
    ∃ a, (∀ W : World, (Instr.slice 23 (.slice ad n c) (some (.int .i64 (m : Int))) none none).run Try.prog W = .ok (.slice a (n - m) (c - m)) W) ∧ ItsS w B (.slice a (n - m) (c - m)) (A.drop m) := by
  obtain ⟨ps, h1, rfl, h3⟩ := h
  rw [List.length_map] at hm
  obtain ⟨a, h4, h5⟩ := Rc.slice_tail h1 m (by rw [List.length_map]; exact hm)
  refine ⟨a, h4, ps.drop m, ?_, by rw [List.map_drop], fun p hp => h3 p (List.mem_of_mem_drop hp)⟩
  rw [List.map_drop]
  exact h5
theorem Rl.bad_line {t : List UInt8} (hl : t.length ≤ 32768) {ls : List (Lx.Ln Nat)} (h : Lx.lex t = .ok ls) {x : Int × Int × Int} (hx : Rl.answer t = .bad x) : 0 ≤ x.2.1 ∧ x.2.1 ≤ 32769 := by
  rw [Rl.answer_lex hl h] at hx
  obtain ⟨a, h1, h2, -, -⟩ := Rl.parse_bad (Lx.lex_stands h) hx
  rw [h2]
  have : (Lx.place t a).1 ≤ a + 1 := by
    unfold Lx.place
    have h3 := List.count_le_length (a := (10 : UInt8)) (l := t.take a)
    rw [List.length_take] at h3
    show (t.take a).count 10 + 1 ≤ a + 1
    omega
  omega
theorem Rl.its_line {t : List UInt8} : ∀ {A : List Rl.It} {p q : Nat}, Rl.Its t p A q → ∀ x ∈ A, 0 ≤ x.line ∧ x.line ≤ (t.length : Int) + 1
  | [], _, _, _, _, h => by cases h
  | y :: A, p, q, ⟨m, ⟨a, T, U, c, k, h1⟩, h2⟩, x, hx => by
    rcases List.mem_cons.1 hx with rfl | hx
    · rw [h1.line]
      have : (Lx.place t a).1 ≤ a + 1 := by
        unfold Lx.place
        have h3 := List.count_le_length (a := (10 : UInt8)) (l := t.take a)
        rw [List.length_take] at h3
        show (t.take a).count 10 + 1 ≤ a + 1
        omega
      have := h1.lt
      omega
    · exact Rl.its_line h2 x hx
theorem Rl.ok_line {t : List UInt8} (hl : t.length ≤ 32768) {A : List Rl.It} (hx : Rl.answer t = .ok A) : ∀ x ∈ A, 0 ≤ x.line ∧ x.line ≤ 32769 := by
  obtain ⟨-, ls, h1, h2⟩ := Rl.answer_ok hx
  obtain ⟨q, hq⟩ := Rl.parse_stands (Lx.lex_stands h1) (Nat.zero_le _) h2
  intro x hx
  have := Rl.its_line hq x hx
  omega
theorem stood_spot : Try.prog.stoodInHeld 42 = false := by kernel_rfl
theorem guardT_spot : Try.prog.eqGuardType Try.prog.depth 42 = false := by kernel_rfl
theorem neq_spot (W : World) (x y x' y' : Int) : (binOp .neq 42 (.agg #[.int .i64 x, .int .i64 y]) (.agg #[.int .i64 x', .int .i64 y'])).run Try.prog W = .ok (.bool (!decide (x = x' ∧ y = y'))) W := by
  rw [run_neq_struct, show (10000 : Nat) = 9999 + 1 from rfl, run_equalIn_agg W 9999 42 _ _ (by simp [Program.fieldsOf, Try.underlying42]) stood_spot]
  simp [Program.fieldsOf, Try.underlying42, go_sem]
  by_cases h1 : x = x' <;> by_cases h2 : y = y' <;> simp [h1, h2]
theorem guard_spot (W : World) (op : BinOp) (x y : Operand) (xs ys : Array Value) : (eqGuard op 42 x y (.agg xs) (.agg ys)).run Try.prog W = .ok () W := run_eqGuard_agg W op 42 x y xs ys guardT_spot
theorem bs_two (a b : ByteArray) : bs (a ++ (⟨#[10]⟩ : ByteArray) ++ b) = bs a ++ 10 :: bs b := by simp [bs, ByteArray.data_append]
theorem size_two (a b : ByteArray) : (a ++ (⟨#[10]⟩ : ByteArray) ++ b).size = a.size + 1 + b.size := by
  rw [ByteArray.size_append, ByteArray.size_append]
  rfl
theorem last_not (s : ByteArray) (h : ¬ ∃ q, ∃ hq : q < s.size, s.size = q + 1 ∧ s[q] = 92) : (bs s).getLast? ≠ some 92 := by
  intro e
  apply h
  have hl := bs_length s
  rw [List.getLast?_eq_getElem?] at e
  obtain ⟨h1, h2⟩ := List.getElem?_eq_some_iff.1 e
  refine ⟨(bs s).length - 1, by omega, by omega, h2⟩
/-- what Parse answered, in one shape -/
def Res (w : World) (v : Value) (n : Nat) (er l c : Int) : Lx.R (Int × Int × Int) (List Rl.It) → Prop
  | .bad x => x = (er, l, c) ∧ n = 0
  | .ok A => n = A.length ∧ er = 0 ∧ l = 0 ∧ c = 0 ∧ ItsS w w.heap.size v A
theorem ps_res {e : Ending} {w' : World} {r : Lx.R (Int × Int × Int) (List Rl.It)} (h : PsEnd e w' r) : ∃ ad n c' er l c, e = .returned (.tuple #[.slice ad n c', .agg #[.int .i64 er, .string .empty, .int .i64 l, .int .i64 c]]) ∧ Res w' (.slice ad n c') n er l c r := by
  cases r with
  | bad x =>
    obtain ⟨ad, c', he⟩ := h
    exact ⟨ad, 0, c', x.1, x.2.1, x.2.2, he, rfl, rfl⟩
  | ok A =>
    obtain ⟨ad, c', he, hI⟩ := h
    exact ⟨ad, A.length, c', 0, 0, 0, he, rfl, rfl, rfl, rfl, hI⟩
theorem Res.below {w w' : World} {v : Value} {n : Nat} {er l c : Int} {r : Lx.R (Int × Int × Int) (List Rl.It)} (h : Res w v n er l c r) (hb : Below w.heap.size w w') : Res w' v n er l c r := by
  cases r with
  | bad x => exact h
  | ok A => exact ⟨h.1, h.2.1, h.2.2.1, h.2.2.2.1, (h.2.2.2.2.below hb (Nat.le_refl _)).mono hb.size⟩

set_option maxRecDepth 100000 in
set_option maxHeartbeats 4000000 in
theorem two_walk (hps : ParseC) (sa sb : ByteArray) (w : World) (hra : sa.size ≤ 140737488351232) (hrb : sb.size ≤ 140737488351232) : Calls Try.prog 9 #[.string sa, .string sb] w fun e w' => e = .returned (.bool true) ∧ Below w.heap.size w w' := by
  have h0 := works12 hps w
  have hpa := fun W : World => hps sa W hra
  have hpb := fun W : World => hps sb W hrb
  go_enter Try.func9, Try.ntmps9
  go_wp2_with fail
  refine h0.mono ?_
  rintro e w1 ⟨rfl, hB1⟩
  clear h0
  rcases Nat.lt_or_ge (sa.size + sb.size) 32768 with hsm | hbig
  rotate_left
  · have i0 : (32768 : Int) ≤ (sa.size : Int) + (sb.size : Int) := by omega
    clear hpa hpb
    go_wp2
    go_ret
    exact ⟨rfl, hB1⟩
  obtain ⟨n, hn⟩ : ∃ n : Nat, (sa.size : Int) + (sb.size : Int) = (n : Int) := ⟨sa.size + sb.size, by omega⟩
  have i0 : (n : Int) ≤ 32767 := by omega
  have i8 : decide ((32768 : Int) ≤ (n : Int)) = false := decide_eq_false (by omega)
  have i6 : (sa.size : Int) ≤ 32768 := by omega
  have HSM : Hid _ := hsm
  have HPA : Hid _ := hpa
  have HPB : Hid _ := hpb
  clear hsm hra hrb hpa hpb
  by_cases hl92 : ∃ q, ∃ hq : q < sa.size, sa.size = q + 1 ∧ sa[q] = 92
  · obtain ⟨q, hq, e, hx⟩ := hl92
    have i1 : (0 : Int) < (sa.size : Int) := by omega
    have i2 : (sa.size : Int) - 1 = (q : Int) := by omega
    have i3 : (q : Int) < (sa.size : Int) := by omega
    have i5 : (q : Int) ≤ 32768 := by omega
    have HE : Hid _ := e
    clear e
    have e92 : ((sa[q].toNat : Int) == 92) = true := byte_eq hx
    clear hx
    go_wp2
    go_ret
    exact ⟨rfl, hB1⟩
  have HLA : Hid _ := last_not sa hl92
  have HPT : Hid (∀ W : World, Calls Try.prog 13 #[.string (sa ++ (⟨#[10]⟩ : ByteArray) ++ sb)] W fun e w' => PsEnd e w' (Rl.answer (bs sa ++ 10 :: bs sb)) ∧ Below W.heap.size W w') := fun W => by
    have := hps (sa ++ (⟨#[10]⟩ : ByteArray) ++ sb) W (by rw [size_two]; have := HSM.out; omega)
    rwa [bs_two] at this
  have j1 : ¬ 9223372036854775807 < sa.size + 1 := by omega
  have j2 : ¬ 9223372036854775807 < sa.size + 1 + sb.size := by omega
  have J1 : Hid _ := j1
  have J2 : Hid _ := j2
  clear j1 j2
  go_upto_region 3 with fail
  go_cut [40] (fun v W => v = .bool false ∧ W = w1)
  case first =>
    by_cases h0 : sa.size = 0
    · have i1 : ¬ (0 : Int) < (sa.size : Int) := by omega
      clear h0
      go_wp2
      go_meet
      case rel => exact ⟨rfl, rfl⟩
    · obtain ⟨q, hq⟩ : ∃ q, sa.size = q + 1 := ⟨sa.size - 1, by omega⟩
      have i1 : (0 : Int) < (sa.size : Int) := by omega
      have i2 : (sa.size : Int) - 1 = (q : Int) := by omega
      have i3 : (q : Int) < (sa.size : Int) := by omega
      have i5 : (q : Int) ≤ 32768 := by omega
      have hql : q < sa.size := by omega
      have e92 : ((sa[q].toNat : Int) == 92) = false := byte_ne fun e => hl92 ⟨q, hql, hq, e⟩
      clear h0 hl92 hq
      go_wp2
      go_meet
      case rel => exact ⟨rfl, rfl⟩
  case rest =>
  obtain ⟨rfl, rfl⟩ := hcut
  clear hl92 i0 i8 hn
  go_wp2_with fail
  refine (HPA.out wc).mono ?_
  rintro e w2 ⟨hE, hB2⟩
  obtain ⟨ad2, n2, c2, er2, l2, k2, rfl, hR2⟩ := ps_res hE
  have hC2 := hB1.trans (hB2.mono hB1.size)
  have hD2 := hC2.alloc hC2.size (.cells #[.int .i64 er2, .string .empty, .int .i64 l2, .int .i64 k2] 26)
  have hW2 := WhT.new w2 er2 l2 k2
  have hR2' := hR2.below (below_box w2 (.cells #[.int .i64 er2, .string .empty, .int .i64 l2, .int .i64 k2] 26))
  clear hE hR2 hB1 hB2 hC2
  go_wp2_with fail
  generalize w2.alloc (.cells #[.int .i64 er2, .string .empty, .int .i64 l2, .int .i64 k2] 26) = W2 at *
  generalize w2.heap.size = g2 at *
  refine (HPB.out W2).mono ?_
  rintro e w3 ⟨hE, hB3⟩
  obtain ⟨ad3, n3, c3, er3, l3, k3, rfl, hR3⟩ := ps_res hE
  have hC3 := hD2.trans (hB3.mono hD2.size)
  have HG3 : Hid (w.heap.size ≤ w3.heap.size) := hC3.size
  have hD3 := hC3.alloc hC3.size (.cells #[.int .i64 er3, .string .empty, .int .i64 l3, .int .i64 k3] 26)
  have bb3 := below_box w3 (.cells #[.int .i64 er3, .string .empty, .int .i64 l3, .int .i64 k3] 26)
  have hW2' := (hW2.below hB3).below bb3
  have hR2 := (hR2'.below hB3).below bb3
  have hW3 := WhT.new w3 er3 l3 k3
  have hR3' := hR3.below bb3
  clear hE hR2' hR3 hB3 hC3 hD2 hW2 bb3
  have j1 := J1.out
  have j2 := J2.out
  go_wp2_with fail
  clear j1 j2
  generalize w3.alloc (.cells #[.int .i64 er3, .string .empty, .int .i64 l3, .int .i64 k3] 26) = W3 at *
  generalize w3.heap.size = g3 at *
  refine (HPT.out W3).mono ?_
  rintro e w4 ⟨hE, hB4⟩
  obtain ⟨ad4, n4, c4, er4, l4, k4, rfl, hR4⟩ := ps_res hE
  have hg34 : g3 < w4.heap.size := Nat.lt_of_lt_of_le hW3.lt hB4.size
  have HG34 : Hid (g3 < w4.heap.size) := hg34
  clear hg34
  have hC4 := hD3.trans (hB4.mono hD3.size)
  have hD4 := hC4.alloc hC4.size (.cells #[.int .i64 er4, .string .empty, .int .i64 l4, .int .i64 k4] 26)
  have bb4 := below_box w4 (.cells #[.int .i64 er4, .string .empty, .int .i64 l4, .int .i64 k4] 26)
  have hW2 := (hW2'.below hB4).below bb4
  have hW3' := (hW3.below hB4).below bb4
  have hR2' := (hR2.below hB4).below bb4
  have hR3 := (hR3'.below hB4).below bb4
  have hW4 := WhT.new w4 er4 l4 k4
  have hR4' := hR4.below bb4
  clear hE hR2 hR3' hR4 hB4 hC4 hD3 hW2' hW3 bb4
  go_wp2_with fail
  generalize w4.alloc (.cells #[.int .i64 er4, .string .empty, .int .i64 l4, .int .i64 k4] 26) = W4 at *
  generalize w4.heap.size = g4 at *
  have HR2 : Hid _ := hR2'
  have HR3 : Hid _ := hR3
  have HR4 : Hid _ := hR4'
  have HW2 : Hid _ := hW2
  have HW3 : Hid _ := hW3'
  have HW4 : Hid _ := hW4
  obtain ⟨dn, hdn⟩ : ∃ dn : Nat, (bs sa).count 10 + 1 = dn := ⟨_, rfl⟩
  have HDN : Hid _ := hdn
  clear hdn hR2' hR3 hR4' hW2 hW3' hW4
  go_loopw [11, 12] (fun li i wr => ∃ k : Nat, k ≤ sa.size ∧ i = .int .i64 (k : Int) ∧ li = .int .i64 ((((bs sa).take k).count 10 : Nat) + 1 : Int) ∧ wr = W4) (fun _ i _ => sa.size - (intOf i).toNat)
  case atStart => exact ⟨0, Nat.zero_le _, rfl, rfl, rfl⟩
  case round =>
  obtain ⟨k, hk, rfl, rfl, hwr⟩ := hrel
  have hwr2 := hwr.symm
  clear hwr
  subst hwr2
  have hcl : ((bs sa).take k).count 10 ≤ 32768 := by
    have := List.count_le_length (a := (10 : UInt8)) (l := (bs sa).take k)
    rw [List.length_take] at this
    have := HSM.out
    omega
  by_cases hlt : k < sa.size
  · have i1 : (k : Int) < (sa.size : Int) := by omega
    have HTB : Hid _ := take_byte sa k hlt
    obtain ⟨C, hC⟩ : ∃ C, ((bs sa).take k).count 10 = C := ⟨_, rfl⟩
    rw [hC] at hcl ⊢
    have HC : Hid _ := hC
    clear hC
    by_cases hx : sa[k] = 10
    · have e10 : ((sa[k].toNat : Int) == 10) = true := byte_eq hx
      have HC2 : Hid (((bs sa).take (k + 1)).count 10 = C + 1) := by
        show _ = _
        rw [HTB.out, List.count_append, HC.out, hx]; rfl
      clear hx
      go_wp2
      exact ⟨⟨k + 1, by omega, by go_num, by rw [HC2.out]; go_num, trivial⟩, by simp [intOf]; omega⟩
    · have e10 : ((sa[k].toNat : Int) == 10) = false := byte_ne hx
      have HC2 : Hid (((bs sa).take (k + 1)).count 10 = C) := by
        show _ = _
        rw [HTB.out, List.count_append, HC.out, List.count_eq_zero.2 (by simpa using fun e => hx e.symm)]
        rfl
      clear hx
      go_wp2
      exact ⟨⟨k + 1, by omega, by go_num, by rw [HC2.out], trivial⟩, by simp [intOf]; omega⟩
  obtain rfl : k = sa.size := by omega
  have i1 : ¬ (sa.size : Int) < (sa.size : Int) := by omega
  rw [show ((((bs sa).take sa.size).count 10 : Nat) : Int) + 1 = (dn : Int) by rw [List.take_of_length_le (by rw [bs_length]; exact Nat.le_refl _), ← HDN.out]; rfl]
  have hdl : (dn : Int) ≤ 32769 := by
    have := HDN.out
    rw [List.take_of_length_le (by rw [bs_length]; exact Nat.le_refl _)] at hcl
    omega
  clear hcl hlt hk
  have j1 := J1.out
  have j2 := J2.out
  have hTl : (sa ++ (⟨#[10]⟩ : ByteArray) ++ sb).size ≤ 32768 := by rw [size_two]; have := HSM.out; omega
  have hli := Lines_any (sa ++ (⟨#[10]⟩ : ByteArray) ++ sb) W4 hTl
  rw [bs_two] at hli
  cases hlx : Lx.lex (bs sa ++ 10 :: bs sb) with
  | bad a =>
    rw [hlx] at hli
    have HA4 : Hid _ := Rl.answer_lexbad (t := bs sa ++ 10 :: bs sb) (by rw [← bs_two, bs_length]; exact hTl) hlx
    have hpl := fun W : World => Place_any (sa ++ (⟨#[10]⟩ : ByteArray) ++ sb) a W (by omega)
    unfold placeI at hpl
    rw [Int.toNat_natCast, bs_two] at hpl
    have hr4 := HR4.out
    rw [HA4.out] at hr4
    obtain ⟨hxx, hn4⟩ := hr4
    simp only [Prod.mk.injEq] at hxx
    obtain ⟨h1, h2, h3⟩ := hxx
    rw [h2, h3] at hpl
    subst hn4
    subst h1
    have hne := fun W : World => neq_spot W 6 (a : Int) 0 0
    rw [decide_eq_false (fun h => absurd h.1 (by decide))] at hne
    have hgs := fun (W : World) (x y : Operand) => guard_spot W .neq x y
    have heq := fun W : World => eql_where W 6 l4 k4 6 l4 k4
    rw [decide_eq_true ⟨rfl, rfl, rfl⟩] at heq
    have hgd := fun (W : World) (x y : Operand) => guard_where W .eql x y
    unfold whA at heq
    have hW4 : WhT W4 g4 6 l4 k4 := HW4.out
    clear h2 h3 HA4 hlx HR2 HR3 HR4 HW2 HW3 HW4
    go_wp2_with fail
    refine hli.mono ?_
    rintro e w5 ⟨hE, hB5⟩
    simp only [LsEnd] at hE
    subst hE
    have hD5 := hD4.trans (hB5.mono hD4.size)
    have hW5 := hW4.below hB5
    have bb5 := below_box w5 (.cells #[.int .i64 6, .int .i64 (a : Int)] 42)
    have hn5 := heap_alloc_new w5 (.cells #[.int .i64 6, .int .i64 (a : Int)] 42)
    have hW6 := hW5.below bb5
    have hD6 := hD5.trans (bb5.mono hD5.size)
    clear hli hW4 hW5 hB5 hD4 hD5
    have j1 := J1.out
    have j2 := J2.out
    go_upto_region 15 with fail
    generalize w5.alloc (.cells #[.int .i64 6, .int .i64 (a : Int)] 42) = W5 at *
    have s0 : W5.cell? ⟨w5.heap.size, 0, none⟩ = some (.int .i64 6) := by rw [cell_of_row W5 _ 0 _ _ _ hn5]; rfl
    have s1 : W5.cell? ⟨w5.heap.size, 1, none⟩ = some (.int .i64 (a : Int)) := by rw [cell_of_row W5 _ 1 _ _ _ hn5]; rfl
    obtain ⟨y0, y1, y2, y3⟩ := hW6.cells
    clear hn5 bb5 hW6
    go_wp2_with fail
    refine (hpl _).mono ?_
    rintro e w6 ⟨rfl, hw6⟩
    have hw7 := hw6.symm
    clear hw6
    subst hw7
    go_wp2
    go_ret
    exact ⟨rfl, hD6⟩
  | ok M =>
    rw [hlx] at hli
    have hsl : sa.size + sb.size + 1 ≤ 32768 := by have := HSM.out; omega
    have hla := bs_length sa
    have hlb := bs_length sb
    have hne := fun W : World => neq_spot W 0 0 0 0
    rw [decide_eq_true ⟨rfl, rfl⟩] at hne
    have hgs := fun (W : World) (x y : Operand) => guard_spot W .neq x y
    have HLX : Hid _ := hlx
    clear hlx
    go_wp2_with fail
    refine hli.mono ?_
    rintro e w5 ⟨⟨v5, rfl, -⟩, hB5⟩
    have hD5 := hD4.trans (hB5.mono hD4.size)
    have bb5 := below_box w5 (.cells #[.int .i64 0, .int .i64 0] 42)
    have hn5 := heap_alloc_new w5 (.cells #[.int .i64 0, .int .i64 0] 42)
    have HB45 : Hid (Below W4.heap.size W4 (w5.alloc (.cells #[.int .i64 0, .int .i64 0] 42))) := hB5.trans (bb5.mono hB5.size)
    have hD6 := hD5.trans (bb5.mono hD5.size)
    clear hli hB5 hD4 hD5
    go_upto_region 15 with fail
    generalize w5.alloc (.cells #[.int .i64 0, .int .i64 0] 42) = W5 at *
    have s0 : W5.cell? ⟨w5.heap.size, 0, none⟩ = some (.int .i64 0) := by rw [cell_of_row W5 _ 0 _ _ _ hn5]; rfl
    have s1 : W5.cell? ⟨w5.heap.size, 1, none⟩ = some (.int .i64 0) := by rw [cell_of_row W5 _ 1 _ _ _ hn5]; rfl
    clear hn5 bb5
    have hR2 : Res W5 (.slice ad2 n2 c2) n2 er2 l2 k2 (Rl.answer (bs sa)) := Res.below (w := W4) HR2.out HB45.out
    have hR3 : Res W5 (.slice ad3 n3 c3) n3 er3 l3 k3 (Rl.answer (bs sb)) := Res.below (w := W4) HR3.out HB45.out
    have hR4 : Res W5 (.slice ad4 n4 c4) n4 er4 l4 k4 (Rl.answer (bs sa ++ 10 :: bs sb)) := Res.below (w := W4) HR4.out HB45.out
    have hW2 : WhT W5 g2 er2 l2 k2 := WhT.below (w := W4) HW2.out HB45.out
    have hW3 : WhT W5 g3 er3 l3 k3 := WhT.below (w := W4) HW3.out HB45.out
    have hW4 : WhT W5 g4 er4 l4 k4 := WhT.below (w := W4) HW4.out HB45.out
    clear HR2 HR3 HR4 HW2 HW3 HW4 HB45
    have hcs : (∃ x, Rl.answer (bs sa) = .bad x) ∨ ∃ x, Rl.answer (bs sa) = .ok x := by
      cases Rl.answer (bs sa) with
      | bad x => exact .inl ⟨x, rfl⟩
      | ok x => exact .inr ⟨x, rfl⟩
    rcases hcs with ⟨x, hx⟩ | ⟨A, hA⟩
    · have HT := Rl.two_bad HLA.out (by omega) HLX.out hx
      have hxn := Rl.answer_bad hx
      rw [hx] at hR2
      rw [HT] at hR4
      obtain ⟨rfl, rfl⟩ := hR2
      obtain ⟨hxx, rfl⟩ := hR4
      simp only [Prod.mk.injEq] at hxx
      obtain ⟨rfl, rfl, rfl⟩ := hxx
      simp only at hxn
      have e1 : (er2 == 0) = false := by rw [beq_eq_false_iff_ne]; exact hxn
      have e2 : (er2 != 0) = true := by rw [bne_iff_ne]; exact hxn
      have hnw := fun W : World => neq_where W er2 l2 k2 0 0 0
      rw [decide_eq_false (fun h => hxn h.1)] at hnw
      have heq := fun W : World => eql_where W er2 l2 k2 er2 l2 k2
      rw [decide_eq_true ⟨rfl, rfl, rfl⟩] at heq
      have hgd := fun (W : World) (x y : Operand) => guard_where W .eql x y
      have hgd2 := fun (W : World) (x y : Operand) => guard_where W .neq x y
      unfold whA at heq hnw
      obtain ⟨y0, y1, y2, y3⟩ := hW2.cells
      obtain ⟨z0, z1, z2, z3⟩ := hW4.cells
      clear hW2 hW3 hW4 hR3 HT hx hxn HLX HLA
      go_wp2
      go_ret
      exact ⟨rfl, hD6⟩
    · rw [hA] at hR2
      obtain ⟨hn2, rfl, rfl, rfl, hI2⟩ := hR2
      have hnw := fun W : World => neq_where W 0 0 0 0 0 0
      rw [decide_eq_true ⟨rfl, rfl, rfl⟩] at hnw
      have hgd2 := fun (W : World) (x y : Operand) => guard_where W .neq x y
      unfold whA at hnw
      obtain ⟨la, lb, hla', hlb', -⟩ := Rl.two_lex HLA.out HLX.out
      have hlib := Lines_any sb W5 (by omega)
      rw [hlb'] at hlib
      have HLB : Hid _ := hlb'
      have HA2 : Hid _ := hA
      obtain ⟨y0, y1, y2, y3⟩ := hW2.cells
      have HN2 : Hid _ := hn2
      clear hlb' hla' hA hW2 hn2
      go_wp2_with fail
      refine hlib.mono ?_
      rintro e w6 ⟨⟨v6, rfl, hL6⟩, hB6⟩
      clear y0 y1 y2 y3 hlib s0 s1
      have hD7 := hD6.trans (hB6.mono hD6.size)
      have bb6 := below_box w6 (.cells #[.int .i64 0, .int .i64 0] 42)
      have HB56 : Hid (Below W5.heap.size W5 (w6.alloc (.cells #[.int .i64 0, .int .i64 0] 42))) := hB6.trans (bb6.mono hB6.size)
      have hD8 := hD7.trans (bb6.mono hD7.size)
      have hL7 := (hL6.alloc (.cells #[.int .i64 0, .int .i64 0] 42)).s
      obtain ⟨ad6, c6, rfl, hc6⟩ := hL7.shape
      clear hL6 hB6 hD6 hD7 bb6
      go_upto_region 21 with fail
      generalize w6.alloc (.cells #[.int .i64 0, .int .i64 0] 42) = W6 at *
      by_cases hind : ∃ l, lb.head? = some l ∧ l.ind = true
      · obtain ⟨l, hl1, hl2⟩ := hind
        obtain ⟨r, rfl⟩ : ∃ r, lb = l :: r := by
          cases lb with
          | nil => cases hl1
          | cons a r => simp only [List.head?_cons, Option.some.injEq] at hl1; exact ⟨r, by rw [hl1]⟩
        obtain ⟨b7, o7, c7, ad7, cc7, e, -, -, q1, -, -⟩ := hL7.at 0 (by simp)
        simp only [Value.slice.injEq] at e
        obtain ⟨rfl, -, rfl⟩ := e
        have q2 : W6.cell? ⟨b7, o7 + 1, none⟩ = some (.bool true) := by
          have : W6.cell? ⟨b7, o7 + 1, none⟩ = some (.bool l.ind) := q1
          rw [this, hl2]
        have i5 : (0 : Int) < ((((l :: r).map (Lx.toldL (bs sb))).length : Nat) : Int) := by rw [List.length_map, List.length_cons]; omega
        generalize ((l :: r).map (Lx.toldL (bs sb))).length = N at *
        clear hl1 hl2 hI2 hR3 hR4 hW3 hW4 hL7 HLX HLA HLB HA2 q1
        go_wp2
        go_ret
        exact ⟨rfl, hD8⟩
      have HHI : Hid (∀ lb', Lx.lex (bs sb) = .ok lb' → ∀ l, lb'.head? = some l → l.ind = false) := fun lb' h l hl => by
        have e : lb' = lb := by
          have := HLB.out
          rw [h] at this
          cases this
          rfl
        subst e
        cases hi : l.ind with
        | false => rfl
        | true => exact absurd ⟨l, hl, hi⟩ hind
      go_cut [128] (fun v X => v = .bool false ∧ X = W6)
      case first =>
        clear HHI hI2 hR3 hR4 hW3 hW4 HLX HLA HA2
        cases lb with
        | nil =>
          have i5 : ¬ (0 : Int) < ((([] : List (Lx.Ln Nat)).map (Lx.toldL (bs sb))).length : Int) := by simp
          generalize (([] : List (Lx.Ln Nat)).map (Lx.toldL (bs sb))).length = N at *
          obtain rfl : N = 0 := by omega
          clear hL7 hind HLB
          go_wp2
          go_meet
          case rel => exact ⟨rfl, rfl⟩
        | cons l r =>
          have hl2 : l.ind = false := by
            cases hi : l.ind with
            | false => rfl
            | true => exact absurd ⟨l, rfl, hi⟩ hind
          obtain ⟨b7, o7, c7, ad7, cc7, e, -, -, q1, -, -⟩ := hL7.at 0 (by simp)
          simp only [Value.slice.injEq] at e
          obtain ⟨rfl, -, rfl⟩ := e
          have q2 : W6.cell? ⟨b7, o7 + 1, none⟩ = some (.bool false) := by
            have : W6.cell? ⟨b7, o7 + 1, none⟩ = some (.bool l.ind) := q1
            rw [this, hl2]
          have i5 : (0 : Int) < ((((l :: r).map (Lx.toldL (bs sb))).length : Nat) : Int) := by rw [List.length_map, List.length_cons]; omega
          generalize ((l :: r).map (Lx.toldL (bs sb))).length = N at *
          clear hl2 hL7 q1 hind HLB
          go_wp2
          go_meet
          case rel => exact ⟨rfl, rfl⟩
      case rest =>
      obtain ⟨rfl, hwc⟩ := hcut
      have hwc2 := hwc.symm
      clear hwc
      subst hwc2
      have HTW : Hid _ := Rl.two_ok HLA.out (by omega) HLX.out HA2.out HHI.out
      have HBL : Hid (∀ y, Rl.answer (bs sb) = .bad y → 0 ≤ y.2.1 ∧ y.2.1 ≤ 32769) := fun y hy => Rl.bad_line (by omega) HLB.out hy
      clear hind hL7 HHI HLX HLB
      have hI2' : ItsS W6 W6.heap.size (.slice ad2 n2 c2) A := (hI2.below HB56.out (Nat.le_refl _)).mono HB56.out.size
      have hR3' : Res W6 (.slice ad3 n3 c3) n3 er3 l3 k3 (Rl.answer (bs sb)) := Res.below (w := W5) hR3 HB56.out
      have hR4' : Res W6 (.slice ad4 n4 c4) n4 er4 l4 k4 (Rl.answer (bs sa ++ 10 :: bs sb)) := Res.below (w := W5) hR4 HB56.out
      have hW3' : WhT W6 g3 er3 l3 k3 := WhT.below (w := W5) hW3 HB56.out
      have hW4' : WhT W6 g4 er4 l4 k4 := WhT.below (w := W5) hW4 HB56.out
      clear hI2 hR3 hR4 hW3 hW4 HB56
      rw [HDN.out] at HTW
      have hcs : (∃ x, Rl.answer (bs sb) = .bad x) ∨ ∃ x, Rl.answer (bs sb) = .ok x := by
        cases Rl.answer (bs sb) with
        | bad x => exact .inl ⟨x, rfl⟩
        | ok x => exact .inr ⟨x, rfl⟩
      rcases hcs with ⟨y, hy⟩ | ⟨C, hC⟩
      · have hyn := Rl.answer_bad hy
        have hbl := HBL.out y hy
        rw [hy] at hR3'
        rw [HTW.out, hy] at hR4'
        obtain ⟨rfl, rfl⟩ := hR3'
        obtain ⟨hxx, rfl⟩ := hR4'
        have h1 : er3 = er4 := congrArg Prod.fst hxx
        have hl4 : l3 + (dn : Int) = l4 := congrArg (fun z : Int × Int × Int => z.2.1) hxx
        have h3 : k3 = k4 := congrArg (fun z : Int × Int × Int => z.2.2) hxx
        subst h1 h3
        clear hxx
        have e1 : (er3 == 0) = false := by rw [beq_eq_false_iff_ne]; exact hyn
        have e2 : (er3 != 0) = true := by rw [bne_iff_ne]; exact hyn
        simp only at hyn hbl
        have hnw3 := fun W : World => neq_where W er3 l3 k3 0 0 0
        rw [decide_eq_false (fun h => hyn h.1)] at hnw3
        have heq := fun W : World => eql_where W er3 l4 k3 er3 l4 k3
        rw [decide_eq_true ⟨rfl, rfl, rfl⟩] at heq
        have hgd := fun (W : World) (x y : Operand) => guard_where W .eql x y
        unfold whA at heq hnw3
        have hb1 : l4 ≤ 65538 := by omega
        have hb2 : 0 ≤ l4 := by omega
        obtain ⟨y0, y1, y2, y3⟩ := hW3'.cells
        have f3 : W6.frozen? ⟨g3, 2, none⟩ = false := frozen_of_row W6 g3 2 _ _ hW3'
        have e3 := heap_setCell_same W6 g3 2 _ _ (.int .i64 l4) hW3'
        have hne34 : g4 ≠ g3 := by have := HG34.out; omega
        have e4 := (heap_setCell_other W6 ⟨g3, 2, none⟩ g4 (.int .i64 l4) hne34).trans hW4'
        have hD9 := hD8.setCell (p := ⟨g3, 2, none⟩) HG3.out (.int .i64 l4)
        clear hI2' HTW hy hyn hbl HBL hW3' hW4' HLA HA2 hnw
        go_upto_region 25 with fail
        generalize W6.setCell ⟨g3, 2, none⟩ (.int .i64 l4) = W7 at *
        clear y0 y1 y2 y3
        have y0 : W7.cell? ⟨g3, 0, none⟩ = some (.int .i64 er3) := by rw [cell_of_row W7 _ 0 _ _ _ e3]; rfl
        have y1 : W7.cell? ⟨g3, 1, none⟩ = some (.string .empty) := by rw [cell_of_row W7 _ 1 _ _ _ e3]; rfl
        have y2 : W7.cell? ⟨g3, 2, none⟩ = some (.int .i64 l4) := by rw [cell_of_row W7 _ 2 _ _ _ e3]; rfl
        have y3 : W7.cell? ⟨g3, 3, none⟩ = some (.int .i64 k3) := by rw [cell_of_row W7 _ 3 _ _ _ e3]; rfl
        have z0 : W7.cell? ⟨g4, 0, none⟩ = some (.int .i64 er3) := by rw [cell_of_row W7 _ 0 _ _ _ e4]; rfl
        have z1 : W7.cell? ⟨g4, 1, none⟩ = some (.string .empty) := by rw [cell_of_row W7 _ 1 _ _ _ e4]; rfl
        have z2 : W7.cell? ⟨g4, 2, none⟩ = some (.int .i64 l4) := by rw [cell_of_row W7 _ 2 _ _ _ e4]; rfl
        have z3 : W7.cell? ⟨g4, 3, none⟩ = some (.int .i64 k3) := by rw [cell_of_row W7 _ 3 _ _ _ e4]; rfl
        clear e3 e4
        go_wp2
        go_ret
        exact ⟨rfl, hD9⟩
      · have hTB : Rl.answer (bs sa ++ 10 :: bs sb) = .ok (A ++ C.map (Rl.shiftI (dn : Int))) := by rw [HTW.out, hC]; rfl
        rw [hC] at hR3'
        rw [hTB] at hR4'
        obtain ⟨hn3, rfl, rfl, rfl, hI3⟩ := hR3'
        obtain ⟨hn4, rfl, rfl, rfl, hI4⟩ := hR4'
        have hsA := Rl.small (Rl.answer_bulk HA2.out)
        have hsC := Rl.small (Rl.answer_bulk hC)
        have hsD : Rl.Small (C.map (Rl.shiftI (dn : Int))) := Rl.small (by
          have := Rl.answer_bulk hTB
          rw [Rl.bulk_app] at this
          omega)
        have HLI : Hid (∀ x ∈ C, 0 ≤ x.line ∧ x.line ≤ 32769) := Rl.ok_line (by omega) hC
        rw [List.length_append, List.length_map, ← HN2.out, ← hn3] at hn4
        have hcA : (A ++ C.map (Rl.shiftI (dn : Int))).length = n4 := by rw [List.length_append, List.length_map, ← HN2.out, ← hn3, hn4]
        have hIh := hI4.head n2 (by rw [hcA]; omega)
        rw [HN2.out, List.take_left' rfl, ← HN2.out] at hIh
        obtain ⟨A5, hs5, hIt⟩ := hI4.tail n2 (by rw [hcA]; omega)
        rw [HN2.out, List.drop_left' rfl, ← HN2.out] at hIt
        obtain ⟨ad9, c9, e9, hc9⟩ := hI4.shape
        simp only [Value.slice.injEq] at e9
        obtain ⟨rfl, -, rfl⟩ := e9
        rw [hcA] at hc9
        have hn43 : n4 - n2 = n3 := by omega
        rw [hn43] at hs5 hIt
        have hs5' : ∀ W : World, (Instr.slice 23 (.slice ad4 n4 c4) (some (.int .i64 (n2 : Int))) none none).run Try.prog W = .ok (.slice A5 n3 (c4 - n2)) W := hs5
        have hsh : ∀ W : World, (Instr.slice 23 (.slice ad4 n4 c4) none (some (.int .i64 (n2 : Int))) none).run Try.prog W = .ok (.slice ad4 n2 c4) W := fun W => ItR.slice_head W ad4 n4 c4 n2 (by omega)
        have hS1 := fun (W : World) (h : Below W6.heap.size W6 W) => SameL_any (.slice ad4 n2 c4) (.slice ad2 n2 c2) A A W W6.heap.size (hIh.below h (Nat.le_refl _)) (hI2'.below h (Nat.le_refl _)) h.size hsA hsA
        rw [decide_eq_true rfl] at hS1
        have hS2 := fun (W : World) (h : Below W6.heap.size W6 W) => SameL_any (.slice A5 n3 (c4 - n2)) (.slice ad3 n3 c3) (C.map (Rl.shiftI (dn : Int))) C W W6.heap.size (hIt.below h (Nat.le_refl _)) (hI3.below h (Nat.le_refl _)) h.size hsD hsC
        rw [decide_eq_true (Rl.shift_bi _ _)] at hS2
        have esum : (n2 : Int) + (n3 : Int) = (n4 : Int) := by omega
        have hnl : (n4 : Int) ≤ 1099511627 := by
          have := (Rl.small (Rl.answer_bulk hTB)).len
          rw [hcA] at this
          omega
        have HN3 : Hid _ := hn3
        have HN4 : Hid _ := hn4
        have HI3 : Hid (ItsS W6 W6.heap.size (.slice ad3 n3 c3) C) := hI3
        have HI4 : Hid (ItsS W6 W6.heap.size (.slice ad4 n4 c4) (A ++ C.map (Rl.shiftI (dn : Int)))) := hI4
        obtain ⟨y0, y1, y2, y3⟩ := hW3'.cells
        obtain ⟨z0, z1, z2, z3⟩ := hW4'.cells
        have hg3 := hW3'.lt
        have hg4 := hW4'.lt
        clear hI2' hI3 hI4 hIh hIt hsA hsC hsD hC hTB HTW hcA hn3 hn4 hn43 hs5 hW3' hW4' HLA HA2 HBL hc9
        go_wp2_with fail
        refine (hS1 _ (Below.refl _ _)).mono ?_
        rintro e w8 ⟨rfl, hB8⟩
        go_wp2_with fail
        refine (hS2 _ hB8).mono ?_
        rintro e w9 ⟨rfl, hB9⟩
        have hB69 := hB8.trans (hB9.mono hB8.size)
        clear hS1 hS2 hs5' hsh y0 y1 y2 y3 z0 z1 z2 z3 hB8 hB9
        go_wp2
        go_loopw [19] (fun i X => ∃ k : Nat, k ≤ n3 ∧ i = .int .i64 (k : Int) ∧ Below W6.heap.size W6 X) (fun i _ => n3 - (intOf i).toNat)
        case atStart => exact ⟨0, Nat.zero_le _, rfl, hB69⟩
        case round =>
        obtain ⟨k, hk, rfl, hBX⟩ := hrel
        by_cases hlt : k < n3
        · have i5 : (k : Int) < (n3 : Int) := by omega
          obtain ⟨q, hq⟩ : ∃ q : Nat, (n2 : Int) + (k : Int) = (q : Int) := ⟨n2 + k, by omega⟩
          have HQ : Hid (q = n2 + k) := by show _ = _; omega
          have i6 : (q : Int) < (n4 : Int) := by omega
          have i7 : (q : Int) ≤ 1099511627 := by omega
          have hkC : k < C.length := by rw [← HN3.out]; exact hlt
          obtain ⟨b3, o3, c13, ta, tc, wa, wc_, ca, cc, e, -, hcx, -, -, -⟩ := (HI3.out.below hBX (Nat.le_refl _)).at k hkC
          simp only [Value.slice.injEq] at e
          obtain ⟨rfl, -, rfl⟩ := e
          obtain ⟨b4, o4, c14, ta', tc', wa', wc', ca', cc', e, -, hcy, -, -, -⟩ := (HI4.out.below hBX (Nat.le_refl _)).at q (by rw [List.length_append, List.length_map, ← HN2.out]; have := HQ.out; omega)
          simp only [Value.slice.injEq] at e
          obtain ⟨rfl, -, rfl⟩ := e
          have hgx : (A ++ C.map (Rl.shiftI (dn : Int))).getD q Rl.noI = Rl.shiftI (dn : Int) (C.getD k Rl.noI) := by
            rw [HQ.out, HN2.out]
            simp [List.getD, List.getElem?_append_right, List.getElem?_eq_getElem hkC]
          rw [hgx] at hcy
          have hli := HLI.out (C.getD k Rl.noI) (by simp [List.getD, List.getElem?_eq_getElem hkC])
          generalize C.getD k Rl.noI = x at *
          have r1 : wr.cell? ⟨b3, o3 + k * 6 + 1, none⟩ = some (.int .i64 x.line) := hcx 1 _ rfl
          have r2 : wr.cell? ⟨b4, o4 + q * 6 + 1, none⟩ = some (.int .i64 (x.line + (dn : Int))) := hcy 1 _ rfl
          obtain ⟨z, hz⟩ : ∃ z : Int, x.line + (dn : Int) = z := ⟨_, rfl⟩
          rw [hz] at r2
          have hz1 : z ≤ 65538 := by omega
          have hz2 : 0 ≤ z := by omega
          clear hcx hcy hgx hli
          go_wp2_with fail
          go_quiet (fail)
          go_wp2
          exact ⟨⟨k + 1, by omega, by go_num, below_drewN hBX _⟩, by simp [intOf]; omega⟩
        · obtain rfl : k = n3 := by omega
          have i5 : ¬ (k : Int) < (k : Int) := by omega
          go_wp2
          go_ret
          exact ⟨rfl, hD8.trans (hBX.mono hD8.size)⟩

end Go.Proofs.Ythpipbkbldlfjaa
