/-
  THE DEVICE, AS PLAIN DATA: what is stable, what is dirty, which block was written last, how many operations there were, the faults, the cut.
-/
namespace Dk

abbrev Blk := List UInt8

structure Dev where
  st : List Blk
  di : Int → Option Blk
  la : Int
  op : Nat
  fa : Int → Option Int
  cu : Int

def zeroB : Blk := List.replicate 256 0
def new (n : Nat) : Dev := ⟨List.replicate n zeroB, fun _ => none, 0, 0, fun _ => none, 9223372036854775807⟩
/-- the error by which the next operation comes to nothing -/
def Dev.err (d : Dev) : Int := if d.cu ≤ (d.op : Int) then 30 else (d.fa d.op).getD 0
def Dev.begun (d : Dev) : Dev := { d with op := d.op + 1, fa := fun y => if y = (d.op : Int) then none else d.fa y }
def Dev.stab (d : Dev) (i : Nat) : Blk := d.st.getD i []
def Dev.cont (d : Dev) (i : Nat) : Blk := (d.di i).getD (d.stab i)
def Dev.wr (d : Dev) (i : Nat) (b : Blk) : Dev := { d with di := fun y => if y = (i : Int) then some b else d.di y, la := i }
def Dev.fl (d : Dev) : Dev := { d with st := (List.range d.st.length).map d.cont, di := fun _ => none }
/-- the dirty blocks, rising -/
def Dev.dl (d : Dev) : List Nat := (List.range d.st.length).filter fun (j : Nat) => (d.di j).isSome
def Dev.rank (d : Dev) (i : Nat) : Nat := ((List.range i).filter fun (j : Nat) => (d.di j).isSome).length
def Dev.crB (d : Dev) (keep : List Bool) (t i : Nat) : Blk :=
  match d.di i with
  | none => d.stab i
  | some b => if keep.getD (d.rank i) false then b else if (i : Int) = d.la then b.take t ++ (d.stab i).drop t else d.stab i
def Dev.cr (d : Dev) (keep : List Bool) (t : Nat) : Dev := { d with st := (List.range d.st.length).map (d.crB keep t), di := fun _ => none, fa := fun _ => none, cu := 9223372036854775807 }
def Dev.fail (d : Dev) (after e : Int) : Dev := { d with fa := fun y => if y = (d.op : Int) + after then some e else d.fa y }
def Dev.cut (d : Dev) (after : Int) : Dev := { d with cu := if d.cu ≤ (d.op : Int) + after then d.cu else (d.op : Int) + after }

structure Ok (d : Dev) : Prop where
  lo : 80 ≤ d.st.length
  hi : d.st.length ≤ 4096
  len : ∀ i, i < d.st.length → (d.stab i).length = 256
  dom : ∀ i b, d.di i = some b → b.length = 256 ∧ 0 ≤ i ∧ i < d.st.length
  fal : ∀ i e, d.fa i = some e → e = 8 ∨ e = 9
  cu0 : 0 ≤ d.cu
  cu1 : d.cu ≤ 9223372036854775807
  la0 : 0 ≤ d.la
  la1 : d.la < 4096

theorem zeroB_len : zeroB.length = 256 := List.length_replicate
theorem stab_lt {d : Dev} {i : Nat} (h : i < d.st.length) : d.stab i = d.st[i] := by simp [Dev.stab, List.getD, List.getElem?_eq_getElem h]
theorem mapRange_stab {d d' : Dev} {f : Nat → Blk} (h : d'.st = (List.range d.st.length).map f) {i : Nat} (hi : i < d.st.length) : d'.stab i = f i := by
  simp [Dev.stab, h, List.getD, hi]
theorem new_ok (n : Nat) (h1 : 80 ≤ n) (h2 : n ≤ 4096) : Ok (new n) := by
  refine ⟨by simpa [new] using h1, by simpa [new] using h2, fun i hi => ?_, (fun i b h => by cases h), (fun i b h => by cases h), by simp [new], by simp [new], by simp [new], by simp [new]⟩
  have : i < n := by simpa [new] using hi
  simp [Dev.stab, new, List.getD, this, zeroB_len]
theorem new_stab (n i : Nat) (h : i < n) : (new n).stab i = zeroB := by simp [Dev.stab, new, List.getD, h]
theorem begun_ok {d : Dev} (h : Ok d) : Ok d.begun := ⟨h.lo, h.hi, h.len, h.dom, fun i e hf => by
    unfold Dev.begun at hf
    simp only at hf
    split at hf
    · cases hf
    · exact h.fal i e hf, h.cu0, h.cu1, h.la0, h.la1⟩
theorem cont_len {d : Dev} (h : Ok d) {i : Nat} (hi : i < d.st.length) : (d.cont i).length = 256 := by
  unfold Dev.cont
  cases hd : d.di i with
  | none => exact h.len i hi
  | some b => exact (h.dom i b hd).1
theorem wr_ok {d : Dev} (h : Ok d) {i : Nat} {b : Blk} (hi : i < d.st.length) (hb : b.length = 256) : Ok (d.wr i b) := by
  refine ⟨h.lo, h.hi, h.len, fun j c hj => ?_, h.fal, h.cu0, h.cu1, by simp [Dev.wr], ?_⟩
  · unfold Dev.wr at hj ⊢
    simp only at hj ⊢
    split at hj
    · cases hj; exact ⟨hb, by omega, by omega⟩
    · exact h.dom j c hj
  · have := h.hi; simp only [Dev.wr]; omega
theorem fl_ok {d : Dev} (h : Ok d) : Ok d.fl := by
  refine ⟨by simpa [Dev.fl] using h.lo, by simpa [Dev.fl] using h.hi, fun i hi => ?_, (fun i b hh => by cases hh), h.fal, h.cu0, h.cu1, h.la0, h.la1⟩
  have hi' : i < d.st.length := by simpa [Dev.fl] using hi
  rw [mapRange_stab (d := d) (d' := d.fl) rfl hi']
  exact cont_len h hi'
theorem crB_len {d : Dev} (h : Ok d) (keep : List Bool) (t : Nat) {i : Nat} (hi : i < d.st.length) : (d.crB keep t i).length = 256 := by
  unfold Dev.crB
  cases hd : d.di i with
  | none => exact h.len i hi
  | some b =>
    have hb := (h.dom i b hd).1
    have hs := h.len i hi
    simp only
    split
    · exact hb
    · split
      · simp [hb, hs]; omega
      · exact hs
theorem cr_ok {d : Dev} (h : Ok d) (keep : List Bool) (t : Nat) : Ok (d.cr keep t) := by
  refine ⟨by simpa [Dev.cr] using h.lo, by simpa [Dev.cr] using h.hi, fun i hi => ?_, (fun i b hh => by cases hh), (fun i b hh => by cases hh), by simp [Dev.cr], by simp [Dev.cr], h.la0, h.la1⟩
  have hi' : i < d.st.length := by simpa [Dev.cr] using hi
  rw [mapRange_stab (d := d) (d' := d.cr keep t) rfl hi']
  exact crB_len h keep t hi'
theorem fail_ok {d : Dev} (h : Ok d) {after e : Int} (he : e = 8 ∨ e = 9) : Ok (d.fail after e) := by
  refine ⟨h.lo, h.hi, h.len, h.dom, fun i e' hf => ?_, h.cu0, h.cu1, h.la0, h.la1⟩
  unfold Dev.fail at hf
  simp only at hf
  split at hf
  · cases hf; exact he
  · exact h.fal i e' hf
theorem cut_ok {d : Dev} (h : Ok d) {after : Int} (h0 : 0 ≤ after) (h1 : (d.op : Int) + after ≤ 9223372036854775807) : Ok (d.cut after) := by
  refine ⟨h.lo, h.hi, h.len, h.dom, h.fal, ?_, ?_, h.la0, h.la1⟩
  · unfold Dev.cut; simp only; split
    · exact h.cu0
    · omega
  · unfold Dev.cut; simp only; split
    · exact h.cu1
    · exact h1

/-! the dirty blocks in order -/
theorem mem_dl {d : Dev} {i : Nat} : i ∈ d.dl ↔ i < d.st.length ∧ (d.di i).isSome = true := by simp [Dev.dl]
theorem dl_pw (d : Dev) : d.dl.Pairwise (· < ·) := (List.pairwise_lt_range).filter _
theorem dl_le (d : Dev) : d.dl.length ≤ d.st.length := by
  unfold Dev.dl
  exact Nat.le_trans (List.length_filter_le _ _) (by simp)

/-- two lists that rise and have the same members are one -/
theorem eq_of_rising {l m : List Int} (hl : l.Pairwise (· < ·)) (hm : m.Pairwise (· < ·)) (h : ∀ x, x ∈ l ↔ x ∈ m) : l = m := by
  induction l generalizing m with
  | nil =>
    cases m with
    | nil => rfl
    | cons b m => exact absurd ((h b).2 (by simp)) (by simp)
  | cons a l ih =>
    cases m with
    | nil => exact absurd ((h a).1 (by simp)) (by simp)
    | cons b m =>
      obtain ⟨ha, hl'⟩ := List.pairwise_cons.1 hl
      obtain ⟨hb, hm'⟩ := List.pairwise_cons.1 hm
      have hab : a = b := by
        have h1 := (h a).1 (by simp)
        have h2 := (h b).2 (by simp)
        rcases List.mem_cons.1 h1 with e | h1
        · exact e
        · rcases List.mem_cons.1 h2 with e | h2
          · exact e.symm
          · have := ha b h2; have := hb a h1; omega
      subst hab
      congr 1
      refine ih hl' hm' fun x => ⟨fun hx => ?_, fun hx => ?_⟩
      · rcases List.mem_cons.1 ((h x).1 (List.mem_cons_of_mem _ hx)) with e | h1
        · have := ha x hx; omega
        · exact h1
      · rcases List.mem_cons.1 ((h x).2 (List.mem_cons_of_mem _ hx)) with e | h1
        · have := hb x hx; omega
        · exact h1

theorem range_split (n i : Nat) (h : i < n) : List.range n = List.range i ++ i :: (List.range (n - i - 1)).map (· + (i + 1)) := by
  have e : n = i + (1 + (n - i - 1)) := by omega
  conv => lhs; rw [e, List.range_add]
  congr 1
  rw [List.range_add]
  simp [Function.comp_def]
  omega

/-- the k-th of the dirty blocks has the rank k -/
theorem rank_dl {d : Dev} {k : Nat} (hk : k < d.dl.length) : d.rank d.dl[k] = k := by
  have hm := mem_dl.1 (List.getElem_mem hk)
  generalize hi : d.dl[k] = i at hm
  have hs : d.dl = ((List.range i).filter fun (j : Nat) => (d.di j).isSome) ++ i :: (((List.range (d.st.length - i - 1)).map (· + (i + 1))).filter fun (j : Nat) => (d.di j).isSome) := by
    unfold Dev.dl
    rw [range_split _ _ hm.1, List.filter_append, List.filter_cons, if_pos hm.2]
  have hlen : d.rank i < d.dl.length := by rw [hs]; simp [Dev.rank]
  have hat : d.dl[d.rank i] = i := by
    have : d.dl[d.rank i]? = some i := by
      rw [hs, List.getElem?_append_right (by simp [Dev.rank])]
      simp [Dev.rank]
    rw [List.getElem?_eq_getElem hlen] at this
    exact Option.some.inj this
  rcases Nat.lt_trichotomy k (d.rank i) with h | h | h
  · have := (List.pairwise_iff_getElem.1 (dl_pw d)) k (d.rank i) hk hlen h
    omega
  · exact h.symm
  · have := (List.pairwise_iff_getElem.1 (dl_pw d)) (d.rank i) k hlen hk h
    omega
end Dk
