/-
  THE PLAIN MATHEMATICS OF THE SUM (layer 2): the register as a map that keeps '^^^' over numbers of any size; a list of bytes as one number; the register behind a list is the register's steps on that number; a burst of 32 bits is never taken to 0.
-/
namespace Go.Proofs.Ytmogihffkglieaa.Sm

def P : Nat := 3988292384
def M : Nat := 4294967295

/-- one bit goes out of the register -/
def s1 (r : Nat) : Nat := r / 2 ^^^ (if r % 2 = 1 then P else 0)
def sN : Nat → Nat → Nat
  | 0, r => r
  | k + 1, r => sN k (s1 r)

theorem xor_div_two (a b : Nat) : (a ^^^ b) / 2 = a / 2 ^^^ b / 2 := by
  have := Nat.shiftRight_xor_distrib (a := a) (b := b) (i := 1)
  simpa [Nat.shiftRight_succ] using this

theorem xor_mod_two (a b : Nat) : (a ^^^ b) % 2 = (a % 2 + b % 2) % 2 := by
  rcases Nat.mod_two_eq_zero_or_one a with ha | ha <;> rcases Nat.mod_two_eq_zero_or_one b with hb | hb <;>
    · have := Nat.xor_mod_two_pow (a := a) (b := b) (n := 1)
      simp only [Nat.pow_one] at this
      rw [this, ha, hb]
      rfl

theorem xor4 (a b c d : Nat) : (a ^^^ b) ^^^ (c ^^^ d) = (a ^^^ c) ^^^ (b ^^^ d) := by
  rw [Nat.xor_assoc, ← Nat.xor_assoc b, Nat.xor_comm b c, Nat.xor_assoc c, ← Nat.xor_assoc]
theorem xor_cancel (a b : Nat) : a ^^^ b ^^^ b = a := by rw [Nat.xor_assoc, Nat.xor_self, Nat.xor_zero]
theorem xor_cancel' (a b : Nat) : a ^^^ (a ^^^ b) = b := by rw [← Nat.xor_assoc, Nat.xor_self, Nat.zero_xor]

theorem xor_left (a b c : Nat) : a ^^^ (b ^^^ c) = b ^^^ (a ^^^ c) := by rw [← Nat.xor_assoc, Nat.xor_comm a b, Nat.xor_assoc]

theorem s1_xor (a b : Nat) : s1 (a ^^^ b) = s1 a ^^^ s1 b := by
  unfold s1
  rw [xor_div_two, xor_mod_two]
  rcases Nat.mod_two_eq_zero_or_one a with ha | ha <;> rcases Nat.mod_two_eq_zero_or_one b with hb | hb <;> simp only [ha, hb]
  · simp
  · simp [Nat.xor_assoc]
  · rw [if_pos trivial, if_neg (by decide), Nat.xor_zero, Nat.xor_assoc, Nat.xor_assoc, Nat.xor_comm P]
  · rw [xor4]; simp

theorem sN_xor (k : Nat) : ∀ a b : Nat, sN k (a ^^^ b) = sN k a ^^^ sN k b := by
  induction k with
  | zero => intro a b; rfl
  | succ k ih => intro a b; simp only [sN, s1_xor, ih]

theorem s1_even (x : Nat) : s1 (2 * x) = x := by
  unfold s1
  rw [if_neg (by omega), Nat.xor_zero]
  omega

theorem sN_shift (k : Nat) : ∀ x : Nat, sN k (2 ^ k * x) = x := by
  induction k with
  | zero => intro x; simp [sN]
  | succ k ih =>
    intro x
    have : 2 ^ (k + 1) * x = 2 * (2 ^ k * x) := by rw [Nat.pow_succ, Nat.mul_comm (2 ^ k) 2, Nat.mul_assoc]
    rw [this, sN, s1_even, ih]

theorem sN_add (j : Nat) : ∀ k r : Nat, sN (j + k) r = sN k (sN j r) := by
  induction j with
  | zero => intro k r; simp [sN]
  | succ j ih => intro k r; rw [show j + 1 + k = (j + k) + 1 by omega, sN, sN, ih]

theorem sN_succ (k r : Nat) : sN (k + 1) r = s1 (sN k r) := by rw [sN_add k 1]; rfl

theorem s1_lt {r : Nat} (h : r < 4294967296) : s1 r < 4294967296 := by
  unfold s1
  refine Nat.xor_lt_two_pow (n := 32) (by omega) ?_
  split
  · decide
  · decide

theorem sN_lt (k : Nat) : ∀ {r : Nat}, r < 4294967296 → sN k r < 4294967296 := by
  induction k with
  | zero => intro r h; exact h
  | succ k ih => intro r h; exact ih (s1_lt h)

theorem s1_ne {r : Nat} (h0 : r ≠ 0) (h : r < 4294967296) : s1 r ≠ 0 := by
  unfold s1
  split
  · intro hx
    have h1 : r / 2 ^^^ P ^^^ P = P := by rw [hx, Nat.zero_xor]
    rw [xor_cancel] at h1
    unfold P at h1
    omega
  · rw [Nat.xor_zero]; omega

theorem sN_ne (k : Nat) : ∀ {r : Nat}, r ≠ 0 → r < 4294967296 → sN k r ≠ 0 := by
  induction k with
  | zero => intro r h _; exact h
  | succ k ih => intro r h hr; exact ih (s1_ne h hr) (s1_lt hr)

/-- what is below a power of two, beside a multiple of it -/
theorem add_eq_xor (i : Nat) {b : Nat} (hb : b < 2 ^ i) (a : Nat) : b + 2 ^ i * a = b ^^^ 2 ^ i * a := by
  apply Nat.eq_of_testBit_eq
  intro j
  rw [Nat.testBit_xor, Nat.add_comm, Nat.testBit_two_pow_mul_add a hb j, Nat.testBit_two_pow_mul]
  by_cases hj : j < i
  · have : ¬ i ≤ j := by omega
    simp [hj, this]
  · have : b.testBit j = false := Nat.testBit_lt_two_pow (Nat.lt_of_lt_of_le hb (Nat.pow_le_pow_right (by decide) (by omega)))
    simp [hj, this]
    intro h; omega

def num : List UInt8 → Nat
  | [] => 0
  | x :: l => x.toNat + 256 * num l

theorem num_cons (x : UInt8) (l : List UInt8) : num (x :: l) = x.toNat ^^^ 2 ^ 8 * num l := add_eq_xor 8 (by have := UInt8.toNat_lt x; omega) (num l)

theorem num_lt (l : List UInt8) : num l < 2 ^ (8 * l.length) := by
  induction l with
  | nil => simp [num]
  | cons x l ih =>
    have := UInt8.toNat_lt x
    have e : 2 ^ (8 * (x :: l).length) = 256 * 2 ^ (8 * l.length) := by rw [List.length_cons, Nat.mul_add, Nat.pow_add, Nat.mul_comm]
    rw [e]
    simp only [num]
    omega

def run (r : Nat) : List UInt8 → Nat
  | [] => r
  | x :: l => run (sN 8 (r ^^^ x.toNat)) l

theorem run_eq (l : List UInt8) : ∀ r : Nat, run r l = sN (8 * l.length) (r ^^^ num l) := by
  induction l with
  | nil => intro r; simp [run, num, sN]
  | cons x l ih =>
    intro r
    rw [run, ih, num_cons, List.length_cons, Nat.mul_add, Nat.add_comm, sN_add, ← Nat.xor_assoc, sN_xor 8 _ (2 ^ 8 * num l), sN_shift]

theorem run_append (a b : List UInt8) : ∀ r : Nat, run r (a ++ b) = run (run r a) b := by
  induction a with
  | nil => intro r; rfl
  | cons x a ih => intro r; exact ih _

theorem run_snoc (a : List UInt8) (x : UInt8) (r : Nat) : run r (a ++ [x]) = sN 8 (run r a ^^^ x.toNat) := run_append a [x] r

theorem toNat_lt32 (x : UInt8) : x.toNat < 4294967296 := by have := UInt8.toNat_lt x; omega

theorem run_lt (l : List UInt8) : ∀ {r : Nat}, r < 4294967296 → run r l < 4294967296 := by
  induction l with
  | nil => intro r h; exact h
  | cons x l ih => intro r h; exact ih (sN_lt 8 (Nat.xor_lt_two_pow (n := 32) h (toNat_lt32 x)))

def more (s : Nat) (l : List UInt8) : Nat := M ^^^ run (M ^^^ s) l
def of (l : List UInt8) : Nat := more 0 l

theorem not_lt {r : Nat} (h : r < 4294967296) : M ^^^ r < 4294967296 := Nat.xor_lt_two_pow (n := 32) (by decide) h
theorem more_lt {s : Nat} (h : s < 4294967296) (l : List UInt8) : more s l < 4294967296 := not_lt (run_lt l (not_lt h))
theorem of_lt (l : List UInt8) : of l < 4294967296 := more_lt (by decide) l
theorem of_eq (l : List UInt8) : of l = M ^^^ run M l := by unfold of more; rw [Nat.xor_zero]
theorem more_append (s : Nat) (a b : List UInt8) : more (more s a) b = more s (a ++ b) := by
  unfold more
  rw [xor_cancel', run_append]
theorem more_nil (s : Nat) : more s [] = s := xor_cancel' M s

theorem not_eq (r : Nat) (h : r < 4294967296) : M ^^^ r = 4294967295 - r := by
  have h1 : 4294967295 - r = 2 ^ 32 - (r + 1) := by omega
  have h2 : M = 2 ^ 32 - 1 := rfl
  rw [h1, h2]
  apply Nat.eq_of_testBit_eq
  intro j
  rw [Nat.testBit_xor, Nat.testBit_two_pow_sub_one, Nat.testBit_two_pow_sub_succ h]
  by_cases hj : j < 32
  · simp [hj]
  · have : r.testBit j = false := Nat.testBit_lt_two_pow (Nat.lt_of_lt_of_le h (Nat.pow_le_pow_right (n := 2) (i := 32) (by decide) (by omega)))
    simp [hj, this]

/-- one bit beside the register -/
theorem bit_step (n y : Nat) : (n / 2 ^^^ (if (n % 2 + y % 2) % 2 = 1 then P else 0)) ^^^ y / 2 = s1 (n ^^^ y) := by
  unfold s1
  rw [xor_div_two, xor_mod_two, Nat.xor_assoc, Nat.xor_assoc, Nat.xor_comm (y / 2)]

/-- four bits at a time -/
theorem nibble (r : Nat) : sN 4 r = r / 16 ^^^ sN 4 (r % 16) := by
  have e : r = r % 16 ^^^ 2 ^ 4 * (r / 16) := by
    rw [← add_eq_xor 4 (by omega)]
    omega
  conv => lhs; rw [e, sN_xor, sN_shift]
  rw [Nat.xor_comm]
theorem byte_two (r : Nat) : sN 8 r = sN 4 (sN 4 r) := sN_add 4 4 r

/-- the sum's four bytes, the lowest first -/
def le4 (v : Nat) : List UInt8 := [UInt8.ofNat (v % 256), UInt8.ofNat (v / 256 % 256), UInt8.ofNat (v / 65536 % 256), UInt8.ofNat (v / 16777216 % 256)]
theorem ofNat_mod (v : Nat) : (UInt8.ofNat (v % 256)).toNat = v % 256 := by simp
theorem num_le4 {v : Nat} (h : v < 4294967296) : num (le4 v) = v := by
  simp only [le4, num, ofNat_mod]
  omega
theorem le4_length (v : Nat) : (le4 v).length = 4 := rfl

theorem num_inj : ∀ {a b : List UInt8}, a.length = b.length → num a = num b → a = b
  | [], [], _, _ => rfl
  | x :: a, y :: b, hl, h => by
    have hx := UInt8.toNat_lt x
    have hy := UInt8.toNat_lt y
    simp only [num] at h
    have h1 : x.toNat = y.toNat := by omega
    have h2 : num a = num b := by omega
    rw [UInt8.toNat_inj.mp h1, num_inj (by simpa using hl) h2]
theorem le4_num {t : List UInt8} (h : t.length = 4) : le4 (num t) = t :=
  num_inj (by rw [le4_length, h]) (num_le4 (by have := num_lt t; rw [h] at this; simpa using this))

def seal_ (l : List UInt8) : List UInt8 := l ++ le4 (of l)

/-- whether a list is whole -/
def whole (l : List UInt8) : Bool := decide (4 ≤ l.length) && (num (l.drop (l.length - 4)) == of (l.take (l.length - 4)))

theorem whole_iff {l : List UInt8} (h : 4 ≤ l.length) : whole l = true ↔ run M l = sN 32 M := by
  have hd : (l.drop (l.length - 4)).length = 4 := by rw [List.length_drop]; omega
  have hs : run M l = sN 32 (run M (l.take (l.length - 4)) ^^^ num (l.drop (l.length - 4))) := by
    conv => lhs; rw [← List.take_append_drop (l.length - 4) l, run_append, run_eq (l.drop _), hd]
  have hn := num_lt (l.drop (l.length - 4))
  rw [hd] at hn
  have hr := run_lt (l.take (l.length - 4)) (r := M) (by decide)
  unfold whole
  rw [hs, of_eq]
  generalize num (l.drop (l.length - 4)) = t at hn ⊢
  generalize run M (l.take (l.length - 4)) = r at hr ⊢
  simp only [h, decide_true, Bool.true_and, beq_iff_eq]
  constructor
  · rintro rfl
    rw [Nat.xor_comm M r, xor_cancel']
  · intro he
    have h1 : sN 32 (r ^^^ t ^^^ M) = 0 := by rw [sN_xor, he, Nat.xor_self]
    have h2 : r ^^^ t ^^^ M = 0 := Decidable.byContradiction fun hne => sN_ne 32 hne (Nat.xor_lt_two_pow (n := 32) (Nat.xor_lt_two_pow (n := 32) hr hn) (by decide)) h1
    have h3 : r ^^^ t ^^^ M ^^^ M = M := by rw [h2, Nat.zero_xor]
    rw [xor_cancel] at h3
    rw [← h3, Nat.xor_comm (r ^^^ t) r, xor_cancel']

theorem seal_length (l : List UInt8) : (seal_ l).length = l.length + 4 := by simp [seal_, le4]
theorem whole_seal (l : List UInt8) : whole (seal_ l) = true := by
  unfold whole
  rw [seal_length]
  have h4 : l.length + 4 - 4 = l.length := by omega
  rw [h4]
  unfold seal_
  rw [List.drop_left, List.take_left, num_le4 (of_lt l)]
  simp
theorem whole_eq {l : List UInt8} (h : 4 ≤ l.length) : whole l = true ↔ l = seal_ (l.take (l.length - 4)) := by
  have hd : (l.drop (l.length - 4)).length = 4 := by rw [List.length_drop]; omega
  constructor
  · intro hw
    unfold whole at hw
    simp only [h, decide_true, Bool.true_and, beq_iff_eq] at hw
    unfold seal_
    rw [← hw, le4_num hd, List.take_append_drop]
  · intro he
    rw [he]
    exact whole_seal _

/-- bits turned within 32 that follow one another -/
theorem burst {l l' : List UInt8} {fr W : Nat} (hl : 4 ≤ l.length) (hlen : l'.length = l.length) (hf : fr ≤ 8 * l.length) (hW0 : W ≠ 0) (hW : W < 4294967296) (he : num l' = num l ^^^ 2 ^ fr * W)
    (hw : whole l = true) : whole l' = false := by
  rw [whole_iff hl, run_eq] at hw
  rw [← Bool.not_eq_true, whole_iff (by omega), run_eq, hlen, he, ← Nat.xor_assoc, sN_xor, hw]
  intro h
  have h1 : sN (8 * l.length) (2 ^ fr * W) = 0 := by
    have := congrArg (sN 32 M ^^^ ·) h
    simp only [xor_cancel', Nat.xor_self] at this
    exact this
  rw [show 8 * l.length = fr + (8 * l.length - fr) by omega, sN_add, sN_shift] at h1
  exact sN_ne _ hW0 hW h1

def flip (l : List UInt8) (p : Nat) : List UInt8 := l.set (p / 8) (UInt8.ofNat ((l.getD (p / 8) 0).toNat ^^^ 2 ^ (p % 8)))

theorem pow8_lt (p : Nat) : 2 ^ (p % 8) < 256 := by
  have : p % 8 < 8 := Nat.mod_lt _ (by decide)
  calc 2 ^ (p % 8) < 2 ^ 8 := Nat.pow_lt_pow_right (by decide) this
    _ = 256 := by decide
theorem xor_byte (x : UInt8) (p : Nat) : (UInt8.ofNat (x.toNat ^^^ 2 ^ (p % 8))).toNat = x.toNat ^^^ 2 ^ (p % 8) := by
  have h1 : x.toNat ^^^ 2 ^ (p % 8) < 2 ^ 8 := Nat.xor_lt_two_pow (n := 8) (by have := UInt8.toNat_lt x; omega) (pow8_lt p)
  rw [UInt8.toNat_ofNat']
  exact Nat.mod_eq_of_lt h1

theorem flip_num : ∀ (l : List UInt8) (p : Nat), p < 8 * l.length → num (flip l p) = num l ^^^ 2 ^ p
  | [], p, h => by simp at h
  | x :: l, p, h => by
    by_cases hp : p < 8
    · have h0 : p / 8 = 0 := by omega
      have h1 : p % 8 = p := by omega
      have hb := xor_byte x p
      unfold flip
      rw [h0, List.set_cons_zero, num_cons, num_cons]
      simp only [List.getD_cons_zero]
      rw [hb, h1, Nat.xor_assoc, Nat.xor_assoc, Nat.xor_comm (2 ^ p)]
    · have h0 : p / 8 = (p - 8) / 8 + 1 := by omega
      have h1 : p % 8 = (p - 8) % 8 := by omega
      have ih := flip_num l (p - 8) (by simp at h; omega)
      have hf : flip (x :: l) p = x :: flip l (p - 8) := by
        unfold flip
        rw [h0, List.set_cons_succ, List.getD_cons_succ, h1]
      have hp2 : 2 ^ 8 * 2 ^ (p - 8) = 2 ^ p := by rw [← Nat.pow_add]; congr 1; omega
      have hx : 2 ^ 8 * (num l ^^^ 2 ^ (p - 8)) = 2 ^ 8 * num l ^^^ 2 ^ p := by
        rw [← hp2]
        have := Nat.shiftLeft_xor_distrib (a := num l) (b := 2 ^ (p - 8)) (i := 8)
        simp only [Nat.shiftLeft_eq] at this
        rw [Nat.mul_comm, this, Nat.mul_comm (num l), Nat.mul_comm (2 ^ (p - 8))]
      rw [hf, num_cons, num_cons, ih, hx, Nat.xor_assoc]
theorem flip_length (l : List UInt8) (p : Nat) : (flip l p).length = l.length := by simp [flip]

/-- one more bit of the burst -/
theorem burst_step {l0 l : List UInt8} {fr W k : Nat} (hW : W < 2 ^ k) (he : num l = num l0 ^^^ 2 ^ fr * W) (hp : fr + k < 8 * l.length) :
    num (flip l (fr + k)) = num l0 ^^^ 2 ^ fr * (W + 2 ^ k) ∧ W + 2 ^ k < 2 ^ (k + 1) ∧ W + 2 ^ k ≠ 0 := by
  have h2 : 0 < 2 ^ k := Nat.two_pow_pos k
  refine ⟨?_, by rw [Nat.pow_succ]; omega, by omega⟩
  have hx : W + 2 ^ k = W ^^^ 2 ^ k := by have := add_eq_xor k hW 1; simpa using this
  have hm : 2 ^ fr * (W ^^^ 2 ^ k) = 2 ^ fr * W ^^^ 2 ^ (fr + k) := by
    have := Nat.shiftLeft_xor_distrib (a := W) (b := 2 ^ k) (i := fr)
    simp only [Nat.shiftLeft_eq] at this
    rw [Nat.mul_comm, this, Nat.mul_comm W, ← Nat.pow_add, Nat.add_comm k]
  rw [flip_num l _ hp, he, hx, hm, Nat.xor_assoc]

/-- lists, added without carry -/
def xor2 (a b : List UInt8) : List UInt8 := List.zipWith (fun x y => UInt8.ofNat (x.toNat ^^^ y.toNat)) a b
theorem xor2_num : ∀ (a b : List UInt8), a.length = b.length → num (xor2 a b) = num a ^^^ num b
  | [], [], _ => rfl
  | x :: a, y :: b, h => by
    have ih := xor2_num a b (by simpa using h)
    have hb : (UInt8.ofNat (x.toNat ^^^ y.toNat)).toNat = x.toNat ^^^ y.toNat := by
      have h1 : x.toNat ^^^ y.toNat < 2 ^ 8 := Nat.xor_lt_two_pow (n := 8) (by have := UInt8.toNat_lt x; omega) (by have := UInt8.toNat_lt y; omega)
      rw [UInt8.toNat_ofNat']
      exact Nat.mod_eq_of_lt h1
    have e : xor2 (x :: a) (y :: b) = UInt8.ofNat (x.toNat ^^^ y.toNat) :: xor2 a b := rfl
    have hm : 2 ^ 8 * (num a ^^^ num b) = 2 ^ 8 * num a ^^^ 2 ^ 8 * num b := by
      have := Nat.shiftLeft_xor_distrib (a := num a) (b := num b) (i := 8)
      simp only [Nat.shiftLeft_eq] at this
      rw [Nat.mul_comm, this, Nat.mul_comm (num a), Nat.mul_comm (num b)]
    rw [e, num_cons, num_cons, num_cons, ih, hb, hm, xor4]
theorem xor2_length (a b : List UInt8) (h : a.length = b.length) : (xor2 a b).length = a.length := by simp [xor2]; omega

theorem added (a b c : List UInt8) (h1 : a.length = b.length) (h2 : b.length = c.length) : of (xor2 (xor2 a b) c) = of a ^^^ of b ^^^ of c := by
  have l1 := xor2_length a b h1
  have l2 := xor2_length (xor2 a b) c (by omega)
  simp only [of_eq, run_eq, l2, l1]
  rw [xor2_num _ _ (by omega), xor2_num _ _ h1, ← h2, ← h1]
  simp only [sN_xor]
  generalize sN (8 * a.length) M = m
  generalize sN (8 * a.length) (num a) = x
  generalize sN (8 * a.length) (num b) = y
  generalize sN (8 * a.length) (num c) = z
  rw [xor4 M (m ^^^ x) M (m ^^^ y), xor4 m x m y, Nat.xor_self, Nat.xor_self, Nat.zero_xor, Nat.zero_xor]
  simp only [Nat.xor_assoc]
  rw [xor_left y M, xor_left x M, xor_left y m, xor_left x m]

end Go.Proofs.Ytmogihffkglieaa.Sm
