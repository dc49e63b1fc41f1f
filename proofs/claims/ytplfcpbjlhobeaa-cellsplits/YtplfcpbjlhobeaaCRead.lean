/-
  READING A NODE OUT OF BYTES: what is read is the node whose page they are, or they are no page. No program here.
-/
import Derived.Test.YtplfcpbjlhobeaaCInj
import Derived.Test.YtplfcpbjlhobeaaBytes
namespace Go.Proofs.Ytplfcpbjlhobeaa.Cm

def rnum (r : List UInt8) (most : Nat) : Option (Nat × List UInt8) :=
  match Wm.getU 0 r with
  | .none => .none
  | some (n, c) => if n ≤ most then some (n, r.drop c) else .none
def rbytes (r : List UInt8) (n : Nat) : Option (List UInt8 × List UInt8) := if n ≤ r.length then some (r.take n, r.drop n) else .none
def rtext (r : List UInt8) (most : Nat) : Option (List UInt8 × List UInt8) :=
  match rnum r most with
  | .none => .none
  | some (n, r1) => rbytes r1 n
def pageOf (l : List UInt8) : Int := ((l.getD 0 0).toNat : Int) + 256 * ((l.getD 1 0).toNat : Int)
def rpage (r : List UInt8) : Option (Int × List UInt8) :=
  match rbytes r 2 with
  | .none => .none
  | some (l, r1) => some (pageOf l, r1)
/-- a value, or where its chain begins and how long it is -/
def rval (r : List UInt8) : Option ((List UInt8 × Int × Int) × List UInt8) :=
  match rnum r 9217 with
  | .none => .none
  | some (n, r1) =>
    if n % 2 = 0 then
      match rbytes r1 (n / 2) with
      | .none => .none
      | some (l, r2) => some ((l, 0, 0), r2)
    else
      match rpage r1 with
      | .none => .none
      | some (p, r2) => if p = 0 then .none else some (([], p, ((n / 2 : Nat) : Int)), r2)
/-- an item, and the kid behind it -/
def ritem (leaf : Bool) (r : List UInt8) : Option (It × Int × List UInt8) :=
  match rtext r 64 with
  | .none => .none
  | some (t, r1) =>
    if leaf = true then
      match rval r1 with
      | .none => .none
      | some ((v, p, n), r2) => some (⟨str t, str v, p, n⟩, 0, r2)
    else
      match rpage r1 with
      | .none => .none
      | some (k, r2) => some (⟨str t, .empty, 0, 0⟩, k, r2)
def ritems (leaf : Bool) (r : List UInt8) : Nat → Option (List It × List Int × List UInt8)
  | 0 => some ([], [], r)
  | k + 1 =>
    match ritems leaf r k with
    | .none => .none
    | some (l, ks, r1) =>
      match ritem leaf r1 with
      | .none => .none
      | some (x, kid, r2) => some (l ++ [x], if leaf = true then ks else ks ++ [kid], r2)
theorem ritems_none (leaf : Bool) (r : List UInt8) {k : Nat} (h : ritems leaf r k = .none) : ∀ j, k ≤ j → ritems leaf r j = .none := by
  intro j
  induction j with
  | zero => intro hj; obtain rfl : k = 0 := by omega
            exact h
  | succ j ih =>
    intro hj
    by_cases e : k = j + 1
    · subst e; exact h
    · rw [ritems, ih (by omega)]
def noughtsB (r : List UInt8) : Bool := r.all fun b => b == 0
/-- the node that bytes say -/
def rd (b : List UInt8) : Option Nd :=
  match rnum b 2 with
  | .none => .none
  | some (kind, r1) =>
    match rnum r1 240 with
    | .none => .none
    | some (count, r2) =>
      if kind = 1 then
        match ritems true r2 count with
        | .none => .none
        | some (l, _, r3) => if noughtsB r3 = true then some ⟨true, l, []⟩ else .none
      else if kind = 2 then
        match rpage r2 with
        | .none => .none
        | some (k0, r3) =>
          match ritems false r3 count with
          | .none => .none
          | some (l, ks, r4) => if noughtsB r4 = true then some ⟨false, l, k0 :: ks⟩ else .none
      else .none

theorem rnum_put {n most : Nat} (r : List UInt8) (h : n ≤ most) (hm : most < 18446744073709551616) : rnum (Wm.putU n ++ r) most = some (n, r) := by
  unfold rnum
  rw [Wm.get_put n r (by omega)]
  simp [h]
theorem rnum_some {r r1 : List UInt8} {n most : Nat} (h : rnum r most = some (n, r1)) : n ≤ most ∧ r = Wm.putU n ++ r1 := by
  unfold rnum at h
  cases hg : Wm.getU 0 r with
  | none => rw [hg] at h; simp at h
  | some q =>
    obtain ⟨m, c⟩ := q
    rw [hg] at h
    simp only at h
    by_cases hm : m ≤ most
    · rw [if_pos hm] at h
      simp only [Option.some.injEq, Prod.mk.injEq] at h
      obtain ⟨rfl, rfl⟩ := h
      have := (Wm.put_get hg).2.2.2
      exact ⟨hm, by rw [← this, List.take_append_drop]⟩
    · rw [if_neg hm] at h; simp at h
theorem rbytes_put {n : Nat} (l r : List UInt8) (h : l.length = n) : rbytes (l ++ r) n = some (l, r) := by
  subst h
  unfold rbytes
  rw [if_pos (by simp)]
  simp
theorem rbytes_some {r l r1 : List UInt8} {n : Nat} (h : rbytes r n = some (l, r1)) : l.length = n ∧ r = l ++ r1 := by
  unfold rbytes at h
  by_cases hn : n ≤ r.length
  · rw [if_pos hn] at h
    simp only [Option.some.injEq, Prod.mk.injEq] at h
    obtain ⟨rfl, rfl⟩ := h
    exact ⟨by simp; omega, by simp⟩
  · rw [if_neg hn] at h; simp at h
theorem rtext_put {most : Nat} (l r : List UInt8) (h : l.length ≤ most) (hm : most < 18446744073709551616) : rtext (Wm.putT l ++ r) most = some (l, r) := by
  unfold rtext Wm.putT
  rw [List.append_assoc, rnum_put _ h hm]
  exact rbytes_put l r rfl
theorem rtext_some {r l r1 : List UInt8} {most : Nat} (h : rtext r most = some (l, r1)) : l.length ≤ most ∧ r = Wm.putT l ++ r1 := by
  unfold rtext at h
  cases hg : rnum r most with
  | none => rw [hg] at h; simp at h
  | some q =>
    obtain ⟨n, r2⟩ := q
    rw [hg] at h
    simp only at h
    obtain ⟨h1, h2⟩ := rnum_some hg
    obtain ⟨h3, h4⟩ := rbytes_some h
    subst h3
    exact ⟨h1, by rw [h2, h4, Wm.putT, List.append_assoc]⟩
theorem pageOf_two {k : Int} (h0 : 0 ≤ k) (h : k ≤ 65535) : pageOf (two k) = k := by
  unfold pageOf two
  simp only [List.getD_cons_zero, List.getD_cons_succ]
  rw [Wm.ofNat_toNat (by omega), Wm.ofNat_toNat (by omega)]
  omega
theorem two_pageOf {l : List UInt8} (h : l.length = 2) : two (pageOf l) = l := by
  match l, h with
  | [a, b], _ =>
    have ha := a.toNat_lt
    have hb := b.toNat_lt
    unfold pageOf two
    simp only [List.getD_cons_zero, List.getD_cons_succ]
    have e : ((a.toNat : Int) + 256 * (b.toNat : Int)).toNat = a.toNat + 256 * b.toNat := by omega
    rw [e]
    have e1 : (a.toNat + 256 * b.toNat) % 256 = a.toNat := by omega
    have e2 : (a.toNat + 256 * b.toNat) / 256 = b.toNat := by omega
    rw [e1, e2]
    simp
theorem pageOf_range (l : List UInt8) : 0 ≤ pageOf l ∧ pageOf l ≤ 65535 := by
  have ha := (l.getD 0 0).toNat_lt
  have hb := (l.getD 1 0).toNat_lt
  unfold pageOf
  omega
theorem rpage_put {k : Int} (r : List UInt8) (h : KidOk k) : rpage (two k ++ r) = some (k, r) := by
  unfold KidOk at h
  unfold rpage
  rw [rbytes_put (n := 2) (two k) r (two_length k)]
  simp only
  rw [pageOf_two (by omega) h.2]
theorem rpage_some {r r1 : List UInt8} {k : Int} (h : rpage r = some (k, r1)) : r = two k ++ r1 ∧ 0 ≤ k ∧ k ≤ 65535 := by
  unfold rpage at h
  cases hg : rbytes r 2 with
  | none => rw [hg] at h; simp at h
  | some q =>
    obtain ⟨l, r2⟩ := q
    rw [hg] at h
    simp only [Option.some.injEq, Prod.mk.injEq] at h
    obtain ⟨rfl, rfl⟩ := h
    obtain ⟨h3, h4⟩ := rbytes_some hg
    exact ⟨by rw [two_pageOf h3, h4], pageOf_range l⟩

theorem ritem_put (leaf : Bool) {x : It} {kid : Int} (r : List UInt8) (hk : OkK x.key) (hi : OkI leaf x) (hd : leaf = false → KidOk kid) :
    ritem leaf (part leaf kid x ++ r) = some (x, if leaf = true then 0 else kid, r) := by
  unfold OkK at hk
  unfold ritem part
  rw [List.append_assoc, rtext_put _ _ (by rw [bytes_len]; omega) (by omega)]
  simp only [str_of]
  cases leaf with
  | false =>
    unfold OkI Bare at hi
    simp only [Bool.false_eq_true, if_false] at hi
    simp only [if_true, Bool.false_eq_true, if_false]
    rw [rpage_put r (hd rfl)]
    simp only [Option.some.injEq, Prod.mk.injEq, and_true]
    exact It.ext' rfl (empty_of rfl hi.1) hi.2.1.symm hi.2.2.symm
  | true =>
    unfold OkI Inline Chain at hi
    simp only [if_true] at hi
    simp only [Bool.true_eq_false, if_false, if_true]
    unfold rval
    by_cases hp : 0 < x.page
    · rw [if_pos hp, List.append_assoc, rnum_put _ (by omega) (by omega)]
      simp only
      rw [if_neg (by omega), rpage_put r (by unfold KidOk; omega)]
      simp only
      rw [if_neg (by omega)]
      simp only [Option.some.injEq, Prod.mk.injEq, and_true]
      exact It.ext' rfl (empty_of rfl (by omega)) rfl (by simp only; omega)
    · rw [if_neg hp, List.append_assoc, rnum_put _ (by omega) (by omega)]
      simp only
      rw [if_pos (by omega), rbytes_put x.val.data.toList r (by rw [bytes_len]; omega)]
      simp only [Option.some.injEq, Prod.mk.injEq, and_true]
      exact It.ext' rfl (str_of x.val) (by simp only; omega) (by simp only; omega)
theorem ritem_some {leaf : Bool} {r r1 : List UInt8} {x : It} {kid : Int} (h : ritem leaf r = some (x, kid, r1)) : r = part leaf kid x ++ r1 := by
  unfold ritem at h
  cases hg : rtext r 64 with
  | none => rw [hg] at h; simp at h
  | some q =>
    obtain ⟨t, r2⟩ := q
    rw [hg] at h
    simp only at h
    obtain ⟨h1, h2⟩ := rtext_some hg
    unfold part
    cases leaf with
    | false =>
      simp only [Bool.false_eq_true, if_false] at h
      cases hp : rpage r2 with
      | none => rw [hp] at h; simp at h
      | some q =>
        obtain ⟨k, r3⟩ := q
        rw [hp] at h
        simp only [Option.some.injEq, Prod.mk.injEq] at h
        obtain ⟨rfl, rfl, rfl⟩ := h
        simp only [if_true, str_toList]
        rw [h2, (rpage_some hp).1, List.append_assoc]
    | true =>
      simp only [if_true] at h
      cases hv : rval r2 with
      | none => rw [hv] at h; simp at h
      | some q =>
        obtain ⟨⟨v, p, n⟩, r3⟩ := q
        rw [hv] at h
        simp only [Option.some.injEq, Prod.mk.injEq] at h
        obtain ⟨rfl, rfl, rfl⟩ := h
        simp only [Bool.true_eq_false, if_false, str_toList, str_size]
        rw [h2, List.append_assoc]
        congr 1
        unfold rval at hv
        cases hn : rnum r2 9217 with
        | none => rw [hn] at hv; simp at hv
        | some q =>
          obtain ⟨m, r4⟩ := q
          rw [hn] at hv
          simp only at hv
          obtain ⟨h3, h4⟩ := rnum_some hn
          by_cases hm : m % 2 = 0
          · rw [if_pos hm] at hv
            cases hb : rbytes r4 (m / 2) with
            | none => rw [hb] at hv; simp at hv
            | some q =>
              obtain ⟨l, r5⟩ := q
              rw [hb] at hv
              simp only [Option.some.injEq, Prod.mk.injEq] at hv
              obtain ⟨⟨rfl, rfl, rfl⟩, rfl⟩ := hv
              obtain ⟨h5, h6⟩ := rbytes_some hb
              rw [if_neg (by omega), h4, h6, h5, List.append_assoc]
              congr 2
              omega
          · rw [if_neg hm] at hv
            cases hb : rpage r4 with
            | none => rw [hb] at hv; simp at hv
            | some q =>
              obtain ⟨k, r5⟩ := q
              rw [hb] at hv
              simp only at hv
              by_cases hk : k = 0
              · rw [if_pos hk] at hv; simp at hv
              · rw [if_neg hk] at hv
                simp only [Option.some.injEq, Prod.mk.injEq] at hv
                obtain ⟨⟨rfl, rfl, rfl⟩, rfl⟩ := hv
                obtain ⟨h5, h6, h7⟩ := rpage_some hb
                rw [if_pos (by omega), h4, h5, List.append_assoc]
                congr 2
                omega

theorem partsR_snoc_inner : ∀ (l : List It) (ks : List Int) (x : It) (k : Int), ks.length = l.length → partsR false (l ++ [x]) (ks ++ [k]) = partsR false l ks ++ part false k x := by
  intro l
  induction l with
  | nil =>
    intro ks x k h
    have e1 : ks = [] := List.eq_nil_of_length_eq_zero h
    subst e1
    simp [partsR]
  | cons y r ih =>
    intro ks x k h
    cases ks with
    | nil => simp at h
    | cons j jr =>
      simp only [List.cons_append, partsR, List.headD_cons, List.tail_cons, List.append_assoc]
      rw [ih jr x k (by simpa using h)]
theorem part_leaf (k j : Int) (x : It) : part true k x = part true j x := by
  unfold part
  simp
theorem partsR_leaf : ∀ (l : List It) (ks js : List Int), partsR true l ks = partsR true l js := by
  intro l
  induction l with
  | nil => intro _ _; rfl
  | cons x r ih =>
    intro ks js
    simp only [partsR]
    rw [ih ks.tail js.tail, part_leaf (ks.headD 0) (js.headD 0)]
theorem partsR_snoc_leaf : ∀ (l : List It) (x : It), partsR true (l ++ [x]) [] = partsR true l [] ++ part true 0 x := by
  intro l
  induction l with
  | nil => intro x; simp [partsR]
  | cons y r ih =>
    intro x
    simp only [List.cons_append, partsR, List.append_assoc, List.tail_nil]
    rw [ih x]
theorem ritems_some {leaf : Bool} {r : List UInt8} : ∀ {k : Nat} {l : List It} {ks : List Int} {r1 : List UInt8}, ritems leaf r k = some (l, ks, r1) → l.length = k ∧ (ks.length = if leaf = true then 0 else k) ∧ r = partsR leaf l ks ++ r1 := by
  intro k
  induction k with
  | zero =>
    intro l ks r1 h
    simp only [ritems, Option.some.injEq, Prod.mk.injEq] at h
    obtain ⟨rfl, rfl, rfl⟩ := h
    simp [partsR]
  | succ k ih =>
    intro l ks r1 h
    rw [ritems] at h
    cases hg : ritems leaf r k with
    | none => rw [hg] at h; simp at h
    | some q =>
      obtain ⟨l0, ks0, r0⟩ := q
      rw [hg] at h
      simp only at h
      obtain ⟨h1, h2, h3⟩ := ih hg
      cases hi : ritem leaf r0 with
      | none => rw [hi] at h; simp at h
      | some q =>
        obtain ⟨x, kid, r2⟩ := q
        rw [hi] at h
        simp only [Option.some.injEq, Prod.mk.injEq] at h
        obtain ⟨rfl, rfl, rfl⟩ := h
        have h4 := ritem_some hi
        cases leaf with
        | true =>
          simp only [if_true] at h2 ⊢
          have e0 : ks0 = [] := List.eq_nil_of_length_eq_zero h2
          subst e0
          refine ⟨by simp [h1], by simp, ?_⟩
          rw [h3, h4, partsR_snoc_leaf, List.append_assoc, part_leaf kid 0]
        | false =>
          simp only [Bool.false_eq_true, if_false] at h2 ⊢
          refine ⟨by simp [h1], by simp [h2], ?_⟩
          rw [h3, h4, partsR_snoc_inner _ _ _ _ (by omega), List.append_assoc]
theorem ritems_put_leaf (r : List UInt8) (l : List It) (h : ∀ x ∈ l, OkK x.key ∧ OkI true x) : ∀ k, k ≤ l.length → ritems true (partsR true l [] ++ r) k = some (l.take k, [], partsR true (l.drop k) [] ++ r) := by
  intro k
  induction k with
  | zero => intro _; simp [ritems]
  | succ k ih =>
    intro hk
    rw [ritems, ih (by omega)]
    simp only
    rw [List.drop_eq_getElem_cons (by omega : k < l.length)]
    simp only [partsR, List.append_assoc, List.headD_nil, List.tail_nil]
    have hm := h l[k] (List.getElem_mem _)
    rw [ritem_put true _ hm.1 hm.2 (by simp)]
    simp only [if_true, Option.some.injEq, Prod.mk.injEq, and_true]
    rw [List.take_succ_eq_append_getElem (by omega)]
theorem ritems_put_inner (r : List UInt8) (l : List It) (ks : List Int) (hl : ks.length = l.length) (h : ∀ x ∈ l, OkK x.key ∧ OkI false x) (hd : ∀ k ∈ ks, KidOk k) :
    ∀ k, k ≤ l.length → ritems false (partsR false l ks ++ r) k = some (l.take k, ks.take k, partsR false (l.drop k) (ks.drop k) ++ r) := by
  intro k
  induction k with
  | zero => intro _; simp [ritems]
  | succ k ih =>
    intro hk
    rw [ritems, ih (by omega)]
    simp only
    rw [List.drop_eq_getElem_cons (by omega : k < l.length), List.drop_eq_getElem_cons (by omega : k < ks.length)]
    simp only [partsR, List.append_assoc, List.headD_cons, List.tail_cons]
    have hm := h l[k] (List.getElem_mem _)
    rw [ritem_put false _ hm.1 hm.2 (fun _ => hd _ (List.getElem_mem _))]
    simp only [Bool.false_eq_true, if_false, Option.some.injEq, Prod.mk.injEq, and_true]
    rw [List.take_succ_eq_append_getElem (by omega), List.take_succ_eq_append_getElem (by omega)]
    exact ⟨rfl, rfl⟩

theorem noughtsB_eq {r : List UInt8} (h : noughtsB r = true) : r = List.replicate r.length 0 := by
  unfold noughtsB at h
  rw [List.all_eq_true] at h
  exact List.eq_replicate_iff.2 ⟨rfl, fun b hb => by simpa using h b hb⟩
theorem noughtsB_rep (n : Nat) : noughtsB (List.replicate n 0) = true := by
  unfold noughtsB
  simp
theorem part_pos (leaf : Bool) (kid : Int) (x : It) : 1 ≤ (part leaf kid x).length := by
  have := (Wm.putU_length x.key.data.toList.length).1
  unfold part Wm.putT
  simp only [List.length_append]
  omega
theorem partsR_pos (leaf : Bool) : ∀ (l : List It) (ks : List Int), l.length ≤ (partsR leaf l ks).length := by
  intro l
  induction l with
  | nil => intro _; simp
  | cons x r ih =>
    intro ks
    have h1 := ih ks.tail
    have h2 := part_pos leaf (ks.headD 0) x
    simp only [partsR, List.length_append, List.length_cons]
    omega
theorem few_items (n : Nd) : n.items.length ≤ (form n).length := by
  unfold form
  rw [parts_eq, List.length_append]
  have := partsR_pos n.leaf n.items (n.kids.drop 1)
  omega

/-- what is read of a page is its node -/
theorem rd_page {n : Nd} (hn : Right n) (hf : (form n).length ≤ 240) : rd (page n) = some n := by
  have hfew := few_items n
  have hit := right_items hn
  have hk := hn.2
  unfold rd page
  generalize hz : List.replicate (240 - (form n).length) (0 : UInt8) = z
  have hzz : noughtsB z = true := by rw [← hz]; exact noughtsB_rep _
  clear hz
  unfold form head
  rw [parts_eq]
  have hp1 : ([1] : List UInt8) = Wm.putU 1 := by decide
  have hp2 : ([2] : List UInt8) = Wm.putU 2 := by decide
  cases hl : n.leaf with
  | true =>
    rw [hl] at hit hk
    simp only [if_true] at hk
    simp only [if_true, List.append_nil, List.append_assoc]
    rw [hp1, rnum_put _ (by omega) (by omega)]
    simp only
    rw [rnum_put _ (by omega) (by omega)]
    simp only [if_true]
    rw [hk, List.drop_nil, ritems_put_leaf z n.items hit _ (Nat.le_refl _)]
    simp only [List.drop_length, partsR, List.nil_append, List.take_length]
    rw [if_pos hzz]
    exact congrArg some (Nd.ext' hl.symm rfl hk.symm)
  | false =>
    rw [hl] at hit hk
    simp only [Bool.false_eq_true, if_false] at hk
    obtain ⟨k1, k2, k3⟩ := hk
    simp only [Bool.false_eq_true, if_false, List.append_assoc]
    rw [hp2, rnum_put _ (by omega) (by omega)]
    simp only
    rw [rnum_put _ (by omega) (by omega)]
    simp only [if_true, show ¬ (2 : Nat) = 1 by omega, if_false]
    cases hks : n.kids with
    | nil => rw [hks] at k3; simp at k3
    | cons k kr =>
      rw [hks] at k1 k3
      simp only [List.getD_cons_zero, List.drop_succ_cons, List.drop_zero]
      rw [rpage_put _ (k1 k (by simp))]
      simp only
      rw [ritems_put_inner z n.items kr (by simpa using k3) hit (fun j hj => k1 j (by simp [hj])) _ (Nat.le_refl _)]
      have hkl : kr.length = n.items.length := by simpa using k3
      simp only [List.drop_length, partsR, List.nil_append, List.take_length]
      rw [if_pos hzz, ← hkl, List.take_length]
      exact congrArg some (Nd.ext' hl.symm rfl hks.symm)
/-- of what is read the bytes are the form, and noughts behind it -/
theorem page_rd {b : List UInt8} {n : Nd} (hb : b.length = 240) (h : rd b = some n) : (form n).length ≤ 240 ∧ page n = b := by
  have hp1 : ([1] : List UInt8) = Wm.putU 1 := by decide
  have hp2 : ([2] : List UInt8) = Wm.putU 2 := by decide
  suffices hs : ∃ z, noughtsB z = true ∧ b = form n ++ z by
    obtain ⟨z, hz, he⟩ := hs
    have hl := congrArg List.length he
    rw [List.length_append, hb] at hl
    refine ⟨by omega, ?_⟩
    unfold page
    rw [he, noughtsB_eq hz]
    congr 2
    omega
  unfold rd at h
  cases h1 : rnum b 2 with
  | none => rw [h1] at h; simp at h
  | some q =>
    obtain ⟨kind, r1⟩ := q
    rw [h1] at h
    simp only at h
    obtain ⟨g1, g2⟩ := rnum_some h1
    cases h2 : rnum r1 240 with
    | none => rw [h2] at h; simp at h
    | some q =>
      obtain ⟨count, r2⟩ := q
      rw [h2] at h
      simp only at h
      obtain ⟨g3, g4⟩ := rnum_some h2
      by_cases hk1 : kind = 1
      · rw [if_pos hk1] at h
        cases h3 : ritems true r2 count with
        | none => rw [h3] at h; simp at h
        | some q =>
          obtain ⟨l, ks, r3⟩ := q
          rw [h3] at h
          simp only at h
          by_cases hz : noughtsB r3 = true
          · rw [if_pos hz] at h
            simp only [Option.some.injEq] at h
            subst h
            obtain ⟨e1, e2, e3⟩ := ritems_some h3
            refine ⟨r3, hz, ?_⟩
            unfold form head
            rw [parts_eq]
            simp only [if_true, List.append_nil, List.append_assoc, List.drop_nil]
            rw [g2, g4, e3, hk1, hp1, e1, partsR_leaf l ks []]
          · rw [if_neg hz] at h; simp at h
      · rw [if_neg hk1] at h
        by_cases hk2 : kind = 2
        · rw [if_pos hk2] at h
          cases h3 : rpage r2 with
          | none => rw [h3] at h; simp at h
          | some q =>
            obtain ⟨k0, r3⟩ := q
            rw [h3] at h
            simp only at h
            cases h4 : ritems false r3 count with
            | none => rw [h4] at h; simp at h
            | some q =>
              obtain ⟨l, ks, r4⟩ := q
              rw [h4] at h
              simp only at h
              by_cases hz : noughtsB r4 = true
              · rw [if_pos hz] at h
                simp only [Option.some.injEq] at h
                subst h
                obtain ⟨e1, e2, e3⟩ := ritems_some h4
                refine ⟨r4, hz, ?_⟩
                unfold form head
                rw [parts_eq]
                simp only [Bool.false_eq_true, if_false, List.append_assoc, List.getD_cons_zero, List.drop_succ_cons, List.drop_zero]
                rw [g2, g4, (rpage_some h3).1, e3, hk2, hp2, e1]
              · rw [if_neg hz] at h; simp at h
        · rw [if_neg hk2] at h; simp at h

/-- what Get answers: the node whose page the bytes are, if there is one -/
def got (b : List UInt8) : Option Nd :=
  if b.length = 240 then
    match rd b with
    | .none => .none
    | some n => if Right n then some n else .none
  else .none
theorem got_some {b : List UInt8} {n : Nd} (h : got b = some n) : Right n ∧ (form n).length ≤ 240 ∧ page n = b := by
  unfold got at h
  by_cases hb : b.length = 240
  · rw [if_pos hb] at h
    cases hr : rd b with
    | none => rw [hr] at h; simp at h
    | some m =>
      rw [hr] at h
      simp only at h
      by_cases hm : Right m
      · rw [if_pos hm] at h
        simp only [Option.some.injEq] at h
        subst h
        exact ⟨hm, page_rd hb hr⟩
      · rw [if_neg hm] at h; simp at h
  · rw [if_neg hb] at h; simp at h
theorem page_length {n : Nd} (hf : (form n).length ≤ 240) : (page n).length = 240 := by
  unfold page
  simp
  omega
theorem got_page {n : Nd} (hn : Right n) (hf : (form n).length ≤ 240) : got (page n) = some n := by
  unfold got
  rw [if_pos (page_length hf), rd_page hn hf]
  simp only
  rw [if_pos hn]

end Go.Proofs.Ytplfcpbjlhobeaa.Cm
