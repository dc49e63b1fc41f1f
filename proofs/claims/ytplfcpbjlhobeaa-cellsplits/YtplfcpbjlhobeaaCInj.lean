/-
  A PAGE IS THE PAGE OF ONE NODE ALONE. No program here.
-/
import Derived.Test.YtplfcpbjlhobeaaCMath
namespace Go.Proofs.Ytplfcpbjlhobeaa.Cm

theorem two_inj {k j : Int} {a b : List UInt8} (hk : KidOk k) (hj : KidOk j) (h : two k ++ a = two j ++ b) : k = j ∧ a = b := by
  unfold KidOk at hk hj
  simp only [two, List.cons_append, List.nil_append, List.cons.injEq] at h
  obtain ⟨h1, h2, h3⟩ := h
  have e1 := congrArg UInt8.toNat h1
  have e2 := congrArg UInt8.toNat h2
  rw [Wm.ofNat_toNat (by omega), Wm.ofNat_toNat (by omega)] at e1 e2
  exact ⟨by omega, h3⟩
theorem bytes_eq {s t : ByteArray} (h : s.data.toList = t.data.toList) : s = t := ByteArray.ext (Array.toList_inj.1 h)
theorem bytes_len (s : ByteArray) : s.data.toList.length = s.size := by rw [Array.length_toList]; rfl
theorem empty_of {s t : ByteArray} (h : s.size = 0) (k : t.size = 0) : s = t := by
  apply bytes_eq
  rw [List.eq_nil_of_length_eq_zero ((bytes_len s).trans h), List.eq_nil_of_length_eq_zero ((bytes_len t).trans k)]

/-- the parts, item by item -/
def partsR (leaf : Bool) : List It → List Int → List UInt8
  | [], _ => []
  | x :: r, ks => part leaf (ks.headD 0) x ++ partsR leaf r ks.tail
theorem partsR_eq (leaf : Bool) : ∀ (l : List It) (ks : List Int), ((List.range l.length).flatMap fun i => part leaf (ks.getD i 0) (l.getD i zero)) = partsR leaf l ks := by
  intro l
  induction l with
  | nil => intro ks; rfl
  | cons x r ih =>
    intro ks
    rw [List.length_cons, List.range_succ_eq_map, List.flatMap_cons, List.flatMap_map]
    show _ = part leaf (ks.headD 0) x ++ partsR leaf r ks.tail
    rw [← ih ks.tail]
    congr 1
    · cases ks <;> rfl
    · congr 1
      funext i
      cases ks <;> rfl
theorem parts_eq (n : Nd) : parts n n.items.length = partsR n.leaf n.items (n.kids.drop 1) := by
  rw [← partsR_eq]
  unfold parts
  congr 1
  funext i
  cases n.kids <;> rfl

theorem part_leaf_inj {x y : It} {k j : Int} {a b : List UInt8} (kx : OkK x.key) (ky : OkK y.key) (hx : OkI true x) (hy : OkI true y) (h : part true k x ++ a = part true j y ++ b) : x = y ∧ a = b := by
  unfold OkK at kx ky
  unfold part at h
  rw [if_neg (show ¬ (true = false) by simp), if_neg (show ¬ (true = false) by simp), List.append_assoc, List.append_assoc] at h
  obtain ⟨hk, h'⟩ := Wm.putT_inj (s := x.key.data.toList) (t := y.key.data.toList) (by rw [bytes_len]; omega) (by rw [bytes_len]; omega) h
  have ek := bytes_eq hk
  unfold OkI at hx hy
  rw [if_pos rfl] at hx hy
  unfold Inline Chain at hx hy
  by_cases px : 0 < x.page
  · rw [if_pos px] at h'
    by_cases py : 0 < y.page
    · rw [if_pos py, List.append_assoc, List.append_assoc] at h'
      obtain ⟨e1, h2⟩ := Wm.putU_inj (by omega) (by omega) h'
      obtain ⟨e2, e3⟩ := two_inj (k := x.page) (j := y.page) (by unfold KidOk; omega) (by unfold KidOk; omega) h2
      exact ⟨It.ext' ek (empty_of (by omega) (by omega)) e2 (by omega), e3⟩
    · rw [if_neg py, List.append_assoc, List.append_assoc] at h'
      obtain ⟨e1, _⟩ := Wm.putU_inj (by omega) (by omega) h'
      omega
  · rw [if_neg px] at h'
    by_cases py : 0 < y.page
    · rw [if_pos py, List.append_assoc, List.append_assoc] at h'
      obtain ⟨e1, _⟩ := Wm.putU_inj (by omega) (by omega) h'
      omega
    · rw [if_neg py, List.append_assoc, List.append_assoc] at h'
      obtain ⟨e1, h2⟩ := Wm.putU_inj (by omega) (by omega) h'
      obtain ⟨e2, e3⟩ := List.append_inj h2 (by rw [bytes_len, bytes_len]; omega)
      exact ⟨It.ext' ek (bytes_eq e2) (by omega) (by omega), e3⟩
theorem part_inner_inj {x y : It} {k j : Int} {a b : List UInt8} (kx : OkK x.key) (ky : OkK y.key) (hx : OkI false x) (hy : OkI false y) (hk : KidOk k) (hj : KidOk j) (h : part false k x ++ a = part false j y ++ b) : x = y ∧ k = j ∧ a = b := by
  unfold OkK at kx ky
  unfold part at h
  rw [if_pos rfl, if_pos rfl, List.append_assoc, List.append_assoc] at h
  obtain ⟨h1, h'⟩ := Wm.putT_inj (s := x.key.data.toList) (t := y.key.data.toList) (by rw [bytes_len]; omega) (by rw [bytes_len]; omega) h
  obtain ⟨e2, e3⟩ := two_inj hk hj h'
  unfold OkI at hx hy
  rw [if_neg (by simp)] at hx hy
  unfold Bare at hx hy
  exact ⟨It.ext' (bytes_eq h1) (empty_of hx.1 hy.1) (by omega) (by omega), e2, e3⟩

theorem partsR_leaf_inj : ∀ (l m : List It) (ks js : List Int) (a b : List UInt8), l.length = m.length → (∀ x ∈ l, OkK x.key ∧ OkI true x) → (∀ x ∈ m, OkK x.key ∧ OkI true x) → partsR true l ks ++ a = partsR true m js ++ b → l = m ∧ a = b := by
  intro l
  induction l with
  | nil =>
    intro m ks js a b hl _ _ h
    cases m with
    | nil => exact ⟨rfl, h⟩
    | cons _ _ => simp at hl
  | cons x r ih =>
    intro m ks js a b hl h1 h2 h
    cases m with
    | nil => simp at hl
    | cons y s =>
      simp only [partsR, List.append_assoc] at h
      obtain ⟨e, h'⟩ := part_leaf_inj (h1 x (by simp)).1 (h2 y (by simp)).1 (h1 x (by simp)).2 (h2 y (by simp)).2 h
      obtain ⟨e2, e3⟩ := ih s _ _ a b (by simpa using hl) (fun z hz => h1 z (by simp [hz])) (fun z hz => h2 z (by simp [hz])) h'
      exact ⟨by rw [e, e2], e3⟩
theorem partsR_inner_inj : ∀ (l m : List It) (ks js : List Int) (a b : List UInt8), l.length = m.length → ks.length = l.length → js.length = m.length → (∀ x ∈ l, OkK x.key ∧ OkI false x) → (∀ x ∈ m, OkK x.key ∧ OkI false x) → (∀ k ∈ ks, KidOk k) → (∀ k ∈ js, KidOk k) →
    partsR false l ks ++ a = partsR false m js ++ b → l = m ∧ ks = js ∧ a = b := by
  intro l
  induction l with
  | nil =>
    intro m ks js a b hl hk hj _ _ _ _ h
    cases m with
    | nil =>
      have e1 : ks = [] := List.eq_nil_of_length_eq_zero hk
      have e2 : js = [] := List.eq_nil_of_length_eq_zero hj
      exact ⟨rfl, by rw [e1, e2], h⟩
    | cons _ _ => simp at hl
  | cons x r ih =>
    intro m ks js a b hl hk hj h1 h2 h3 h4 h
    cases m with
    | nil => simp at hl
    | cons y s =>
      cases ks with
      | nil => simp at hk
      | cons k kr =>
        cases js with
        | nil => simp at hj
        | cons j jr =>
          simp only [partsR, List.append_assoc, List.headD_cons, List.tail_cons] at h
          obtain ⟨e, ek, h'⟩ := part_inner_inj (h1 x (by simp)).1 (h2 y (by simp)).1 (h1 x (by simp)).2 (h2 y (by simp)).2 (h3 k (by simp)) (h4 j (by simp)) h
          obtain ⟨e2, e3, e4⟩ := ih s kr jr a b (by simpa using hl) (by simpa using hk) (by simpa using hj) (fun z hz => h1 z (by simp [hz])) (fun z hz => h2 z (by simp [hz])) (fun z hz => h3 z (by simp [hz])) (fun z hz => h4 z (by simp [hz])) h'
          exact ⟨by rw [e, e2], by rw [ek, e3], e4⟩

theorem right_items {n : Nd} (h : Right n) : ∀ x ∈ n.items, OkK x.key ∧ OkI n.leaf x := by
  intro x hx
  obtain ⟨i, hi, rfl⟩ := List.mem_iff_getElem.1 hx
  have := h.1 i hi
  unfold OkAt at this
  have e : n.items.getD i zero = n.items[i] := by simp [List.getD, List.getElem?_eq_getElem hi]
  rw [e] at this
  exact ⟨this.1, this.2.2⟩

/-- unlike nodes have unlike forms, whatever stands behind them -/
theorem form_inj {n m : Nd} {a b : List UInt8} (hn : Right n) (hm : Right m) (ln : n.items.length < 18446744073709551616) (lm : m.items.length < 18446744073709551616) (h : form n ++ a = form m ++ b) : n = m ∧ a = b := by
  have in1 := right_items hn
  have in2 := right_items hm
  have kn := hn.2
  have km := hm.2
  unfold form head at h
  rw [parts_eq, parts_eq] at h
  cases hnl : n.leaf with
  | true =>
    rw [hnl] at h in1 kn
    rw [if_pos rfl] at kn
    cases hml : m.leaf with
    | true =>
      rw [hml] at h in2 km
      rw [if_pos rfl] at km
      simp only [if_true, List.append_nil, List.append_assoc, List.cons_append, List.nil_append, List.cons.injEq, true_and] at h
      obtain ⟨e1, h2⟩ := Wm.putU_inj ln lm h
      obtain ⟨e2, e3⟩ := partsR_leaf_inj _ _ _ _ _ _ e1 in1 in2 h2
      exact ⟨Nd.ext' (hnl.trans hml.symm) e2 (by rw [kn, km]), e3⟩
    | false =>
      rw [hml] at h
      simp at h
  | false =>
    rw [hnl] at h in1 kn
    rw [if_neg (by simp)] at kn
    cases hml : m.leaf with
    | true =>
      rw [hml] at h
      simp at h
    | false =>
      rw [hml] at h in2 km
      rw [if_neg (by simp)] at km
      simp only [Bool.false_eq_true, if_false, List.append_assoc, List.cons_append, List.nil_append, List.cons.injEq, true_and] at h
      obtain ⟨e1, h2⟩ := Wm.putU_inj ln lm h
      obtain ⟨k1, _, k3⟩ := kn
      obtain ⟨j1, _, j3⟩ := km
      cases hks : n.kids with
      | nil => rw [hks] at k3; simp at k3
      | cons k kr =>
        cases hjs : m.kids with
        | nil => rw [hjs] at j3; simp at j3
        | cons j jr =>
          rw [hks] at h2 k1 k3
          rw [hjs] at h2 j1 j3
          simp only [List.getD, List.getElem?_cons_zero, Option.getD_some, List.drop_succ_cons, List.drop_zero] at h2
          obtain ⟨e2, h3⟩ := two_inj (k1 k (by simp)) (j1 j (by simp)) h2
          obtain ⟨e3, e4, e5⟩ := partsR_inner_inj _ _ _ _ _ _ e1 (by simpa using k3) (by simpa using j3) in1 in2 (fun z hz => k1 z (by simp [hz])) (fun z hz => j1 z (by simp [hz])) h3
          exact ⟨Nd.ext' (hnl.trans hml.symm) e3 (by rw [hks, hjs, e2, e4]), e5⟩
theorem page_inj {n m : Nd} (hn : Right n) (hm : Right m) (ln : n.items.length < 18446744073709551616) (lm : m.items.length < 18446744073709551616) (h : page n = page m) : n = m := (form_inj hn hm ln lm h).1

end Go.Proofs.Ytplfcpbjlhobeaa.Cm
