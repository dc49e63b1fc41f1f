/-
  TREES: what Since tells is what one has missed. No program here.
-/
import Derived.Test.YtifolddmcibkdaaTLaw
namespace Go.Proofs.Ytifolddmcibkdaa.Tm
open Ks

/-- a file of that path, without text -/
def mk (q : ByteArray) : Fl := ⟨q, .empty⟩
/-- paths that rise -/
def Up (l : List ByteArray) : Prop := l.Pairwise fun a b => kl a b = true
theorem up_rise {l : List ByteArray} : Rise (l.map mk) ↔ Up l := by
  unfold Rise Up
  rw [List.pairwise_map]
  rfl
theorem put_mk (l : List ByteArray) (p : ByteArray) : put (l.map mk) p .empty = (ins l p).map mk := by
  have hp : place (l.map mk) p = (l.takeWhile fun q => kl q p).length := by
    unfold place
    rw [List.takeWhile_map, List.length_map]
    rfl
  unfold put ins isIn
  rw [hp, List.length_map]
  generalize (l.takeWhile fun q => kl q p).length = i
  by_cases h : i < l.length
  · have e1 : ((l.map mk).getD i noFl).path = l.getD i .empty := by
      simp [List.getD, h, mk]
    rw [e1]
    by_cases h2 : l.getD i .empty = p
    · rw [if_pos (by rw [decide_eq_true h, decide_eq_true h2]; rfl), if_pos ⟨h, h2⟩]
      have e2 : l = l.take i ++ p :: l.drop (i + 1) := by
        have h3 : l[i] = p := by rw [← h2, List.getD_eq_getElem?_getD, List.getElem?_eq_getElem h]; rfl
        rw [← h3, ← List.drop_eq_getElem_cons h, List.take_append_drop]
      conv => rhs; rw [e2]
      simp [mk, List.map_take, List.map_drop]
    · rw [if_neg (by simpa [h] using h2), if_neg (fun hh => h2 hh.2)]
      simp [mk, List.map_take, List.map_drop]
  · rw [if_neg (by simp [h]), if_neg (fun hh => h hh.1)]
    simp [mk, List.map_take, List.map_drop]
theorem mem_mk {l : List ByteArray} {q : ByteArray} : mk q ∈ l.map mk ↔ q ∈ l := by
  simp [mk]
theorem ins_facts {l : List ByteArray} (h : Up l) (p : ByteArray) : Up (ins l p) ∧ ∀ q, q ∈ ins l p ↔ q = p ∨ q ∈ l := by
  obtain ⟨h1, h2, -⟩ := put_facts (up_rise.2 h) p .empty
  rw [put_mk] at h1 h2
  refine ⟨up_rise.1 h1, fun q => ?_⟩
  rw [← mem_mk, h2, mem_mk]
  constructor
  · rintro (e | ⟨h, -⟩)
    · exact .inl (by simpa [mk] using e)
    · exact .inr h
  · rintro (rfl | h)
    · exact .inl rfl
    · by_cases e : q = p
      · exact .inl (by rw [e]; rfl)
      · exact .inr ⟨h, e⟩
theorem told_facts : ∀ (xs l : List ByteArray), Up l → Up (xs.foldl ins l) ∧ ∀ q, q ∈ xs.foldl ins l ↔ q ∈ xs ∨ q ∈ l
  | [], l, h => ⟨h, fun q => by simp⟩
  | x :: xs, l, h => by
    obtain ⟨h1, h2⟩ := ins_facts h x
    obtain ⟨h3, h4⟩ := told_facts xs _ h1
    refine ⟨h3, fun q => ?_⟩
    rw [List.foldl_cons, h4, h2, List.mem_cons]
    constructor
    · rintro (h | h | h)
      · exact .inl (.inr h)
      · exact .inl (.inl h)
      · exact .inr h
    · rintro ((h | h) | h)
      · exact .inr (.inl h)
      · exact .inl h
      · exact .inr (.inr h)

/-- the text under a path -/
def look (l : List Fl) (p : ByteArray) : Option ByteArray := (l.find? fun f => decide (f.path = p)).map Fl.text
theorem look_none {l : List Fl} {p : ByteArray} : look l p = none ↔ ∀ s, (⟨p, s⟩ : Fl) ∉ l := by
  unfold look
  rw [Option.map_eq_none_iff, List.find?_eq_none]
  constructor
  · intro h s hs
    exact h _ hs (by simp)
  · rintro h ⟨q, s⟩ hf e
    obtain rfl : q = p := by simpa using e
    exact h s hf
theorem look_iff {l : List Fl} (hr : Rise l) {p s : ByteArray} : look l p = some s ↔ (⟨p, s⟩ : Fl) ∈ l := by
  constructor
  · intro h
    unfold look at h
    obtain ⟨⟨q, u⟩, h1, h2⟩ := Option.map_eq_some_iff.1 h
    obtain rfl : q = p := by simpa using List.find?_some h1
    obtain rfl : u = s := h2
    exact List.mem_of_find?_eq_some h1
  · intro h
    cases hl : look l p with
    | none => exact absurd h (look_none.1 hl s)
    | some u =>
      have hu : (⟨p, u⟩ : Fl) ∈ l := by
        unfold look at hl
        obtain ⟨⟨q, v⟩, h1, h2⟩ := Option.map_eq_some_iff.1 hl
        obtain rfl : q = p := by simpa using List.find?_some h1
        obtain rfl : v = u := h2
        exact List.mem_of_find?_eq_some h1
      rw [same_path hr hu h]
theorem look_ext {l m : List Fl} (hl : Rise l) (hm : Rise m) {p : ByteArray} (h : ∀ s, (⟨p, s⟩ : Fl) ∈ l ↔ (⟨p, s⟩ : Fl) ∈ m) : look l p = look m p := by
  apply Option.ext
  intro s
  rw [look_iff hl, look_iff hm, h]
theorem look_snoc {l : List Fl} {x : Fl} (h : look l x.path = none) : look (l ++ [x]) = fun q => if q = x.path then some x.text else look l q := by
  funext q
  by_cases e : q = x.path
  · subst e
    rw [if_pos rfl]
    unfold look at h ⊢
    rw [Option.map_eq_none_iff] at h
    rw [List.find?_append, h]
    simp
  · rw [if_neg e]
    unfold look
    rw [List.find?_append]
    have : ([x].find? fun f => decide (f.path = q)) = none := by
      rw [List.find?_eq_none]
      rintro y hy e2
      simp only [List.mem_singleton] at hy
      subst hy
      exact e (of_decide_eq_true e2).symm
    rw [this, Option.or_none]

/-- how many keys a finite map has -/
def Count (f : ByteArray → Option ByteArray) (n : Nat) : Prop := ∃ ks : List ByteArray, ks.Nodup ∧ (∀ x, x ∈ ks ↔ (f x).isSome = true) ∧ ks.length = n
theorem len_le : ∀ (a b : List ByteArray), a.Nodup → (∀ x ∈ a, x ∈ b) → a.length ≤ b.length
  | [], _, _, _ => Nat.zero_le _
  | x :: r, b, hn, h => by
    obtain ⟨hx, hn⟩ := List.nodup_cons.1 hn
    obtain ⟨u, v, rfl⟩ := List.append_of_mem (h x (by simp))
    have := len_le r (u ++ v) hn fun y hy => by
      have h1 := h y (by simp [hy])
      have h2 : y ≠ x := fun e => hx (by rw [← e]; exact hy)
      simpa [h2] using h1
    simp only [List.length_cons, List.length_append] at this ⊢
    omega
theorem Count.eq {f : ByteArray → Option ByteArray} {n m : Nat} (h : Count f n) (k : Count f m) : n = m := by
  obtain ⟨a, a1, a2, rfl⟩ := h
  obtain ⟨b, b1, b2, rfl⟩ := k
  exact Nat.le_antisymm (len_le a b a1 fun x hx => (b2 x).2 ((a2 x).1 hx)) (len_le b a b1 fun x hx => (a2 x).2 ((b2 x).1 hx))
theorem Count.none : Count (fun _ => none) 0 := ⟨[], List.nodup_nil, fun x => by simp, rfl⟩
theorem Count.put {f : ByteArray → Option ByteArray} {n : Nat} (h : Count f n) (p s : ByteArray) : Count (fun q => if q = p then some s else f q) (if (f p).isSome then n else n + 1) := by
  obtain ⟨a, a1, a2, rfl⟩ := h
  by_cases hp : (f p).isSome = true
  · refine ⟨a, a1, fun x => ?_, by rw [if_pos hp]⟩
    dsimp only
    by_cases e : x = p
    · subst e; rw [if_pos rfl, a2]; simp [hp]
    · rw [if_neg e, a2]
  · refine ⟨p :: a, List.nodup_cons.2 ⟨fun h => hp ((a2 p).1 h), a1⟩, fun x => ?_, by rw [if_neg hp]; rfl⟩
    dsimp only
    by_cases e : x = p
    · subst e; simp
    · rw [if_neg e, List.mem_cons, a2]; simp [e]
theorem Count.del {f : ByteArray → Option ByteArray} {n : Nat} (h : Count f n) (p : ByteArray) : Count (fun q => if q = p then Option.none else f q) (if (f p).isSome then n - 1 else n) := by
  obtain ⟨a, a1, a2, rfl⟩ := h
  by_cases hp : (f p).isSome = true
  · obtain ⟨u, v, rfl⟩ := List.append_of_mem ((a2 p).2 hp)
    have h1 := (List.perm_middle.nodup_iff).1 a1
    obtain ⟨h2, h3⟩ := List.nodup_cons.1 h1
    refine ⟨u ++ v, h3, fun x => ?_, by rw [if_pos hp]; simp⟩
    dsimp only
    by_cases e : x = p
    · subst e; rw [if_pos rfl]; simpa using h2
    · rw [if_neg e, ← a2]; simp [e]
  · refine ⟨a, a1, fun x => ?_, by rw [if_neg hp]⟩
    dsimp only
    by_cases e : x = p
    · subst e; rw [if_pos rfl, a2]; simp [hp]
    · rw [if_neg e, a2]
theorem Count.files {l : List Fl} (hr : Rise l) : Count (look l) l.length := by
  refine ⟨l.map Fl.path, ?_, fun x => ?_, by simp⟩
  · rw [List.nodup_iff_pairwise_ne, List.pairwise_map]
    exact hr.imp fun h => kl_ne h
  · rw [List.mem_map, Option.isSome_iff_exists]
    constructor
    · rintro ⟨⟨q, s⟩, h, rfl⟩
      exact ⟨s, (look_iff hr).2 h⟩
    · rintro ⟨s, h⟩
      exact ⟨_, (look_iff hr).1 h, rfl⟩

/-- u is t, some changes later -/
def Passed (t u : T) : Prop := ∃ more, u.chs = t.chs ++ more ∧ (∀ p ∈ more, isPath p = true) ∧ ∀ p, p ∉ more → look t.files p = look u.files p
theorem Passed.refl (t : T) : Passed t t := ⟨[], by simp, by simp, fun _ _ => rfl⟩
theorem Passed.more {t u : T} (h : Passed t u) {F : List Fl} {p : ByteArray} (hk : Rise u.files) (hF : Rise F) (hp : isPath p = true) (hm : ∀ f : Fl, f.path ≠ p → (f ∈ F ↔ f ∈ u.files)) : Passed t ⟨F, u.chs ++ [p]⟩ := by
  obtain ⟨more, h1, h2, h3⟩ := h
  refine ⟨more ++ [p], by rw [← List.append_assoc, ← h1], fun q hq => ?_, fun q hq => ?_⟩
  · rcases List.mem_append.1 hq with h | h
    · exact h2 q h
    · rw [List.mem_singleton.1 h]; exact hp
  · simp only [List.mem_append, List.mem_singleton, not_or] at hq
    rw [h3 q hq.1]
    exact look_ext hk hF fun s => (hm ⟨q, s⟩ hq.2).symm
theorem Passed.write {t u : T} (h : Passed t u) (hk : Ok u) (p s : ByteArray) : Passed t (write u p s).2 := by
  rcases write_cases u p s with ⟨-, e⟩ | ⟨-, -, e⟩ | ⟨-, -, -, -, e⟩ | ⟨-, -, -, -, e⟩ | ⟨hp, -, -, -, e⟩ <;> rw [e]
  · exact h
  · exact h
  · exact h
  · exact h
  · obtain ⟨f1, f2, -⟩ := put_facts hk.rise p s
    exact h.more hk.rise f1 hp fun f hf => by
      rw [f2]
      exact ⟨fun h => h.elim (fun e => absurd (by rw [e]) hf) fun h => h.1, fun h => .inr ⟨h, hf⟩⟩
theorem Passed.remove {t u : T} (h : Passed t u) (hk : Ok u) (p : ByteArray) : Passed t (remove u p).2 := by
  rcases read_cases hk p with ⟨h1, -⟩ | ⟨h1, h2, -⟩ | ⟨h1, s, h2, -⟩
  · rw [remove_bad h1]; exact h
  · rw [remove_no hk h1 h2]; exact h
  · obtain ⟨r1, r2, r3, r4⟩ := remove_yes hk h1 h2
    have hi := (isIn_iff hk.rise p).2 ⟨s, h2⟩
    obtain ⟨f1, f2, -⟩ := cut_facts hk.rise hi
    have e : (Tm.remove u p).2 = ⟨cut u.files p, u.chs ++ [p]⟩ := by
      unfold Tm.remove
      rw [read_yes hk.rise h1 h2, if_pos rfl]
    rw [e]
    exact h.more hk.rise f1 h1 fun f hf => by
      rw [f2]
      exact ⟨fun h => h.1, fun h => ⟨h, hf⟩⟩
/-- what Since answers, so long after -/
theorem Passed.since {t u : T} (h : Passed t u) : (32 < (u.chs.length : Int) - t.chs.length ∧ since u t.chs.length = ([], false)) ∨
    ∃ L, since u t.chs.length = (L, true) ∧ L.length ≤ 32 ∧ Up L ∧ (∀ p ∈ L, isPath p = true) ∧ ∀ p, p ∉ L → look t.files p = look u.files p := by
  obtain ⟨more, h1, h2, h3⟩ := h
  have hl : u.chs.length = t.chs.length + more.length := by rw [h1, List.length_append]
  by_cases hm : 32 < more.length
  · left
    refine ⟨by omega, ?_⟩
    unfold Tm.since
    rw [if_pos (by omega)]
  · right
    obtain ⟨u1, u2⟩ := told_facts more [] List.Pairwise.nil
    have hnd : (more.foldl ins []).Nodup := by
      rw [List.nodup_iff_pairwise_ne]
      exact u1.imp fun h => kl_ne h
    have hlen := len_le _ more hnd fun q hq => ((u2 q).1 hq).elim id fun h => by cases h
    refine ⟨more.foldl ins [], ?_, by omega, u1, fun p hp => ?_, fun p hp => h3 p fun hm => hp ((u2 p).2 (.inl hm))⟩
    · unfold Tm.since
      rw [if_neg (by omega), h1, Int.toNat_natCast, List.drop_left]
    · rcases (u2 p).1 hp with h | h
      · exact h2 p h
      · cases h
/-- as far as L is told, the one; else the other -/
noncomputable def mix (L : List ByteArray) (a b : ByteArray → Option ByteArray) : ByteArray → Option ByteArray := fun q => open Classical in if q ∈ L then a q else b q
theorem mix_nil (a b : ByteArray → Option ByteArray) : mix [] a b = b := by funext q; simp [mix]
theorem mix_snoc (L : List ByteArray) (p : ByteArray) (a b : ByteArray → Option ByteArray) : mix (L ++ [p]) a b = fun q => if q = p then a p else mix L a b q := by
  funext q
  unfold mix
  by_cases e : q = p
  · subst e; simp
  · rw [if_neg e]
    by_cases h : q ∈ L
    · rw [if_pos h, if_pos (by simp [h])]
    · rw [if_neg h, if_neg (by simp [h, e])]
theorem mix_all {L : List ByteArray} {a b : ByteArray → Option ByteArray} (h : ∀ p, p ∉ L → b p = a p) : mix L a b = a := by
  funext q
  unfold mix
  split
  · rfl
  · exact h q ‹_›
end Go.Proofs.Ytifolddmcibkdaa.Tm
