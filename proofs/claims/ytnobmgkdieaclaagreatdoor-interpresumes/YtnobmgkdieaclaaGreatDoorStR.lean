/-
  ROWS OF TEXTS, as records.
-/
import Derived.Test.YtnobmgkdieaclaaGreatDoorRec
import Derived.Test.YtnobmgkdieaclaaGreatDoorKit
import Derived.Test.YtnobmgkdieaclaaGreatDoorPBs
import Derived.Sort.Walk0
import Derived.Lib.SlicesCompact
import Derived.Shelf.SortM.Plain
import Derived.Shelf.SortM.SortNone
import Derived.Shelf.SlMaps.Clone
import Derived.Shelf.SlicesG.CompactS
import Derived.Test.YtnobmgkdieaclaaGreatDoorProg
import Derived.Sort.OwnSorted
import Derived.Lib.RowBridge
namespace Go.Proofs.YtnobmgkdieaclaaGreatDoor
open Go.RowKit

def StR : Rc ByteArray where
  e := 9
  st := 23
  k := 1
  bytes := 16
  z := .string .empty
  enc s := [.string s]
  pos := by decide
  len _ := rfl
  one f u hu := by
    simp only [List.mem_cons, List.not_mem_nil, or_false] at hu
    subst hu; rfl
  info := by kernel_rfl
  under := Tryz.underlying23
  zk := rfl
  small := by decide

end Go.Proofs.YtnobmgkdieaclaaGreatDoor

namespace Go.Proofs.YtnobmgkdieaclaaGreatDoor.Ks

/-- the one is below the other -/
def kl (a b : ByteArray) : Bool := Op.bytesLess a.toList b.toList
theorem bl_irrefl : ∀ x : List UInt8, Op.bytesLess x x = false := by
  intro x
  induction x with
  | nil => rfl
  | cons a r ih => simp [Op.bytesLess, ih]
theorem bl_trans : ∀ x y z : List UInt8, Op.bytesLess x y = true → Op.bytesLess y z = true → Op.bytesLess x z = true := by
  intro x
  induction x with
  | nil =>
    intro y z h1 h2
    cases y with
    | nil => simp [Op.bytesLess] at h1
    | cons b s =>
      cases z with
      | nil => simp [Op.bytesLess] at h2
      | cons c t => rfl
  | cons a r ih =>
    intro y z h1 h2
    cases y with
    | nil => simp [Op.bytesLess] at h1
    | cons b s =>
      cases z with
      | nil => simp [Op.bytesLess] at h2
      | cons c t =>
        simp only [Op.bytesLess, Bool.or_eq_true, decide_eq_true_eq, Bool.and_eq_true, beq_iff_eq, UInt8.lt_iff_toNat_lt] at h1 h2 ⊢
        rcases h1 with h1 | ⟨rfl, h1⟩
        · rcases h2 with h2 | ⟨rfl, h2⟩
          · exact .inl (by omega)
          · exact .inl h1
        · rcases h2 with h2 | ⟨rfl, h2⟩
          · exact .inl h2
          · exact .inr ⟨rfl, ih s t h1 h2⟩
theorem kl_trans {a b c : ByteArray} (h1 : kl a b = true) (h2 : kl b c = true) : kl a c = true := bl_trans _ _ _ h1 h2
theorem kl_irrefl (a : ByteArray) : kl a a = false := bl_irrefl _
theorem kl_asymm {a b : ByteArray} (h : kl a b = true) : kl b a = false := by
  cases h2 : kl b a with
  | false => rfl
  | true =>
    have := kl_trans h h2
    rw [kl_irrefl] at this
    cases this
theorem bl_total : ∀ x y : List UInt8, Op.bytesLess x y = false → x ≠ y → Op.bytesLess y x = true := by
  intro x
  induction x with
  | nil =>
    intro y h1 h2
    cases y with
    | nil => exact absurd rfl h2
    | cons b s => simp [Op.bytesLess] at h1
  | cons a r ih =>
    intro y h1 h2
    cases y with
    | nil => rfl
    | cons b s =>
      simp only [Op.bytesLess, Bool.or_eq_true, decide_eq_true_eq, Bool.and_eq_true, beq_iff_eq, Bool.or_eq_false_iff, decide_eq_false_iff_not, UInt8.lt_iff_toNat_lt] at h1 ⊢
      by_cases e : a = b
      · subst e
        refine .inr ⟨rfl, ih s ?_ fun h => h2 (by rw [h])⟩
        simpa using h1.2
      · have : a.toNat ≠ b.toNat := fun h => e (UInt8.toNat_inj.1 h)
        exact .inl (by omega)
theorem kl_total {a b : ByteArray} (h1 : kl a b = false) (h2 : a ≠ b) : kl b a = true :=
  bl_total _ _ h1 fun h => h2 (by rw [ByteArray.toList_eq, ByteArray.toList_eq] at h; exact ByteArray.ext (Array.toList_inj.1 h))

end Go.Proofs.YtnobmgkdieaclaaGreatDoor.Ks

namespace Go.Proofs.YtnobmgkdieaclaaGreatDoor.Ks

/-- rising, none twice -/
def Rising (l : List ByteArray) : Prop := l.Pairwise fun a b => kl a b = true
def le (x y : List UInt8) : Bool := decide (x ≤ y)
/-- bytes as a text -/
def ba (l : List UInt8) : ByteArray := ⟨l.toArray⟩
theorem ba_bs (s : ByteArray) : ba (bs s) = s := ByteArray.ext (by simp [ba, bs])
theorem bs_ba (l : List UInt8) : bs (ba l) = l := by simp [ba, bs]
theorem kl_bs (a b : ByteArray) : kl a b = decide (bs a < bs b) := by
  unfold kl
  rw [Proofs.bytesLess_eq, ByteArray.toList_eq, ByteArray.toList_eq]
theorem le_trans {x y z : List UInt8} (h1 : le x y = true) (h2 : le y z = true) : le x z = true := by
  simp only [le, decide_eq_true_eq] at *; exact List.le_trans h1 h2
theorem le_total (x y : List UInt8) : (le x y || le y x) = true := by
  simp only [le, Bool.or_eq_true, decide_eq_true_eq]; exact List.le_total x y
theorem lt_of {x y : List UInt8} (h : x ≤ y) (hn : x ≠ y) : x < y := by
  rcases Decidable.em (x < y) with h1 | h1
  · exact h1
  · exact absurd (List.le_antisymm h (List.not_lt.1 h1)) hn
/-- rising lists that have the same texts are one -/
theorem rising_ext : ∀ {a b : List ByteArray}, Rising a → Rising b → (∀ x, x ∈ a ↔ x ∈ b) → a = b
  | [], [], _, _, _ => rfl
  | [], y :: _, _, _, h => absurd ((h y).2 (by simp)) (by simp)
  | x :: _, [], _, _, h => absurd ((h x).1 (by simp)) (by simp)
  | x :: a, y :: b, ha, hb, h => by
    obtain ⟨a1, a2⟩ := List.pairwise_cons.1 ha
    obtain ⟨b1, b2⟩ := List.pairwise_cons.1 hb
    have hxy : x = y := by
      rcases List.mem_cons.1 ((h x).1 (by simp)) with e | e
      · exact e
      rcases List.mem_cons.1 ((h y).2 (by simp)) with e2 | e2
      · exact e2.symm
      have := kl_trans (b1 x e) (a1 y e2)
      rw [kl_irrefl] at this; cases this
    subst hxy
    refine congrArg (x :: ·) (rising_ext a2 b2 fun z => ?_)
    have hz := h z
    simp only [List.mem_cons] at hz
    constructor
    · intro hm
      rcases hz.1 (.inr hm) with e | e
      · subst e; have := a1 z hm; rw [kl_irrefl] at this; cases this
      · exact e
    · intro hm
      rcases hz.2 (.inr hm) with e | e
      · subst e; have := b1 z hm; rw [kl_irrefl] at this; cases this
      · exact e
theorem rising_nodup {l : List ByteArray} (h : Rising l) : l.Nodup := h.imp fun {a b} hab e => by subst e; rw [kl_irrefl] at hab; cases hab

/-- texts, sorted -/
def sortT (l : List ByteArray) : List ByteArray := ((l.map bs).mergeSort le).map ba
theorem sortT_perm (l : List ByteArray) : (sortT l).Perm l := by
  have h := (List.mergeSort_perm (l.map bs) le).map ba
  rw [List.map_map] at h
  have e : (ba ∘ bs) = id := by funext s; exact ba_bs s
  rw [e, List.map_id] at h
  exact h
theorem mem_sortT {l : List ByteArray} {q : ByteArray} : q ∈ sortT l ↔ q ∈ l := (sortT_perm l).mem_iff
theorem sortT_length (l : List ByteArray) : (sortT l).length = l.length := (sortT_perm l).length_eq
theorem sortT_le (l : List ByteArray) : (sortT l).Pairwise fun a b => bs a ≤ bs b := by
  have h := List.pairwise_mergeSort (le := le) (fun a b c => le_trans) le_total (l.map bs)
  unfold sortT
  rw [List.pairwise_map]
  refine h.imp fun {a b} hab => ?_
  rw [bs_ba, bs_ba]
  simpa [le] using hab
/-- sorted, where none stands twice: rising -/
theorem sortT_rising {l : List ByteArray} (h : l.Nodup) : Rising (sortT l) := by
  have hn : (sortT l).Nodup := (sortT_perm l).nodup_iff.2 h
  refine ((sortT_le l).and hn).imp fun {a b} hab => ?_
  rw [kl_bs, decide_eq_true_eq]
  exact lt_of hab.1 fun e => hab.2 (bs_inj e)

/-- runs of equal texts, one of each -/
def compT (l : List ByteArray) : List ByteArray := (Lib.compact (l.map bs)).map ba
theorem compact_facts (d : Array (List UInt8)) (hd : ∀ i j, i < j → j < d.size → d[i]! ≤ d[j]!) : ∀ m, m ≤ d.size → (Lib.compactUpTo d m).Pairwise (· < ·) ∧ ∀ x, x ∈ Lib.compactUpTo d m ↔ ∃ j, j < m ∧ d[j]! = x := by
  intro m
  induction m with
  | zero => intro _; exact ⟨by simp [Lib.compactUpTo], fun x => by simp [Lib.compactUpTo]⟩
  | succ m ih =>
    intro hm
    obtain ⟨h1, h2⟩ := ih (by omega)
    rw [Lib.compactUpTo_succ]
    cases hk : Lib.keeps d m with
    | true =>
      simp only [if_true]
      refine ⟨List.pairwise_append.2 ⟨h1, List.pairwise_singleton _ _, fun x hx y hy => ?_⟩, fun x => ?_⟩
      · rw [List.mem_singleton] at hy
        subst hy
        obtain ⟨j, hj, rfl⟩ := (h2 x).1 hx
        have hk' : m = 0 ∨ d[m]! ≠ d[m - 1]! := by simpa [Lib.keeps] using hk
        have hne : d[m]! ≠ d[m - 1]! := hk'.resolve_left (by omega)
        refine lt_of (hd j m hj (by omega)) fun e => hne ?_
        rcases Nat.lt_or_ge j (m - 1) with h | h
        · have e1 := hd j (m - 1) h (by omega)
          have e2 := hd (m - 1) m (by omega) (by omega)
          rw [e] at e1
          exact List.le_antisymm e1 e2
        · have : j = m - 1 := by omega
          rw [← this, e]
      · rw [List.mem_append, List.mem_singleton, h2 x]
        constructor
        · rintro (⟨j, hj, e⟩ | e)
          · exact ⟨j, by omega, e⟩
          · exact ⟨m, by omega, e.symm⟩
        · rintro ⟨j, hj, e⟩
          rcases Nat.lt_or_ge j m with h | h
          · exact .inl ⟨j, h, e⟩
          · have : j = m := by omega
            subst this; exact .inr e.symm
    | false =>
      have hk' : ¬ (m = 0 ∨ d[m]! ≠ d[m - 1]!) := by simpa [Lib.keeps] using hk
      have hm0 : m ≠ 0 := fun e => hk' (.inl e)
      have heq : d[m]! = d[m - 1]! := Decidable.byContradiction fun e => hk' (.inr e)
      simp only [Bool.false_eq_true, if_false, List.append_nil]
      refine ⟨h1, fun x => ?_⟩
      rw [h2 x]
      constructor
      · rintro ⟨j, hj, e⟩; exact ⟨j, by omega, e⟩
      · rintro ⟨j, hj, e⟩
        rcases Nat.lt_or_ge j m with h | h
        · exact ⟨j, h, e⟩
        · have : j = m := by omega
          subst this; exact ⟨j - 1, by omega, by rw [← heq]; exact e⟩
/-- sorted, and each once: rising, the same texts -/
theorem compT_facts {l : List ByteArray} (h : l.Pairwise fun a b => bs a ≤ bs b) : Rising (compT l) ∧ ∀ q, q ∈ compT l ↔ q ∈ l := by
  have hget : ∀ i, (hi : i < l.length) → (l.map bs).toArray[i]! = bs l[i] := fun i hi => by simp [hi]
  obtain ⟨h1, h2⟩ := compact_facts (l.map bs).toArray (fun i j hij hj => by
    have hj' : j < l.length := by simpa using hj
    rw [hget i (by omega), hget j hj']
    exact List.pairwise_iff_getElem.1 h i j (by omega) hj' hij) (l.map bs).length (by simp)
  refine ⟨?_, fun q => ?_⟩
  · unfold Rising compT Lib.compact
    rw [List.pairwise_map]
    refine h1.imp fun {a b} hab => ?_
    rw [kl_bs, bs_ba, bs_ba]
    exact decide_eq_true hab
  · unfold compT Lib.compact
    rw [List.mem_map]
    constructor
    · rintro ⟨x, hx, rfl⟩
      obtain ⟨j, hj, rfl⟩ := (h2 x).1 hx
      have hj' : j < l.length := by simpa using hj
      rw [hget j hj', ba_bs]
      exact List.getElem_mem hj'
    · intro hq
      obtain ⟨j, hj, rfl⟩ := List.getElem_of_mem hq
      exact ⟨bs l[j], (h2 _).2 ⟨j, by simpa using hj, hget j hj⟩, ba_bs _⟩
theorem once_facts (l : List ByteArray) : Rising (compT (sortT l)) ∧ ∀ q, q ∈ compT (sortT l) ↔ q ∈ l := by
  obtain ⟨h1, h2⟩ := compT_facts (sortT_le l)
  exact ⟨h1, fun q => (h2 q).trans mem_sortT⟩

end Go.Proofs.YtnobmgkdieaclaaGreatDoor.Ks

namespace Go.Proofs
open Go.Shelf
def Tryz.sortA_ren : Go.Shelf.Ren := ⟨fun | 6 => 148 | 8 => 158 | 9 => 157 | 19 => 169 | 20 => 170 | 21 => 160 | 22 => 161 | 23 => 162 | 24 => 163 | 25 => 164 | 26 => 165 | 27 => 166 | 28 => 167 | 29 => 168 | 36 => 175 | 31 => 176 | 32 => 177 | 37 => 178 | 38 => 179 | 39 => 180 | 41 => 185 | n => n, fun | 27 => 23 | 29 => 9 | 3 => 3 | 32 => 142 | 26 => 23 | 0 => 0 | 44 => 149 | 46 => 168 | 4 => 4 | 36 => 189 | 35 => 188 | 41 => 194 | 5 => 5 | 9 => 9 | 53 => 202 | 57 => 104 | 63 => 210 | 64 => 211 | n => n, fun | n => n⟩
theorem Tryz.sortA : Go.Proofs.SlLaysM.n6 Tryz.prog Tryz.sortA_ren := {
  mixed := by kernel_rfl
  f6 := ⟨Tryz.f148.name, by decide, Tryz.func148.trans (congrArg some (by kernel_rfl))⟩
  f8 := Tryz.func158.trans (congrArg some (by kernel_rfl))
  f9 := ⟨Tryz.f157.name, by decide, Tryz.func157.trans (congrArg some (by kernel_rfl))⟩
  f19 := Tryz.func169.trans (congrArg some (by kernel_rfl))
  f20 := Tryz.func170.trans (congrArg some (by kernel_rfl))
  f21 := ⟨Tryz.f160.name, by decide, Tryz.func160.trans (congrArg some (by kernel_rfl))⟩
  f22 := ⟨Tryz.f161.name, by decide, Tryz.func161.trans (congrArg some (by kernel_rfl))⟩
  f23 := ⟨Tryz.f162.name, by decide, Tryz.func162.trans (congrArg some (by kernel_rfl))⟩
  f24 := ⟨Tryz.f163.name, by decide, Tryz.func163.trans (congrArg some (by kernel_rfl))⟩
  f25 := ⟨Tryz.f164.name, by decide, Tryz.func164.trans (congrArg some (by kernel_rfl))⟩
  f26 := ⟨Tryz.f165.name, by decide, Tryz.func165.trans (congrArg some (by kernel_rfl))⟩
  f27 := ⟨Tryz.f166.name, by decide, Tryz.func166.trans (congrArg some (by kernel_rfl))⟩
  f28 := ⟨Tryz.f167.name, by decide, Tryz.func167.trans (congrArg some (by kernel_rfl))⟩
  f29 := ⟨Tryz.f168.name, by decide, Tryz.func168.trans (congrArg some (by kernel_rfl))⟩
  f31 := Tryz.func176.trans (congrArg some (by kernel_rfl))
  f32 := Tryz.func177.trans (congrArg some (by kernel_rfl))
  f36 := ⟨Tryz.f175.name, by decide, Tryz.func175.trans (congrArg some (by kernel_rfl))⟩
  f37 := ⟨Tryz.f178.name, by decide, Tryz.func178.trans (congrArg some (by kernel_rfl))⟩
  f38 := ⟨Tryz.f179.name, by decide, Tryz.func179.trans (congrArg some (by kernel_rfl))⟩
  f39 := ⟨Tryz.f180.name, by decide, Tryz.func180.trans (congrArg some (by kernel_rfl))⟩
  f41 := ⟨Tryz.f185.name, by decide, Tryz.func185.trans (congrArg some (by kernel_rfl))⟩
  t0 := Tryz.underlying0
  a0 := Tryz.isAgg0
  z0 := Tryz.sizeOf0
  v0 := Tryz.zeroValue0
  t3 := Tryz.underlying3
  a3 := Tryz.isAgg3
  z3 := Tryz.sizeOf3
  v3 := Tryz.zeroValue3
  t4 := Tryz.underlying4
  a4 := Tryz.isAgg4
  z4 := Tryz.sizeOf4
  v4 := Tryz.zeroValue4
  t5 := Tryz.underlying5
  a5 := Tryz.isAgg5
  z5 := Tryz.sizeOf5
  v5 := Tryz.zeroValue5
  t9 := Tryz.underlying9
  a9 := Tryz.isAgg9
  z9 := Tryz.sizeOf9
  v9 := Tryz.zeroValue9
  t26 := Tryz.underlying23
  a26 := Tryz.isAgg23
  z26 := Tryz.sizeOf23
  v26 := Tryz.zeroValue23
  t27 := Tryz.underlying23
  a27 := Tryz.isAgg23
  z27 := Tryz.sizeOf23
  v27 := Tryz.zeroValue23
  t29 := Tryz.underlying9
  a29 := Tryz.isAgg9
  z29 := Tryz.sizeOf9
  v29 := Tryz.zeroValue9
  t32 := Tryz.underlying142
  a32 := Tryz.isAgg142
  z32 := Tryz.sizeOf142
  v32 := Tryz.zeroValue142
  t35 := Tryz.underlying188
  a35 := Tryz.isAgg188
  z35 := Tryz.sizeOf188
  v35 := Tryz.zeroValue188
  t36 := Tryz.underlying189
  a36 := Tryz.isAgg189
  z36 := Tryz.sizeOf189
  v36 := Tryz.zeroValue189
  t41 := Tryz.underlying194
  a41 := Tryz.isAgg194
  z41 := Tryz.sizeOf194
  v41 := Tryz.zeroValue194
  t44 := Tryz.underlying149
  a44 := Tryz.isAgg149
  z44 := Tryz.sizeOf149
  v44 := Tryz.zeroValue149
  t46 := Tryz.underlying168
  a46 := Tryz.isAgg168
  z46 := Tryz.sizeOf168
  v46 := Tryz.zeroValue168
  t53 := Tryz.underlying202
  a53 := Tryz.isAgg202
  z53 := Tryz.sizeOf202
  v53 := Tryz.zeroValue202
  t57 := Tryz.underlying104
  a57 := Tryz.isAgg104
  z57 := Tryz.sizeOf104
  v57 := Tryz.zeroValue104
  t63 := Tryz.underlying210
  a63 := Tryz.isAgg210
  z63 := Tryz.sizeOf210
  v63 := Tryz.zeroValue210
  t64 := Tryz.underlying211
  a64 := Tryz.isAgg211
  z64 := Tryz.sizeOf211
  v64 := Tryz.zeroValue211 }
def Tryz.compA_ren : Go.Shelf.Ren := ⟨fun | 44 => 137 | n => n, fun | 25 => 138 | 26 => 9 | 3 => 3 | 4 => 4 | 0 => 0 | n => n, fun | n => n⟩
theorem Tryz.compA : Go.Proofs.SlLaysN.n44 Tryz.prog Tryz.compA_ren := {
  mixed := by kernel_rfl
  f44 := ⟨Tryz.f137.name, by decide, Tryz.func137.trans (congrArg some (by kernel_rfl))⟩
  t0 := Tryz.underlying0
  a0 := Tryz.isAgg0
  z0 := Tryz.sizeOf0
  v0 := Tryz.zeroValue0
  t3 := Tryz.underlying3
  a3 := Tryz.isAgg3
  z3 := Tryz.sizeOf3
  v3 := Tryz.zeroValue3
  t4 := Tryz.underlying4
  a4 := Tryz.isAgg4
  z4 := Tryz.sizeOf4
  v4 := Tryz.zeroValue4
  t25 := Tryz.underlying138
  a25 := Tryz.isAgg138
  z25 := Tryz.sizeOf138
  v25 := Tryz.zeroValue138
  t26 := Tryz.underlying9
  a26 := Tryz.isAgg9
  z26 := Tryz.sizeOf9
  v26 := Tryz.zeroValue9
  i26 := by kernel_rfl }
def Tryz.cloneA_ren : Go.Shelf.Ren := ⟨fun | 5 => 59 | 7 => 84 | n => n, fun | 23 => 60 | 25 => 9 | 3 => 89 | 4 => 4 | 20 => 20 | n => n, fun | n => n⟩
theorem Tryz.cloneA : Go.Proofs.SlLaysW.n5 Tryz.prog Tryz.cloneA_ren := {
  mixed := by kernel_rfl
  f5 := ⟨Tryz.f59.name, by decide, Tryz.func59.trans (congrArg some (by kernel_rfl))⟩
  f7 := Tryz.func84.trans (congrArg some (by kernel_rfl))
  t4 := Tryz.underlying4
  a4 := Tryz.isAgg4
  z4 := Tryz.sizeOf4
  v4 := Tryz.zeroValue4
  t20 := Tryz.underlying20
  a20 := Tryz.isAgg20
  z20 := Tryz.sizeOf20
  v20 := Tryz.zeroValue20
  t23 := Tryz.underlying60
  a23 := Tryz.isAgg60
  z23 := Tryz.sizeOf60
  v23 := Tryz.zeroValue60 }
end Go.Proofs

namespace Go.Proofs.YtnobmgkdieaclaaGreatDoor
open Go.RowKit Go.Sort

theorem vals_enc (L : List ByteArray) : StR.vals L = (L.map bs).map encStr := by
  induction L with
  | nil => rfl
  | cons x r ih =>
    show Value.string x :: StR.vals r = _
    rw [ih]
    simp only [List.map_cons, encStr, bs, Array.toArray_toList]
theorem vals_ba (l : List (List UInt8)) : StR.vals (l.map Ks.ba) = l.map encStr := by
  rw [vals_enc, List.map_map, List.map_map]
  exact List.map_congr_left fun x _ => congrArg encStr (Ks.bs_ba x)
theorem sortT_nil : Ks.sortT [] = [] := by simp [Ks.sortT]
theorem compT_nil : Ks.compT [] = [] := by simp [Ks.compT, Lib.compact, Lib.compactUpTo]
/-- a row's head -/
theorem row_head {w : World} {base g cap n m : Nat} {e : TypeId} {xs : List Value} (h : w.ownsRow base e 1 (.slice (some ⟨g, 0, none⟩) n cap) n xs) (hm : m ≤ n) : w.ownsRow base e 1 (.slice (some ⟨g, 0, none⟩) m cap) m (xs.take m) := by
  obtain ⟨h1, h⟩ := h
  rw [Nat.mul_one] at h1
  rcases h with ⟨h, -⟩ | ⟨g', cap', cur, e1, h2, h3, h4, h5, h6, h7⟩
  · cases h
  · simp only [Value.slice.injEq, Option.some.injEq, Addr.mk.injEq] at e1
    obtain ⟨⟨rfl, -, -⟩, -, rfl⟩ := e1
    refine ⟨by simp; omega, .inr ⟨g, cap, cur, rfl, h2, h3, by omega, h5, h6, ?_⟩⟩
    rw [Nat.mul_one] at h7 ⊢
    rw [← h7, List.take_take, Nat.min_eq_left hm]

theorem Sort_any {w : World} {base : Nat} {v : Value} {L : List ByteArray} (h : StR.Own w base v L) (hl : L.length ≤ 1099511627) :
    Calls Tryz.prog 148 #[v] w fun e w' => e = .returned (.tuple #[]) ∧ StR.Own w' base v (Ks.sortT L) ∧ w.grownBy w' v.ownBlock := by
  rcases h.2 with ⟨rfl, h0⟩ | ⟨g, cap, cur, rfl, hbase, hb, h1, h2, h3, h4⟩
  · have hL : L = [] := List.eq_nil_of_length_eq_zero h0
    subst hL
    refine (AnyM.slices_Sort_string_none Tryz.sortA none 0 w).mono ?_
    rintro e w' ⟨rfl, rfl⟩
    exact ⟨rfl, by rw [sortT_nil]; exact h, ⟨rfl, rfl, rfl, Nat.le_refl _, fun _ _ _ => rfl⟩⟩
  · have hh : Holds encStr w g 0 (L.map bs).toArray := holds_of_block hb (by
      rw [List.length_map, ← vals_enc]
      have := h4
      rwa [show StR.k = 1 from rfl, Nat.mul_one] at this)
    have hc := AnyM.slices_Sort_string Tryz.sortA g 0 cap (L.map bs) w hh (Array.getElem?_eq_some_iff.1 hb).1 (by rw [List.length_map]; omega)
    rw [List.length_map] at hc
    refine hc.mono ?_
    rintro e w' ⟨rfl, n, os, rfl⟩
    refine ⟨rfl, ?_, grownBy_sorted _⟩
    have hs := ownsRow_sorted (base := base) (n := n) (os := os) (ss := L.map bs) (ts := (L.map bs).mergeSort fun x y => decide (x ≤ y)) (by simp) hbase hb (by rw [List.length_map]; exact h1) h2 h3
    rw [List.length_map] at hs
    unfold Rc.Own
    rw [Ks.sortT_length]
    unfold Ks.sortT
    rw [vals_ba]
    exact hs

theorem Compact_any {w : World} {base : Nat} {v : Value} {L : List ByteArray} (h : StR.Own w base v L) (hl : L.length ≤ 1099511627) :
    Calls Tryz.prog 137 #[v] w fun e w' => ∃ v', e = .returned v' ∧ StR.Own w' base v' (Ks.compT L) ∧ v'.ownBlock = v.ownBlock ∧ w.grownBy w' v.ownBlock := by
  rcases h.2 with ⟨rfl, h0⟩ | ⟨g, cap, cur, rfl, hbase, hb, h1, h2, h3, h4⟩
  · have hL : L = [] := List.eq_nil_of_length_eq_zero h0
    subst hL
    refine (AnyG.slices_Compact_string_empty Tryz.compA none 0 w).mono ?_
    rintro e w' ⟨rfl, rfl⟩
    exact ⟨_, rfl, by rw [compT_nil]; exact h, rfl, ⟨rfl, rfl, rfl, Nat.le_refl _, fun _ _ _ => rfl⟩⟩
  · have hh : Holds encStr w g 0 (L.map bs).toArray := holds_of_block hb (by
      rw [List.length_map, ← vals_enc]
      have := h4
      rwa [show StR.k = 1 from rfl, Nat.mul_one] at this)
    have hc := AnyG.slices_Compact_string Tryz.compA g 0 cap (L.map bs) w hh (by rw [List.length_map]; omega) (by rw [List.length_map]; exact h1)
    rw [List.length_map] at hc
    refine hc.mono ?_
    rintro e w' ⟨rfl, q, rfl⟩
    have hle := Lib.compact_length_le (L.map bs)
    rw [List.length_map] at hle
    refine ⟨_, rfl, ?_, rfl, ?_⟩
    · have hs := ownsRow_sorted (base := base) (n := q) (os := #[]) (ss := L.map bs) (ts := Lib.compact (L.map bs) ++ List.replicate (L.length - (Lib.compact (L.map bs)).length) []) (by simp; omega) hbase hb (by rw [List.length_map]; exact h1) h2 h3
      rw [List.length_map, grow_empty] at hs
      have hd := row_head hs hle
      rw [← List.map_take, List.take_left] at hd
      unfold Rc.Own Ks.compT
      rw [vals_ba, List.length_map]
      exact hd
    · have := grownBy_sorted (w := w) (g := g) (n := q) (os := #[]) (Lib.compact (L.map bs) ++ List.replicate (L.length - (Lib.compact (L.map bs)).length) []).toArray
      rwa [grow_empty] at this

end Go.Proofs.YtnobmgkdieaclaaGreatDoor
