/-
  THE PLAIN WORDS OF LAYER 6 (cell): items, nodes, what is well-formed, the form. No program here.
-/
import Derived.Test.YtplfcpbjlhobeaaWMath
import Derived.Laws.Strings
import Derived.Laws.Cover1
namespace Go.Proofs.Ytplfcpbjlhobeaa.Cm

/-- an item -/
structure It where
  key : ByteArray
  val : ByteArray
  page : Int
  len : Int
/-- a node -/
structure Nd where
  leaf : Bool
  items : List It
  kids : List Int

theorem It.ext' {a b : It} (h1 : a.key = b.key) (h2 : a.val = b.val) (h3 : a.page = b.page) (h4 : a.len = b.len) : a = b := by
  cases a; cases b; simp_all
theorem Nd.ext' {a b : Nd} (h1 : a.leaf = b.leaf) (h2 : a.items = b.items) (h3 : a.kids = b.kids) : a = b := by
  cases a; cases b; simp_all
instance : DecidableEq It := fun a b => decidable_of_iff (a.key = b.key ∧ a.val = b.val ∧ a.page = b.page ∧ a.len = b.len) ⟨fun h => It.ext' h.1 h.2.1 h.2.2.1 h.2.2.2, fun h => by subst h; simp⟩
instance : DecidableEq Nd := fun a b => decidable_of_iff (a.leaf = b.leaf ∧ a.items = b.items ∧ a.kids = b.kids) ⟨fun h => Nd.ext' h.1 h.2.1 h.2.2, fun h => by subst h; simp⟩

def zero : It := ⟨.empty, .empty, 0, 0⟩
def none : Nd := ⟨false, [], []⟩
/-- a key is below another one -/
def kl (a b : ByteArray) : Bool := Op.bytesLess a.toList b.toList

def Inline (x : It) : Prop := x.page = 0 ∧ x.len = 0 ∧ x.val.size ≤ 32
def Chain (x : It) : Prop := x.val.size = 0 ∧ 1 ≤ x.page ∧ x.page ≤ 65535 ∧ 1 ≤ x.len ∧ x.len ≤ 4608
def Bare (x : It) : Prop := x.val.size = 0 ∧ x.page = 0 ∧ x.len = 0
instance (x : It) : Decidable (Inline x) := by unfold Inline; infer_instance
instance (x : It) : Decidable (Chain x) := by unfold Chain; infer_instance
instance (x : It) : Decidable (Bare x) := by unfold Bare; infer_instance
/-- an item by itself -/
def OkI (leaf : Bool) (x : It) : Prop := if leaf = true then Inline x ∨ Chain x else Bare x
instance (leaf : Bool) (x : It) : Decidable (OkI leaf x) := by unfold OkI; infer_instance
def OkK (s : ByteArray) : Prop := 1 ≤ s.size ∧ s.size ≤ 64
instance (s : ByteArray) : Decidable (OkK s) := by unfold OkK; infer_instance
/-- the item at a place -/
def OkAt (n : Nd) (i : Nat) : Prop := OkK (n.items.getD i zero).key ∧ (0 < i → kl (n.items.getD (i - 1) zero).key (n.items.getD i zero).key = true) ∧ OkI n.leaf (n.items.getD i zero)
instance (n : Nd) (i : Nat) : Decidable (OkAt n i) := by unfold OkAt; infer_instance
def KidOk (k : Int) : Prop := 1 ≤ k ∧ k ≤ 65535
instance (k : Int) : Decidable (KidOk k) := by unfold KidOk; infer_instance
/-- a well-formed node -/
def Right (n : Nd) : Prop := (∀ i, i < n.items.length → OkAt n i) ∧ if n.leaf = true then n.kids = [] else (∀ k ∈ n.kids, KidOk k) ∧ 1 ≤ n.items.length ∧ n.kids.length = n.items.length + 1
instance (n : Nd) : Decidable (Right n) := by unfold Right; infer_instance

/-- a number's two bytes -/
def two (k : Int) : List UInt8 := [UInt8.ofNat (k.toNat % 256), UInt8.ofNat (k.toNat / 256)]
/-- what stands for an item -/
def part (leaf : Bool) (kid : Int) (x : It) : List UInt8 :=
  Wm.putT x.key.data.toList ++ (if leaf = false then two kid else if 0 < x.page then Wm.putU (2 * x.len.toNat + 1) ++ two x.page else Wm.putU (2 * x.val.size) ++ x.val.data.toList)
/-- what stands for the first k items -/
def parts (n : Nd) (k : Nat) : List UInt8 := (List.range k).flatMap fun i => part n.leaf (n.kids.getD (i + 1) 0) (n.items.getD i zero)
def head (n : Nd) : List UInt8 := (if n.leaf = true then [1] else [2]) ++ Wm.putU n.items.length ++ (if n.leaf = true then [] else two (n.kids.getD 0 0))
/-- a node's form -/
def form (n : Nd) : List UInt8 := head n ++ parts n n.items.length
/-- what is wrong with a node -/
def wrong (n : Nd) : Nat := if Right n then if 240 < (form n).length then 3 else 0 else 2
/-- its page -/
def page (n : Nd) : List UInt8 := form n ++ List.replicate (240 - (form n).length) 0

theorem parts_succ (n : Nd) (k : Nat) : parts n (k + 1) = parts n k ++ part n.leaf (n.kids.getD (k + 1) 0) (n.items.getD k zero) := by
  unfold parts
  rw [List.range_succ, List.flatMap_append]
  simp
theorem two_length (k : Int) : (two k).length = 2 := rfl

/-- how long what stands for an item is, of a well-formed one -/
theorem part_length {leaf : Bool} {kid : Int} {x : It} (hk : OkK x.key) (hi : OkI leaf x) : (part leaf kid x).length ≤ 130 := by
  have h0 : x.key.data.toList.length = x.key.size := by rw [Array.length_toList]; rfl
  have h1 : x.val.data.toList.length = x.val.size := by rw [Array.length_toList]; rfl
  have p1 := (Wm.putU_length x.key.size).2
  have p2 := (Wm.putU_length (2 * x.len.toNat + 1)).2
  have p3 := (Wm.putU_length (2 * x.val.size)).2
  unfold OkK at hk
  unfold part Wm.putT
  rw [h0]
  unfold OkI at hi
  by_cases hl : leaf = false
  · rw [if_pos hl]; simp only [List.length_append, two_length]; omega
  · rw [if_neg hl]
    have hl' : leaf = true := by simpa using hl
    rw [if_pos hl'] at hi
    by_cases hp : 0 < x.page
    · rw [if_pos hp]; simp only [List.length_append, two_length]; omega
    · rw [if_neg hp]; simp only [List.length_append]
      have : x.val.size ≤ 32 := by
        rcases hi with hi | hi
        · exact hi.2.2
        · unfold Chain at hi; omega
      omega
theorem parts_length {n : Nd} : ∀ {k : Nat}, (∀ i, i < k → OkK (n.items.getD i zero).key ∧ OkI n.leaf (n.items.getD i zero)) → (parts n k).length ≤ 130 * k := by
  intro k
  induction k with
  | zero => intro _; simp [parts]
  | succ k ih =>
    intro h
    rw [parts_succ, List.length_append]
    have h1 := ih fun i hi => h i (by omega)
    have h2 := part_length (kid := n.kids.getD (k + 1) 0) (h k (by omega)).1 (h k (by omega)).2
    omega
theorem head_length (n : Nd) : (head n).length ≤ 13 := by
  have := (Wm.putU_length n.items.length).2
  unfold head
  split <;> simp only [List.length_append, List.length_cons, List.length_nil, two_length] <;> omega
theorem form_length {n : Nd} (h : ∀ i, i < n.items.length → OkK (n.items.getD i zero).key ∧ OkI n.leaf (n.items.getD i zero)) : (form n).length ≤ 13 + 130 * n.items.length := by
  unfold form
  rw [List.length_append]
  have := head_length n
  have := parts_length h
  omega

/-- how many of the first k items lie ahead of a key's place -/
def ahead (n : Nd) (key : ByteArray) (x : It) : Bool := kl x.key key || (!n.leaf && decide (x.key = key))
def place (n : Nd) (key : ByteArray) : Nat := (n.items.filter (ahead n key)).length
def isIn (n : Nd) (key : ByteArray) : Bool := n.items.any fun x => decide (x.key = key)

/-- a node parted at a place -/
def cutL (n : Nd) (i : Nat) : Nd := if n.leaf = true then ⟨true, n.items.take i, []⟩ else ⟨false, n.items.take i, n.kids.take (i + 1)⟩
def cutR (n : Nd) (i : Nat) : Nd := if n.leaf = true then ⟨true, n.items.drop i, []⟩ else ⟨false, n.items.drop (i + 1), n.kids.drop (i + 1)⟩
/-- the greater one of both sizes -/
def cost (n : Nd) (i : Nat) : Nat := max (form (cutL n i)).length (form (cutR n i)).length
/-- the first best one of the places 1 to k, and its cost; 0: there is none -/
def best (f : Nat → Nat) : Nat → Nat × Nat
  | 0 => (0, 0)
  | k + 1 => if (best f k).1 = 0 ∨ f (k + 1) < (best f k).2 then (k + 1, f (k + 1)) else best f k
/-- how many places there are -/
def places (n : Nd) : Nat := if n.leaf = true then n.items.length - 1 else n.items.length - 2
/-- the node's halves -/
def half (n : Nd) : Option (Nd × ByteArray × Nd) :=
  if (best (cost n) (places n)).1 = 0 then .none
  else some (cutL n (best (cost n) (places n)).1, (n.items.getD (best (cost n) (places n)).1 zero).key, cutR n (best (cost n) (places n)).1)

/-- both nodes, joined -/
def joined (a : Nd) (key : ByteArray) (b : Nd) : Nd := ⟨a.leaf, a.items ++ (if a.leaf = true then [] else [⟨key, .empty, 0, 0⟩]) ++ b.items, a.kids ++ b.kids⟩
def MayJoin (a : Nd) (key : ByteArray) (b : Nd) : Prop := Right a ∧ Right b ∧ a.leaf = b.leaf ∧ (∀ x ∈ a.items, kl x.key key = true) ∧ (∀ x ∈ b.items, kl x.key key = false ∧ (a.leaf = false → x.key ≠ key)) ∧ (a.leaf = false → OkK key)
instance (a : Nd) (key : ByteArray) (b : Nd) : Decidable (MayJoin a key b) := by unfold MayJoin; infer_instance
/-- what comes; what is wrong -/
def join (a : Nd) (key : ByteArray) (b : Nd) : Nd × Nat :=
  if MayJoin a key b then if wrong (joined a key b) = 0 then (joined a key b, 0) else (none, wrong (joined a key b)) else (none, 2)

end Go.Proofs.Ytplfcpbjlhobeaa.Cm
