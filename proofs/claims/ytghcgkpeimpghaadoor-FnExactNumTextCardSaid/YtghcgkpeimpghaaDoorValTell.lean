/-
  What is told of a value: how many nodes it has, how deep it is, how many nodes of a kind it has; by the order in which the walk meets them, and by its parts.
-/
import Derived.Test.YtghcgkpeimpghaaDoorDeepWalk
import Derived.Test.YtghcgkpeimpghaaDoorCountWalk
namespace Go.Proofs.YtghcgkpeimpghaaDoor.val
open Go.ChangeShapes Go.WideShapes Go.ChangeAt Go.RowKit
set_option maxRecDepth 100000

mutual
def VT.nodes : VT → Nat
  | .mk _ _ _ _ kids => 1 + VT.nodesL kids
def VT.nodesL : List VT → Nat
  | [] => 0
  | t :: ts => VT.nodes t + VT.nodesL ts
end
mutual
def VT.deep : VT → Nat
  | .mk _ _ _ _ kids => VT.deepL kids
def VT.deepL : List VT → Nat
  | [] => 0
  | t :: ts => max (VT.deep t + 1) (VT.deepL ts)
end
mutual
def VT.count (kd : Int) : VT → Nat
  | .mk k _ _ _ kids => (if k = kd then 1 else 0) + VT.countL kd kids
def VT.countL (kd : Int) : List VT → Nat
  | [] => 0
  | t :: ts => VT.count kd t + VT.countL kd ts
end
mutual
theorem nodes_er : ∀ t : LT, (er t).nodes = t.nodes
  | .mk k n e s a cap kids => by rw [er, VT.nodes, LT.nodes, nodesL_er kids]
theorem nodesL_er : ∀ l : List LT, VT.nodesL (erL l) = LT.nodesL l
  | [] => by rw [erL, VT.nodesL, LT.nodesL]
  | t :: ts => by rw [erL, VT.nodesL, LT.nodesL, nodes_er t, nodesL_er ts]
end
theorem er_nodes {t u : LT} (h : er t = er u) : t.nodes = u.nodes := by rw [← nodes_er t, ← nodes_er u, h]
theorem topOf_from (l : List (Nat × LT)) : ∀ m, l.foldl (fun m x => max m x.1) m = max m (topOf l) := by
  unfold topOf
  induction l with
  | nil => intro m; simp
  | cons x l ih =>
    intro m
    rw [List.foldl_cons, List.foldl_cons, ih, ih (max 0 x.1)]
    omega
theorem topOf_append (a b : List (Nat × LT)) : topOf (a ++ b) = max (topOf a) (topOf b) := by
  rw [topOf, List.foldl_append, topOf_from]
  rfl
theorem topOf_cons (x : Nat × LT) (l : List (Nat × LT)) : topOf (x :: l) = max x.1 (topOf l) := by
  rw [topOf, List.foldl_cons, topOf_from]
  omega
mutual
theorem top_pre : ∀ (d : Nat) (t : LT), topOf (t.pre d) = d + (er t).deep
  | d, .mk k n e s a cap kids => by rw [LT.pre, topOf_cons, er, VT.deep, top_preL d kids]
theorem top_preL : ∀ (d : Nat) (l : List LT), max d (topOf (preL (d + 1) l)) = d + VT.deepL (erL l)
  | d, [] => by rw [preL, erL, VT.deepL]; simp [topOf]
  | d, t :: ts => by
    have h1 := top_pre (d + 1) t
    have h2 := top_preL d ts
    rw [preL, topOf_append, erL, VT.deepL, h1]
    omega
end
theorem kindOf_append (kd : Int) (a b : List (Nat × LT)) : kindOf kd (a ++ b) = kindOf kd a + kindOf kd b := by simp [kindOf]
theorem kindOf_cons (kd : Int) (x : Nat × LT) (l : List (Nat × LT)) : kindOf kd (x :: l) = (if x.2.k = kd then 1 else 0) + kindOf kd l := by
  unfold kindOf
  by_cases h : x.2.k = kd
  · simp [h]; omega
  · simp [h]
mutual
theorem kind_pre (kd : Int) : ∀ (d : Nat) (t : LT), kindOf kd (t.pre d) = (er t).count kd
  | d, .mk k n e s a cap kids => by rw [LT.pre, kindOf_cons, er, VT.count, kind_preL kd (d + 1) kids]; rfl
theorem kind_preL (kd : Int) : ∀ (d : Nat) (l : List LT), kindOf kd (preL d l) = VT.countL kd (erL l)
  | d, [] => by rw [preL, erL, VT.countL]; rfl
  | d, t :: ts => by rw [preL, kindOf_append, erL, VT.countL, kind_pre kd d t, kind_preL kd d ts]
end
mutual
theorem deep_le : ∀ v : VT, v.deep ≤ v.nodes
  | .mk k n e s kids => by rw [VT.deep, VT.nodes]; have := deepL_le kids; omega
theorem deepL_le : ∀ l : List VT, VT.deepL l ≤ VT.nodesL l + 1
  | [] => by rw [VT.deepL]; omega
  | t :: ts => by rw [VT.deepL, VT.nodesL]; have := deep_le t; have := deepL_le ts; omega
end
mutual
theorem count_le (kd : Int) : ∀ v : VT, v.count kd ≤ v.nodes
  | .mk k n e s kids => by rw [VT.count, VT.nodes]; have := countL_le kd kids; split <;> omega
theorem countL_le (kd : Int) : ∀ l : List VT, VT.countL kd l ≤ VT.nodesL l
  | [] => by rw [VT.countL]; omega
  | t :: ts => by rw [VT.countL, VT.nodesL]; have := count_le kd t; have := countL_le kd ts; omega
end
/-! By the first kids. -/
theorem nodesL_take (l : List VT) : ∀ j (h : j < l.length), VT.nodesL (l.take (j + 1)) = VT.nodesL (l.take j) + l[j].nodes := by
  induction l with
  | nil => intro j h; simp at h
  | cons t ts ih =>
    intro j h
    cases j with
    | zero => simp [VT.nodesL]
    | succ j => have := ih j (by simpa using h); simp only [List.take_succ_cons, VT.nodesL, List.getElem_cons_succ]; omega
theorem nodesL_take_le (l : List VT) (j : Nat) : VT.nodesL (l.take j) ≤ VT.nodesL l := by
  induction l generalizing j with
  | nil => simp
  | cons t ts ih =>
    cases j with
    | zero => simp [VT.nodesL]
    | succ j => have := ih j; simp only [List.take_succ_cons, VT.nodesL]; omega
theorem deepL_take (l : List VT) : ∀ j (h : j < l.length), VT.deepL (l.take (j + 1)) = max (VT.deepL (l.take j)) (l[j].deep + 1) := by
  induction l with
  | nil => intro j h; simp at h
  | cons t ts ih =>
    intro j h
    cases j with
    | zero => simp [VT.deepL]
    | succ j => have := ih j (by simpa using h); simp only [List.take_succ_cons, VT.deepL, List.getElem_cons_succ]; omega
theorem countL_take (kd : Int) (l : List VT) : ∀ j (h : j < l.length), VT.countL kd (l.take (j + 1)) = VT.countL kd (l.take j) + l[j].count kd := by
  induction l with
  | nil => intro j h; simp at h
  | cons t ts ih =>
    intro j h
    cases j with
    | zero => simp [VT.countL]
    | succ j => have := ih j (by simpa using h); simp only [List.take_succ_cons, VT.countL, List.getElem_cons_succ]; omega
theorem kid_nodes (l : List LT) (j : Nat) (h : j < l.length) : l[j].nodes ≤ LT.nodesL l := by
  have h1 := nodesL_take (erL l) j (by rw [erL_map]; simpa using h)
  have h2 := nodesL_take_le (erL l) (j + 1)
  rw [nodesL_er] at h2
  have h3 : (erL l)[j]'(by rw [erL_map]; simpa using h) = er l[j] := by simp [erL_map]
  rw [h3, nodes_er] at h1
  omega
theorem wrap_add (a b : Nat) (h : a + b ≤ 4000000) : wrap64 ((a : Int) + (b : Int)) = ((a + b : Nat) : Int) := by unfold wrap64; omega

end Go.Proofs.YtghcgkpeimpghaaDoor.val
