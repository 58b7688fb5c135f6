/-
  What spec.Compare returns: the order of two values.
-/
import Derived.Test.YthjholhjkahdkaaCmpFields
namespace Go.Proofs.Ythjholhjkahdkaa.val
open Go.ChangeShapes Go.WideShapes Go.ChangeAt Go.RowKit
set_option maxRecDepth 100000

def VT.vk : VT → Int | .mk k _ _ _ _ => k
def VT.vn : VT → Int | .mk _ n _ _ _ => n
def VT.ve : VT → Int | .mk _ _ e _ _ => e
def VT.vs : VT → ByteArray | .mk _ _ _ s _ => s
def VT.vl : VT → List VT | .mk _ _ _ _ l => l
mutual
def cmpV : VT → VT → Int
  | .mk k n e s kids, u => firstOf [cmpI k u.vk, cmpI n u.vn, cmpI e u.ve, cmpS s u.vs, cmpI kids.length u.vl.length, cmpVL kids u.vl]
def cmpVL : List VT → List VT → Int
  | [], _ => 0
  | t :: ts, us => match us with
    | [] => 0
    | u :: us' => firstOf [cmpV t u, cmpVL ts us']
end
theorem firstOf_append (l m : List Int) : firstOf (l ++ m) = if firstOf l = 0 then firstOf m else firstOf l := by
  induction l with
  | nil => simp [firstOf]
  | cons x l ih =>
    rw [List.cons_append, firstOf, firstOf, ih]
    by_cases h : x = 0
    · simp [h]
    · simp [h]
theorem firstOf_zero {l : List Int} (h : firstOf l = 0) : ∀ x ∈ l, x = 0 := by
  induction l with
  | nil => intro x hx; cases hx
  | cons y l ih =>
    rw [firstOf] at h
    by_cases hy : y = 0
    · rw [if_pos hy] at h
      intro x hx
      rcases List.mem_cons.1 hx with rfl | hx
      · exact hy
      · exact ih h x hx
    · rw [if_neg hy] at h; exact absurd h hy
theorem cmpI_eq {a b : Int} (h : cmpI a b = 0) : a = b := by
  unfold cmpI at h
  split at h
  · cases h
  · split at h
    · cases h
    · omega
/-- The order of two values is by their own fields, and then by their kids. -/
theorem cmpV_er (x y : LT) : cmpV (er x) (er y) = if cmpF x y = 0 then cmpVL (x.kids.map er) (y.kids.map er) else cmpF x y := by
  rw [er_mk x, er_mk y, cmpV]
  simp only [VT.vk, VT.vn, VT.ve, VT.vs, VT.vl, List.length_map]
  have := firstOf_append [cmpI x.k y.k, cmpI x.n y.n, cmpI x.e y.e, cmpS x.s y.s, cmpI x.kids.length y.kids.length] [cmpVL (x.kids.map er) (y.kids.map er)]
  simp only [List.cons_append, List.nil_append] at this
  rw [this]
  unfold cmpF
  split
  · rw [firstOf, firstOf]; split
    · rename_i h; exact h.symm
    · rfl
  · rfl
theorem cmpF_len {x y : LT} (h : cmpF x y = 0) : x.kids.length = y.kids.length := by
  have := cmpI_eq (firstOf_zero h (cmpI x.kids.length y.kids.length) (by simp))
  omega
theorem cmpVL_drop (l m : List VT) (j : Nat) (h1 : j < l.length) (h2 : j < m.length) : cmpVL (l.drop j) (m.drop j) = if cmpV l[j] m[j] = 0 then cmpVL (l.drop (j + 1)) (m.drop (j + 1)) else cmpV l[j] m[j] := by
  rw [List.drop_eq_getElem_cons h1, List.drop_eq_getElem_cons h2, cmpVL]
  simp only [firstOf]
  split
  · split
    · rename_i h; exact h.symm
    · rfl
  · rfl

/-- Two values in boxes, one behind the other. -/
structure Box2 (W : World) (N : Nat) (x y : LT) : Prop where
  b1 : Box W N x
  b2 : Box W (N + 1) y
theorem Box2.new (w : World) (x y : LT) (T : TypeId) : Box2 ((w.alloc (.cells #[.int .i64 x.k, .int .i64 x.n, .int .i64 x.e, .string x.s, x.row] T)).alloc (.cells #[.int .i64 y.k, .int .i64 y.n, .int .i64 y.e, .string y.s, y.row] T)) w.heap.size x y := by
  refine ⟨(Box.new w x T).of_block (Below.heap_alloc _ _ _ (by simp)), ?_⟩
  have := Box.new (w.alloc (.cells #[.int .i64 x.k, .int .i64 x.n, .int .i64 x.e, .string x.s, x.row] T)) y T
  simp only [World.size_alloc] at this
  exact this
theorem Box2.kept {W W' : World} {N : Nat} {x y : LT} (h : Box2 W N x y) (hb : Below (N + 2) W W') : Box2 W' N x y := ⟨h.b1.of_block (hb.block _ (by omega)), h.b2.of_block (hb.block _ (by omega))⟩
theorem below_drew {B : Nat} {a w : World} (h : Below B a w) : Below B a w.drew := h.trans ⟨rfl, rfl, rfl, Nat.le_refl _, fun _ _ => rfl⟩

end Go.Proofs.Ythjholhjkahdkaa.val
