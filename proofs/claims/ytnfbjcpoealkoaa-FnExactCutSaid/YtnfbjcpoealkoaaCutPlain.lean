/-
  Plain: a text cut into pieces of given sizes.
-/
import Derived.Test.YtnfbjcpoealkoaaOwn
namespace Go.Proofs.Ytnfbjcpoealkoaa.cut

/-- How many bytes a piece has: of a text of m bytes, m not 0. -/
def many (z : Int) (m : Nat) : Nat := if z < 1 then 1 else if (m : Int) < z then m else z.toNat
theorem many_pos {z : Int} {m : Nat} (h : 0 < m) : 1 ≤ many z m ∧ many z m ≤ m := by
  unfold many
  split
  · omega
  · split <;> omega
def pieces : List Int → ByteArray → List ByteArray
  | [], s => if s.size = 0 then [] else [s]
  | z :: zs, s => if s.size = 0 then [] else s.extract 0 (many z s.size) :: pieces zs (s.extract (many z s.size) s.size)
theorem pieces_none (l : List Int) {s : ByteArray} (h : s.size = 0) : pieces l s = [] := by
  cases l <;> rw [pieces, if_pos h]
theorem pieces_cons (z : Int) (zs : List Int) {s : ByteArray} (h : s.size ≠ 0) : pieces (z :: zs) s = s.extract 0 (many z s.size) :: pieces zs (s.extract (many z s.size) s.size) := by
  rw [pieces, if_neg h]
theorem pieces_nil {s : ByteArray} (h : s.size ≠ 0) : pieces [] s = [s] := by
  rw [pieces, if_neg h]
/-- Pieces are not many, none is great. -/
theorem pieces_len (l : List Int) : ∀ s : ByteArray, (pieces l s).length ≤ s.size := by
  induction l with
  | nil =>
    intro s
    by_cases h : s.size = 0
    · rw [pieces_none _ h]; simp
    · rw [pieces_nil h]; simp; omega
  | cons z zs ih =>
    intro s
    by_cases h : s.size = 0
    · rw [pieces_none _ h]; simp
    · rw [pieces_cons _ _ h, List.length_cons]
      have h1 := ih (s.extract (many z s.size) s.size)
      have h2 := many_pos (z := z) (m := s.size) (by omega)
      rw [ByteArray.size_extract] at h1
      omega
/-- How far one has come: what is out, what is left. -/
structure Cutting (l : List Int) (s : ByteArray) (k : Nat) (out : List ByteArray) (r : ByteArray) : Prop where
  eq : pieces l s = out ++ pieces (l.drop k) r
  len : out.length ≤ k
  size : r.size ≤ s.size
theorem Cutting.start (l : List Int) (s : ByteArray) : Cutting l s 0 [] s := ⟨rfl, Nat.le_refl _, Nat.le_refl _⟩
theorem Cutting.step {l : List Int} {s : ByteArray} {k : Nat} {out : List ByteArray} {r : ByteArray} (h : Cutting l s k out r) (hk : k < l.length) (hr : r.size ≠ 0) (m : Nat) (hm : many l[k] r.size = m) :
    Cutting l s (k + 1) (out ++ [r.extract 0 m]) (r.extract m r.size) := by
  subst hm
  refine ⟨?_, by simp; have := h.len; omega, by rw [ByteArray.size_extract]; have := h.size; omega⟩
  rw [h.eq, List.drop_eq_getElem_cons hk, pieces_cons _ _ hr, List.append_assoc]
  rfl
theorem Cutting.done {l : List Int} {s : ByteArray} {k : Nat} {out : List ByteArray} {r : ByteArray} (h : Cutting l s k out r) (hr : r.size = 0) : out = pieces l s := by
  rw [h.eq, pieces_none _ hr, List.append_nil]
theorem Cutting.last {l : List Int} {s : ByteArray} {k : Nat} {out : List ByteArray} {r : ByteArray} (h : Cutting l s k out r) (hk : l.length ≤ k) (hr : r.size ≠ 0) : out ++ [r] = pieces l s := by
  rw [h.eq, List.drop_eq_nil_of_le hk, pieces_nil hr]
end Go.Proofs.Ytnfbjcpoealkoaa.cut
