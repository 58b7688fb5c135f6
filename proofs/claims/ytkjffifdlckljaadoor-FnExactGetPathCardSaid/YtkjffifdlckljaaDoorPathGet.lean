/-
  Plain: the steps of a pointer's text, read in two ways.
-/
import Derived.Test.YtkjffifdlckljaaDoorPathSpec
namespace Go.Proofs.YtkjffifdlckljaaDoor.path
open Go.Lib (replaceAll splitK splitB)

/-- A byte more in the last text. -/
def apd (out : List ByteArray) (b : UInt8) : List ByteArray := out.set (out.length - 1) ((out[out.length - 1]?.getD ⟨#[]⟩) ++ ⟨#[b]⟩)
theorem apd_snoc (out : List ByteArray) (x : ByteArray) (b : UInt8) : apd (out ++ [x]) b = out ++ [x ++ ⟨#[b]⟩] := by
  unfold apd
  rw [List.length_append, List.length_singleton, Nat.add_sub_cancel, List.getElem?_append_right (Nat.le_refl _), Nat.sub_self, List.set_append_right _ _ (Nat.le_refl _), Nat.sub_self]
  rfl
theorem apd_len (out : List ByteArray) (b : UInt8) : (apd out b).length = out.length := by unfold apd; rw [List.length_set]
/-- What is read of the bytes left. -/
def decS : List UInt8 → List ByteArray → List ByteArray
  | [], out => out
  | [c], out => if c = 47 then out ++ [⟨#[]⟩] else apd out c
  | c :: d :: r, out => if c = 47 then decS (d :: r) (out ++ [⟨#[]⟩]) else if c = 126 then decS r (apd out (if d = 49 then 47 else 126)) else decS (d :: r) (apd out c)
theorem decS_slash (r : List UInt8) (out : List ByteArray) : decS (47 :: r) out = decS r (out ++ [⟨#[]⟩]) := by
  cases r with
  | nil => simp [decS]
  | cons d r => rw [decS, if_pos rfl]
theorem decS_tilde (d : UInt8) (r : List UInt8) (out : List ByteArray) : decS (126 :: d :: r) out = decS r (apd out (if d = 49 then 47 else 126)) := by
  rw [decS, if_neg (by decide), if_pos rfl]
theorem decS_last (out : List ByteArray) : decS [126] out = decS [] (apd out 126) := by
  simp [decS]
theorem decS_other {c : UInt8} (h : c ≠ 47) (h2 : c ≠ 126) (r : List UInt8) (out : List ByteArray) : decS (c :: r) out = decS r (apd out c) := by
  cases r with
  | nil => simp [decS, h]
  | cons d r => rw [decS, if_neg h, if_neg h2]
theorem mk_snoc (x : ByteArray) (c : UInt8) (l : List UInt8) : (x ++ ⟨#[c]⟩) ++ (⟨l.toArray⟩ : ByteArray) = x ++ (⟨(c :: l).toArray⟩ : ByteArray) := by
  apply ByteArray.ext
  apply Array.toList_inj.1
  simp [ByteArray.data_append]
theorem mk_nil (x : ByteArray) : x ++ (⟨([] : List UInt8).toArray⟩ : ByteArray) = x := by
  apply ByteArray.ext
  apply Array.toList_inj.1
  simp [ByteArray.data_append]
theorem mk_nil2 (x : List UInt8) : (⟨#[]⟩ : ByteArray) ++ (⟨x.toArray⟩ : ByteArray) = ⟨x.toArray⟩ := by
  apply ByteArray.ext
  apply Array.toList_inj.1
  simp [ByteArray.data_append]
theorem decS_esc (l r : List UInt8) (out : List ByteArray) (x : ByteArray) : decS (esc l ++ r) (out ++ [x]) = decS r (out ++ [x ++ (⟨l.toArray⟩ : ByteArray)]) := by
  induction l generalizing x with
  | nil => rw [mk_nil]; rfl
  | cons c l ih =>
    rw [esc_cons, List.append_assoc]
    by_cases h1 : c = 126
    · subst h1
      rw [show escB 126 = [126, 48] from rfl, List.cons_append, List.cons_append, List.nil_append, decS_tilde, apd_snoc, ih, if_neg (by decide), mk_snoc]
    · by_cases h2 : c = 47
      · subst h2
        rw [show escB 47 = [126, 49] from rfl, List.cons_append, List.cons_append, List.nil_append, decS_tilde, apd_snoc, ih, if_pos rfl, mk_snoc]
      · rw [show escB c = [c] by unfold escB; rw [if_neg h1, if_neg h2], List.cons_append, List.nil_append, decS_other h2 h1, apd_snoc, ih, mk_snoc]
theorem decS_enc (l : List ByteArray) : ∀ out, decS (encP l) out = out ++ l := by
  induction l with
  | nil => intro out; rw [show encP [] = [] from rfl, decS, List.append_nil]
  | cons s l ih =>
    intro out
    rw [encP_cons, decS_slash, decS_esc, ih, List.append_assoc]
    congr 2
/-- The steps as spec reads them. -/
def gotS (s : ByteArray) : List ByteArray := decS s.data.toList []
theorem gotS_enc {s : ByteArray} {l : List ByteArray} (h : encP l = s.data.toList) : gotS s = l := by
  unfold gotS; rw [← h, decS_enc, List.nil_append]
/-- The steps as impl reads them. -/
def decB (x : ByteArray) : ByteArray := ⟨(replaceAll (replaceAll x.data.toList [126, 49] [47]) [126, 48] [126]).toArray⟩
def pieces (s : ByteArray) : List ByteArray := splitB ⟨#[47]⟩ 0 (min 14 (s.size + 1) - 1) s
def gotI (s : ByteArray) : List ByteArray := (pieces s).tail.map decB
theorem gotI_enc {s : ByteArray} {l : List ByteArray} (hl : stepsOk l) (h : encP l = s.data.toList) : gotI s = l := by
  have h1 := Lib.splitB_data ⟨#[47]⟩ 0 (min 14 (s.size + 1) - 1) s
  have h2 := split_path l hl.1
  rw [h, show s.data.toList.length = s.size by simp] at h2
  have h3 : (pieces s).map (·.data.toList) = [] :: l.map fun s => esc s.data.toList := h1.trans h2
  unfold gotI
  generalize pieces s = P at *
  cases P with
  | nil => simp at h3
  | cons p P =>
    rw [List.map_cons] at h3
    injection h3 with _ h3
    rw [List.tail_cons]
    clear h1 h2 h hl
    induction P generalizing l with
    | nil =>
      cases l with
      | nil => rfl
      | cons a l => simp at h3
    | cons q P ih =>
      cases l with
      | nil => simp at h3
      | cons a l =>
        rw [List.map_cons, List.map_cons] at h3
        injection h3 with h4 h3
        rw [List.map_cons, ih h3]
        congr 1
        unfold decB
        rw [h4, dec_esc]
/-- What GetPath returns of steps that were read. -/
def resOf (g : List ByteArray) (s : ByteArray) : List ByteArray × Bool := if putP g = s then (g, true) else ([], false)
theorem res_same {s : ByteArray} {g1 g2 : List ByteArray} (h1 : ∀ l, stepsOk l → encP l = s.data.toList → g1 = l) (h2 : ∀ l, stepsOk l → encP l = s.data.toList → g2 = l) : resOf g1 s = resOf g2 s := by
  have key : ∀ a b : List ByteArray, (∀ l, stepsOk l → encP l = s.data.toList → a = l) → (∀ l, stepsOk l → encP l = s.data.toList → b = l) → putP a = s → b = a := fun a b ha hb h => by
    by_cases hk : stepsOk a
    · rw [putP_ok hk] at h
      exact hb a hk (by rw [← h])
    · rw [putP_no hk] at h
      have := ha [] ⟨by simp, by simp⟩ (by rw [← h]; rfl)
      subst this
      exact (hk ⟨by simp, by simp⟩).elim
  unfold resOf
  by_cases h : putP g1 = s
  · rw [key g1 g2 h1 h2 h]
  · by_cases h' : putP g2 = s
    · rw [key g2 g1 h2 h1 h'] 
    · rw [if_neg h, if_neg h']
theorem res_is (s : ByteArray) : resOf (gotS s) s = resOf (gotI s) s := res_same (fun _ _ h => gotS_enc h) (fun _ hl h => gotI_enc hl h)
/-- A text that does not begin with a slash is none. -/
theorem res_none {s : ByteArray} {c : UInt8} {r : List UInt8} (hs : s.data.toList = c :: r) (h : c ≠ 47) (g : List ByteArray) : resOf g s = ([], false) := by
  unfold resOf
  rw [if_neg]
  intro e
  by_cases hk : stepsOk g
  · rw [putP_ok hk] at e
    subst e
    cases g with
    | nil => simp [encP] at hs
    | cons a g =>
      simp only [encP_cons] at hs
      injection hs with h1 _
      exact h h1.symm
  · rw [putP_no hk] at e
    subst e
    simp at hs
theorem res_yes {s : ByteArray} {g : List ByteArray} (h : putP g = s) : resOf g s = (g, true) := if_pos h
theorem res_no {s : ByteArray} {g : List ByteArray} (h : putP g ≠ s) : resOf g s = ([], false) := if_neg h
theorem rep_len {old new : List UInt8} (h : old ≠ new) (h0 : old ≠ []) (hn : new.length ≤ old.length) : ∀ (k : Nat) (l : List UInt8), l.length ≤ k → (replaceAll l old new).length ≤ l.length := by
  intro k
  induction k with
  | zero =>
    intro l hl
    obtain rfl := List.eq_nil_of_length_eq_zero (Nat.le_zero.1 hl)
    rw [rep_nil h h0]
    exact Nat.le_refl _
  | succ k ih =>
    intro l hl
    cases l with
    | nil => rw [rep_nil h h0]; exact Nat.le_refl _
    | cons b l =>
      cases hp : old.isPrefixOf (b :: l) with
      | true =>
        rw [rep_hit h h0 hp, List.length_append]
        have h1 : old.length ≤ (b :: l).length := (List.isPrefixOf_iff_prefix.1 hp).length_le
        have h2 : 0 < old.length := List.length_pos_iff.2 h0
        have := ih ((b :: l).drop old.length) (by rw [List.length_drop]; simp at hl h1 ⊢; omega)
        rw [List.length_drop] at this
        omega
      | false =>
        rw [rep_miss h h0 hp, List.length_cons, List.length_cons]
        have := ih l (by simp at hl; omega)
        omega
theorem decB_size (x : ByteArray) : (decB x).size ≤ x.size := by
  unfold decB
  have h1 := rep_len (old := [126, 49]) (new := [47]) (by decide) (by decide) (by decide) _ x.data.toList (Nat.le_refl _)
  have h2 := rep_len (old := [126, 48]) (new := [126]) (by decide) (by decide) (by decide) _ (replaceAll x.data.toList [126, 49] [47]) (Nat.le_refl _)
  have h3 : x.data.toList.length = x.size := by simp
  have h4 : (⟨(replaceAll (replaceAll x.data.toList [126, 49] [47]) [126, 48] [126]).toArray⟩ : ByteArray).size = (replaceAll (replaceAll x.data.toList [126, 49] [47]) [126, 48] [126]).length := by simp [ByteArray.size]
  omega
theorem splitB_sizes (sep : ByteArray) : ∀ (k : Nat) (s : ByteArray), ∀ x ∈ splitB sep 0 k s, x.size ≤ s.size
  | 0, s, x, hx => by
    rw [Lib.splitB_zero, List.mem_singleton] at hx
    subst hx; exact Nat.le_refl _
  | k + 1, s, x, hx => by
    unfold splitB at hx
    split at hx
    · rw [List.mem_singleton] at hx
      subst hx; exact Nat.le_refl _
    · rcases List.mem_cons.1 hx with rfl | hx
      · rw [ByteArray.size_extract]; omega
      · have := splitB_sizes sep k _ x hx
        rw [ByteArray.size_extract] at this
        omega
theorem pieces_size (s : ByteArray) : ∀ x ∈ pieces s, x.size ≤ s.size := splitB_sizes _ _ s
theorem pieces_len (s : ByteArray) : (pieces s).length ≤ min 14 (s.size + 1) := by
  have := Lib.splitB_length_le ⟨#[47]⟩ 0 (min 14 (s.size + 1) - 1) s
  unfold pieces
  omega
theorem pieces_pos (s : ByteArray) : 1 ≤ (pieces s).length := by
  unfold pieces
  generalize min 14 (s.size + 1) - 1 = k
  cases k with
  | zero => simp [splitB]
  | succ k => unfold splitB; split <;> simp
theorem gotI_len (s : ByteArray) : (gotI s).length ≤ 13 := by
  unfold gotI
  have := pieces_len s
  rw [List.length_map, List.length_tail]
  omega
theorem res_len (s : ByteArray) : (resOf (gotI s) s).1.length ≤ 13 := by
  unfold resOf
  split
  · exact gotI_len s
  · simp
theorem gotI_size (s : ByteArray) : ∀ x ∈ gotI s, x.size ≤ s.size := fun x hx => by
  unfold gotI at hx
  obtain ⟨y, hy, rfl⟩ := List.mem_map.1 hx
  exact Nat.le_trans (decB_size y) (pieces_size s y (List.mem_of_mem_tail hy))
open Go.RowKit in
/-- What a GetPath is to return. -/
def GetC (F : FuncId) (s : ByteArray) (W : World) : Prop := Calls Tryd.prog F #[.string s] W fun e w' => ∃ v, e = .returned (.tuple #[v, .bool (resOf (gotI s) s).2]) ∧ OwnL w' W.heap.size 9 strs.encS v (resOf (gotI s) s).1 ∧ Below W.heap.size W w'
end Go.Proofs.YtkjffifdlckljaaDoor.path
