/-
  Plain facts (no Go text): a text split at every space, in two ways.
-/
import Derived.Lib.SplitLaws
import Derived.Lib.Strings
namespace Go.Proofs.YtlnhfgkecifhdaaGreatDoor.words

/-- Put p ahead of the first word. -/
def ahead (p : List UInt8) : List (List UInt8) → List (List UInt8)
  | h :: t => (p ++ h) :: t
  | [] => [p]
def ws : List UInt8 → List (List UInt8)
  | [] => [[]]
  | c :: r => if c = 32 then [] :: ws r else ahead [c] (ws r)
theorem ahead_nil (x : List (List UInt8)) (h : x ≠ []) : ahead [] x = x := by
  cases x with
  | nil => exact absurd rfl h
  | cons a b => rfl
theorem ahead_ahead (p q : List UInt8) (x : List (List UInt8)) : ahead p (ahead q x) = ahead (p ++ q) x := by
  cases x <;> simp [ahead]
theorem ws_ne : ∀ l : List UInt8, ws l ≠ []
  | [] => by simp [ws]
  | c :: r => by
    unfold ws
    split
    · simp
    · cases ws r <;> simp [ahead]
theorem ws_length : ∀ l : List UInt8, (ws l).length ≤ l.length + 1
  | [] => by simp [ws]
  | c :: r => by
    have := ws_length r
    unfold ws
    split
    · simp; omega
    · cases h : ws r with
      | nil => exact absurd h (ws_ne r)
      | cons a b => rw [h] at this; simp [ahead] at *; omega

theorem split_ws : ∀ l : List UInt8, Lib.splitK [32] 0 (Lib.count l [32]) l = ws l
  | [] => by
    rw [Lib.count_miss (by simp [Lib.index])]
    rfl
  | b :: l => by
    have ih := split_ws l
    by_cases h : b = 32
    · subst h
      have hix : Lib.index (32 :: l) [32] = 0 := by rw [Lib.index]; simp [List.isPrefixOf]
      rw [Lib.count_cons_eq, Nat.add_comm, Lib.splitK, hix]
      simp only [ws]
      rw [← ih]
      simp
    · have hp : ([32] : List UInt8).isPrefixOf (b :: l) = false := by simp [List.isPrefixOf, Ne.symm h]
      have hix : Lib.index (b :: l) [32] = if Lib.index l [32] == -1 then -1 else Lib.index l [32] + 1 := by rw [Lib.index, hp]; simp
      rw [Lib.count_cons_ne b 32 l h]
      have e : ws (b :: l) = ahead [b] (ws l) := by simp [ws, h]
      rw [e, ← ih]
      by_cases hm : Lib.index l [32] = -1
      · rw [Lib.count_miss hm]
        rfl
      · have hge := Lib.index_ge l [32]
        obtain ⟨j, hj⟩ : ∃ j : Nat, Lib.index l [32] = j := ⟨(Lib.index l [32]).toNat, by omega⟩
        have hix' : Lib.index (b :: l) [32] = ((j + 1 : Nat) : Int) := by rw [hix, if_neg (fun e => hm (beq_iff_eq.1 e)), hj]; omega
        have hc := Lib.count_hit (s := l) (sub := [32]) (by simp) hj
        obtain ⟨n, hn⟩ : ∃ n, Lib.count l [32] = n + 1 := ⟨_, by rw [hc, Nat.add_comm]⟩
        rw [hn, Lib.splitK, Lib.splitK, hix', hj]
        rw [if_neg (by simp <;> omega), if_neg (by simp <;> omega)]
        simp [ahead]

def mkB (l : List UInt8) : ByteArray := ⟨l.toArray⟩
/-- The words of a text. -/
def wordsOf (s : ByteArray) : List ByteArray := (ws s.data.toList).map mkB
theorem mkB_data (b : ByteArray) : mkB b.data.toList = b := rfl
theorem wordsOf_length (s : ByteArray) : (wordsOf s).length ≤ s.size + 1 := by
  unfold wordsOf
  rw [List.length_map, Lib.size_eq]
  exact ws_length _
theorem splitB_words (s : ByteArray) : Lib.splitB ⟨#[32]⟩ 0 (Lib.countB s ⟨#[32]⟩) s = wordsOf s := by
  have h := Lib.splitB_data ⟨#[32]⟩ 0 (Lib.countB s ⟨#[32]⟩) s
  have e : Lib.countB s ⟨#[32]⟩ = Lib.count s.data.toList [32] := rfl
  unfold wordsOf
  rw [← split_ws, ← e]
  have h' : (Lib.splitB ⟨#[32]⟩ 0 (Lib.countB s ⟨#[32]⟩) s).map (fun b => mkB b.data.toList) = (Lib.splitK [32] 0 (Lib.countB s ⟨#[32]⟩) s.data.toList).map mkB := by
    rw [show ([32] : List UInt8) = (⟨#[32]⟩ : ByteArray).data.toList from rfl, ← h, List.map_map]
    rfl
  rw [← h']
  conv => lhs; rw [← List.map_id (Lib.splitB ⟨#[32]⟩ 0 (Lib.countB s ⟨#[32]⟩) s)]
  apply List.map_congr_left
  intro b _
  exact (mkB_data b).symm
theorem countB_words (s : ByteArray) : Lib.countB s ⟨#[32]⟩ + 1 = (wordsOf s).length := by
  rw [← splitB_words, Lib.splitB_all ⟨#[32]⟩ (by decide) 0 _ s rfl]

/-- Where spec.Words stands: the words that are done, where the next one begins, the place. -/
structure At (s : ByteArray) (f i : Nat) (out : List ByteArray) : Prop where
  le : f ≤ i
  all : out ++ (ahead ((s.data.toList.drop f).take (i - f)) (ws (s.data.toList.drop i))).map mkB = wordsOf s
  len : out.length ≤ i
theorem At.start (s : ByteArray) : At s 0 0 [] := ⟨Nat.le_refl _, by simp [wordsOf, ahead_nil _ (ws_ne _)], by simp⟩
theorem extract_mk (s : ByteArray) (f i : Nat) : s.extract f i = mkB ((s.data.toList.drop f).take (i - f)) := by
  apply ByteArray.ext
  apply Array.toList_inj.1
  rw [Lib.extract_data]
  rfl
theorem drop_at (s : ByteArray) (i : Nat) (h : i < s.size) : s.data.toList.drop i = s[i] :: s.data.toList.drop (i + 1) := by
  have h' : i < s.data.toList.length := by rw [← Lib.size_eq]; exact h
  rw [List.drop_eq_getElem_cons h']
  rfl
theorem At.space {s : ByteArray} {f i : Nat} {out : List ByteArray} (h : At s f i out) (hi : i < s.size) (hb : s[i] = 32) : At s (i + 1) (i + 1) (out ++ [s.extract f i]) := by
  refine ⟨Nat.le_refl _, ?_, ?_⟩
  · rw [← h.all, drop_at s i hi, hb]
    simp only [ws, if_true, Nat.sub_self, List.take_zero]
    rw [ahead_nil _ (ws_ne _), extract_mk]
    simp [ahead]
  · have := h.len; simp; omega
theorem At.other {s : ByteArray} {f i : Nat} {out : List ByteArray} (h : At s f i out) (hi : i < s.size) (hb : s[i] ≠ 32) : At s f (i + 1) out := by
  have hle := h.le
  refine ⟨by omega, ?_, ?_⟩
  · rw [← h.all, drop_at s i hi]
    simp only [ws, if_neg hb]
    rw [ahead_ahead]
    congr 2
    congr 1
    rw [show i + 1 - f = (i - f) + 1 by omega, List.take_add_one]
    congr 1
    rw [List.getElem?_drop, show f + (i - f) = i by omega, List.getElem?_eq_getElem (by rw [← Lib.size_eq]; exact hi)]
    rfl
  · have := h.len; omega
theorem At.done {s : ByteArray} {f i : Nat} {out : List ByteArray} (h : At s f i out) (hi : i = s.size) : out ++ [s.extract f s.size] = wordsOf s := by
  subst hi
  have e : s.data.toList.drop s.size = [] := List.drop_of_length_le (by rw [← Lib.size_eq]; exact Nat.le_refl _)
  rw [← h.all, e, extract_mk]
  simp [ws, ahead]

end Go.Proofs.YtlnhfgkecifhdaaGreatDoor.words
