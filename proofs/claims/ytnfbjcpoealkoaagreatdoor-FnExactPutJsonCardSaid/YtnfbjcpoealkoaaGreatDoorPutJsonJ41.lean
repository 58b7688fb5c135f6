/-
  What impl's writer of JSON adds, at every value that fits.
-/
import Derived.Test.YtnfbjcpoealkoaaGreatDoorPutJsonJ39
import Derived.Test.YtnfbjcpoealkoaaGreatDoorPutJsonJ40
namespace Go.Proofs.YtnfbjcpoealkoaaGreatDoor.json
open Go.ChangeShapes Go.WideShapes Go.ChangeAt Go.RowKit
open Go.Proofs.YtnfbjcpoealkoaaGreatDoor.val Go.Proofs.YtnfbjcpoealkoaaGreatDoor.num Go.Proofs.YtnfbjcpoealkoaaGreatDoor.node
set_option maxRecDepth 100000

/-- The tables, where the program's text lays them. -/
structure Tb (w : World) : Prop where
  word : jsonTab.Tab w
  short : shortTab.Tab w
  utf : signs.Tabs w
  ten : numtext.Tab w
theorem Tb.below {w w' : World} (h : Tb w) (hb : Below w.heap.size w w') : Tb w' := ⟨h.word.below hb, h.short.below hb, signs.tabs_below h.utf hb, decText.pow10_below h.ten hb⟩

theorem iput_any {w : World} (T : Tb w) {t : LT} (h : In w w.heap.size t) (p : Bool) : GoodT t → t.sz ≤ 1048576 → IPutC w w.heap.size p t := by
  generalize hBB : w.heap.size = B at h
  induction h with
  | mk hk hn he hs hl hc hkids ih =>
    rename_i k n e s a cap kids
    intro hg hz lv b v l w' hlv hlen hb hB hw
    have hIn : In w B (.mk k n e s a cap kids) := .mk hk hn he hs hl hc hkids
    rw [GoodT] at hg
    obtain ⟨hkind, hgl⟩ := hg
    have hz' : s.size + LT.szL kids ≤ 1048576 := by rw [LT.sz] at hz; exact hz
    have hnd : lv + LT.nodesL kids + 1 ≤ 1000 := by rw [LT.nodes] at hlv; omega
    have Tw := T.below (by rw [hBB]; exact hb)
    have hbw : B ≤ w'.heap.size := by have := hw.lt; omega
    show Calls Tryz.prog 114 #[.pointer (some ⟨b, 0, none⟩), .agg #[.int .i64 k, .int .i64 n, .int .i64 e, .string s, .slice a kids.length cap], .int .i64 lv] w' (PutR w' b (l ++ jsonT p lv (.mk k n e s a cap kids)) p)
    have ihk : ∀ i (h : i < kids.length), IPutC w B p kids[i] := fun i h => ih i h (goodTL_mem hgl i h) (by have := (kid_sz kids i h).1; omega)
    have hkl : kids.length ≤ 1048576 := Nat.le_trans (len_sz kids) (by omega)
    have cont : (k = 7 ∨ k = 8) → Calls Tryz.prog 114 #[.pointer (some ⟨b, 0, none⟩), .agg #[.int .i64 k, .int .i64 n, .int .i64 e, .string s, .slice a kids.length cap], .int .i64 lv] w' (PutR w' b (l ++ jsonT p lv (.mk k n e s a cap kids)) p) := fun h => by
      rw [json_kids p lv k n e s a cap kids h] at hlen ⊢
      by_cases h0 : kids.length = 0
      · have hnil : kids = [] := List.eq_nil_of_length_eq_zero h0
        subst hnil
        have e0 : (if ([] : List LT).length = 0 then ([] : List UInt8) else lineL p lv) = [] := rfl
        rw [itemsT, e0, List.append_nil, List.append_nil] at hlen ⊢
        simp only [List.length_append] at hlen
        rcases h with rfl | rfl
        · have := brack_7 w' b v l [] p n e s a 0 cap lv (by simp; omega) hw (fun w1 v1 _ hw1 => by rw [List.append_nil]; exact none_7 w1 b v1 _ p n e s a cap lv hw1)
          rw [List.append_nil] at this
          exact this
        · have := brack_8 w' b v l [] p n e s a 0 cap lv (by simp; omega) hw (fun w1 v1 _ hw1 => by rw [List.append_nil]; exact none_8 w1 b v1 _ p n e s a cap lv hw1)
          rw [List.append_nil] at this
          exact this
      · rw [if_neg h0] at hlen ⊢
        rcases h with rfl | rfl
        · rw [if_neg (by decide), if_neg (by decide)] at hlen ⊢
          rw [List.append_assoc [91] _ (lineL p lv)] at hlen ⊢
          simp only [List.length_append, List.length_singleton] at hlen
          refine brack_7 w' b v l _ p n e s a kids.length cap lv (by rw [List.length_append]; omega) hw (fun w1 v1 hk1 hw1 => ?_)
          rw [← List.append_assoc]
          exact items_7 w1 b v1 _ p n e s a cap lv kids hc ihk (by rw [List.length_append, List.length_singleton]; omega) hnd hkl (by omega) (hb.trans (hk1.low.mono hB)) hB hw1
        · rw [if_pos rfl, if_pos rfl] at hlen ⊢
          rw [List.append_assoc [123] _ (lineL p lv)] at hlen ⊢
          simp only [List.length_append, List.length_singleton] at hlen
          refine brack_8 w' b v l _ p n e s a kids.length cap lv (by rw [List.length_append]; omega) hw (fun w1 v1 hk1 hw1 => ?_)
          rw [← List.append_assoc]
          exact items_8 w1 b v1 _ p n e s a cap lv kids hc ihk (by rw [List.length_append, List.length_singleton]; omega) hnd hkl (by omega) (hb.trans (hk1.low.mono hB)) hB hw1
    rcases hkind with h | h | h | ⟨h, hok⟩ | h | h | h
    · subst h
      rw [jsonT, if_pos (.inl rfl)] at hlen ⊢
      exact leaf_word0 w' b v l p n e s a kids.length cap lv _ (by omega) hw Tw.word.lt Tw.word.at0
    · subst h
      rw [jsonT, if_pos (.inr (.inl rfl))] at hlen ⊢
      exact leaf_word1 w' b v l p n e s a kids.length cap lv _ (by omega) hw Tw.word.lt Tw.word.at1
    · subst h
      rw [jsonT, if_pos (.inr (.inr rfl))] at hlen ⊢
      exact leaf_word2 w' b v l p n e s a kids.length cap lv _ (by omega) hw Tw.word.lt Tw.word.at2
    · rw [jsonT, if_neg (by omega), if_pos h] at hlen ⊢
      have e1 : numtext.numText (.mk k n e s a cap kids) = ⟨(numtext.textL n e).toArray⟩ := numtext.numText_yes h hok
      have CN : ∀ W, Below w'.heap.size w' W → Calls Tryz.prog 162 #[.agg #[.int .i64 k, .int .i64 n, .int .i64 e, .string s, .slice a kids.length cap]] W fun r w'' => r = .returned (.string ⟨(numtext.textL n e).toArray⟩) ∧ Below W.heap.size W w'' := fun W hW => by
        have hIW : In W W.heap.size (.mk k n e s a cap kids) := (hIn.behind (hb.trans (hW.mono hbw))).mono (Nat.le_trans hbw hW.size)
        have := numtext.impl_numtext hIW (by rw [LT.nodes]; omega) (Tw.below hW).ten
        rw [e1] at this
        exact this
      rcases h with rfl | rfl
      · exact leaf_num3 w' b v l p n e s a kids.length cap lv _ (by omega) hw CN
      · exact leaf_num4 w' b v l p n e s a kids.length cap lv _ (by omega) hw CN
    · subst h
      rw [jsonT, if_neg (by omega), if_neg (by omega), if_pos rfl] at hlen ⊢
      refine leaf_text w' b v l p n e s a kids.length cap lv _ (by omega) hw (fun W hW => ?_)
      have := quote.impl_quote s W (by omega) (Tw.below hW).utf (Tw.below hW).short
      have e1 : (⟨(quote.quoteOf s).data.toList.toArray⟩ : ByteArray) = quote.quoteOf s := by apply ByteArray.ext; simp
      rw [e1]
      exact this
    · exact cont (.inl h)
    · exact cont (.inr h)
end Go.Proofs.YtnfbjcpoealkoaaGreatDoor.json
/-
  Plain: a value that fits is one that can be written, and its text is not long.
-/
namespace Go.Proofs.YtnfbjcpoealkoaaGreatDoor.json
open Go.Proofs.YtnfbjcpoealkoaaGreatDoor.val Go.Proofs.YtnfbjcpoealkoaaGreatDoor.num Go.Proofs.YtnfbjcpoealkoaaGreatDoor.node
set_option maxRecDepth 100000

/-- What a node of a value that fits holds. -/
structure KindOk (x : LT) : Prop where
  kind : x.k = 0 ∨ x.k = 1 ∨ x.k = 2 ∨ ((x.k = 3 ∨ x.k = 4) ∧ numOk x = true) ∨ x.k = 5 ∨ x.k = 7 ∨ x.k = 8
  text : x.k = 5 → x.s.size ≤ 2000
mutual
theorem good_pre : ∀ (t : LT) (d : Nat), (∀ y ∈ t.pre d, KindOk y.2) → GoodT t
  | .mk k n e s a cap kids, d, h => by
    rw [GoodT]
    rw [LT.pre] at h
    exact ⟨(h _ (List.mem_cons_self ..)).kind, goodL_pre kids (d + 1) fun y hy => h y (List.mem_cons_of_mem _ hy)⟩
theorem goodL_pre : ∀ (l : List LT) (d : Nat), (∀ y ∈ preL d l, KindOk y.2) → GoodTL l
  | [], d, h => by rw [GoodTL]; trivial
  | t :: ts, d, h => by
    rw [GoodTL]
    rw [preL] at h
    exact ⟨good_pre t d fun y hy => h y (List.mem_append_left _ hy), goodL_pre ts d fun y hy => h y (List.mem_append_right _ hy)⟩
end
theorem kind_ok {x : LT} (h1 : OwnP x) (h2 : NodeJ x) : KindOk x := by
  obtain ⟨k, n, e, s, a, cap, kids⟩ := x
  by_cases hr : 0 ≤ k ∧ k ≤ 9
  · rcases (show k = 0 ∨ k = 1 ∨ k = 2 ∨ k = 3 ∨ k = 4 ∨ k = 5 ∨ k = 6 ∨ k = 7 ∨ k = 8 ∨ k = 9 by omega) with rfl | rfl | rfl | rfl | rfl | rfl | rfl | rfl | rfl | rfl
    · exact ⟨.inl rfl, fun h => (by cases h)⟩
    · exact ⟨.inr (.inl rfl), fun h => (by cases h)⟩
    · exact ⟨.inr (.inr (.inl rfl)), fun h => (by cases h)⟩
    · exact ⟨.inr (.inr (.inr (.inl ⟨.inl rfl, h1⟩))), fun h => (by cases h)⟩
    · exact ⟨.inr (.inr (.inr (.inl ⟨.inr rfl, h1⟩))), fun h => (by cases h)⟩
    · have h3 : n = 0 ∧ e = 0 ∧ sign.textOk s = true ∧ s.size ≤ 2000 ∧ kids.length = 0 := h1
      exact ⟨.inr (.inr (.inr (.inr (.inl rfl)))), fun _ => h3.2.2.2.1⟩
    · exact absurd rfl h2.1
    · exact ⟨.inr (.inr (.inr (.inr (.inr (.inl rfl))))), fun h => (by cases h)⟩
    · exact ⟨.inr (.inr (.inr (.inr (.inr (.inr rfl))))), fun h => (by cases h)⟩
    · exact absurd rfl h2.2.1
  · exfalso
    unfold OwnP at h1
    have h0 : ¬ (k = 0 ∨ k = 1 ∨ k = 2) := by omega
    have h3 : ¬ (k = 3 ∨ k = 4) := by omega
    have h5 : ¬ k = 5 := by omega
    have h6 : ¬ k = 6 := by omega
    have h7 : ¬ k = 7 := by omega
    have h8 : ¬ k = 8 := by omega
    have h9 : ¬ k = 9 := by omega
    have hk : (val.LT.mk k n e s a cap kids).k = k := rfl
    simp only [hk, h0, h3, h5, h6, h7, h8, h9, if_false] at h1
/-- The nodes of a value that fits. -/
theorem fits_kinds {t : LT} (h : FitsJ t) : ∀ y ∈ t.pre 0, KindOk y.2 := fun y hy => by
  have hv := (valid_iff t).1 h.1
  have h1 := ((right_pre t 12 0).1 hv.1).2 y hy
  exact kind_ok h1.2 (h.2 y hy)
theorem fits_good {t : LT} (h : FitsJ t) : GoodT t := good_pre t 0 (fits_kinds h)
theorem quoteB_len (b : UInt8) : (quote.quoteB b).length ≤ 6 := by
  have : ∀ i : Fin 256, (quote.quoteB (UInt8.ofNat i.val)).length ≤ 6 := by decide +kernel
  have h := this ⟨b.toNat, b.toNat_lt⟩
  simpa using h
theorem quoteL_len (l : List UInt8) : (quote.quoteL l).length ≤ 6 * l.length := by
  unfold quote.quoteL
  induction l with
  | nil => simp
  | cons b l ih =>
    rw [List.flatMap_cons, List.length_append, List.length_cons]
    have := quoteB_len b
    omega
theorem quote_len (s : ByteArray) : (quote.quoteOf s).data.toList.length ≤ 6 * s.size + 2 := by
  unfold quote.quoteOf
  split
  · have h1 := quoteL_len s.data.toList
    have e : s.data.toList.length = s.size := by simp
    simp
    omega
  · simp
theorem text_len {n e : Int} (hn : InI n) (he : -20 ≤ e ∧ e ≤ 20) : (numtext.textL n e).length ≤ 100 := by
  have h1 := Lib.itoa_length_le n hn.1 hn.2
  have h2 := Lib.itoa_length_le e (by omega) (by omega)
  unfold numtext.textL
  split
  · rw [List.length_append, List.length_cons]; omega
  · split
    · omega
    · have h3 := (numtext.dig_len n.natAbs (by have := hn.1; have := hn.2; omega)).2
      have h4 := numtext.padL_len (Lib.decDigits n.natAbs) (-e).toNat
      have h5 : (numtext.pointL (Lib.decDigits n.natAbs) (-e).toNat).length = (numtext.padL (Lib.decDigits n.natAbs) (-e).toNat).length + 1 := by
        unfold numtext.pointL numtext.headL numtext.tailL
        rw [List.length_append, List.length_cons, List.length_take, List.length_drop]
        omega
      rw [List.length_append, h5, h4]
      split <;> simp <;> omega
theorem word_len (k : Int) : (wordL k).length ≤ 5 := by
  unfold wordL
  (repeat' split) <;> simp
theorem sep_len (p : Bool) (k : Int) (lv i : Nat) : (sepL p k lv i).length ≤ 2 * lv + 4 := by
  unfold sepL
  split
  · unfold colonL; cases p <;> simp <;> omega
  · have := line_len p (lv + 1)
    rw [List.length_append]
    split <;> simp <;> omega
mutual
theorem json_len (p : Bool) : ∀ (t : LT) (d lv : Nat), (∀ y ∈ t.pre d, KindOk y.2 ∧ InI y.2.n) → lv + t.nodes ≤ 1000 → (jsonT p lv t).length + 2010 ≤ 17000 * t.nodes
  | .mk k n e s a cap kids, d, lv, h, hlv => by
    rw [LT.pre] at h
    obtain ⟨hk, hn⟩ := h _ (List.mem_cons_self ..)
    rw [LT.nodes] at hlv ⊢
    have hi := items_len p k kids (d + 1) lv 0 (fun y hy => h y (List.mem_cons_of_mem _ hy)) (by omega)
    have hl := line_len p lv
    rw [jsonT]
    by_cases h0 : k = 0 ∨ k = 1 ∨ k = 2
    · rw [if_pos h0]
      have := word_len k
      omega
    · rw [if_neg h0]
      by_cases h3 : k = 3 ∨ k = 4
      · rw [if_pos h3]
        have hok : numOk (.mk k n e s a cap kids) = true := by
          rcases hk.kind with h | h | h | h | h | h | h
          · exact absurd (show k = 0 from h) (by omega)
          · exact absurd (show k = 1 from h) (by omega)
          · exact absurd (show k = 2 from h) (by omega)
          · exact h.2
          · exact absurd (show k = 5 from h) (by omega)
          · exact absurd (show k = 7 from h) (by omega)
          · exact absurd (show k = 8 from h) (by omega)
        have hin : isNum (.mk k n e s a cap kids) = true := by
          unfold isNum
          have hkk : (val.LT.mk k n e s a cap kids).k = k := rfl
          rw [hkk, hok]
          rcases h3 with rfl | rfl <;> rfl
        have := text_len hn (isNum_e hin)
        have e1 : (val.LT.mk k n e s a cap kids).n = n := rfl
        have e2 : (val.LT.mk k n e s a cap kids).e = e := rfl
        rw [e1, e2] at this
        omega
      · rw [if_neg h3]
        by_cases h5 : k = 5
        · rw [if_pos h5]
          have h6 := quote_len s
          have h7 : s.size ≤ 2000 := hk.text h5
          omega
        · rw [if_neg h5]
          simp only [List.length_append]
          have o1 : (if k = 8 then [123] else [91] : List UInt8).length = 1 := by split <;> rfl
          have o2 : (if k = 8 then [125] else [93] : List UInt8).length = 1 := by split <;> rfl
          have o3 : (if kids.length = 0 then [] else lineL p lv).length ≤ 2 * lv + 1 := by
            split
            · simp
            · exact hl
          omega
theorem items_len (p : Bool) (k : Int) : ∀ (l : List LT) (d lv i : Nat), (∀ y ∈ preL d l, KindOk y.2 ∧ InI y.2.n) → lv + 1 + LT.nodesL l ≤ 1000 → (itemsT p k lv i l).length ≤ 17000 * LT.nodesL l
  | [], d, lv, i, h, hlv => by rw [itemsT]; simp
  | t :: ts, d, lv, i, h, hlv => by
    rw [preL] at h
    rw [LT.nodesL] at hlv ⊢
    have h1 := json_len p t d (lv + 1) (fun y hy => h y (List.mem_append_left _ hy)) (by omega)
    have h2 := items_len p k ts d lv (i + 1) (fun y hy => h y (List.mem_append_right _ hy)) (by omega)
    have h3 := sep_len p k lv i
    rw [itemsT]
    simp only [List.length_append]
    omega
end
end Go.Proofs.YtnfbjcpoealkoaaGreatDoor.json
