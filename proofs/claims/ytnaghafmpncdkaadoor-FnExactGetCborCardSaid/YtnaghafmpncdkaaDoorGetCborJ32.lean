/-
  Plain: what reading behind the head of a word, a list, a map, a tag is to tell.
-/
import Derived.Test.YtnaghafmpncdkaaDoorGetCborJ28
import Derived.Test.YtnaghafmpncdkaaDoorGetCborJ31
namespace Go.Proofs.YtnaghafmpncdkaaDoor.cbor
open Go.RowKit
open Go.Proofs.YtnaghafmpncdkaaDoor.val Go.Proofs.YtnaghafmpncdkaaDoor.head
set_option maxRecDepth 100000

theorem view7 {v : VT} (h : View v) {m : Nat} (h1 : (lead v).1 = m) (hm : m = 7) : ∃ k N, ((k = 0 ∧ N = 22) ∨ (k = 1 ∧ N = 20) ∨ (k = 2 ∧ N = 21)) ∧ v = .mk k 0 0 ⟨#[]⟩ [] := by
  cases h with
  | word k N h => exact ⟨k, N, h, rfl⟩
  | int z h => rw [lead3] at h1; split at h1 <;> simp at h1 <;> omega
  | dec => rw [lead4] at h1; simp at h1; omega
  | text => rw [lead5] at h1; simp at h1; omega
  | bytes => rw [lead6] at h1; simp at h1; omega
  | list => rw [lead7] at h1; simp at h1; omega
  | map => rw [lead8] at h1; simp at h1; omega
  | tag => rw [lead9] at h1; simp at h1; omega
theorem view4 {v : VT} (h : View v) (h1 : (lead v).1 = 4) : ∃ l : List VT, l.length ≤ 300 ∧ FitVL l ∧ v = .mk 7 0 0 ⟨#[]⟩ l := by
  cases h with
  | word k N h => rw [leadw h] at h1; simp at h1
  | int z h => rw [lead3] at h1; split at h1 <;> simp at h1
  | dec => rw [lead4] at h1; simp at h1
  | text => rw [lead5] at h1; simp at h1
  | bytes => rw [lead6] at h1; simp at h1
  | list l h hf => exact ⟨l, h, hf, rfl⟩
  | map => rw [lead8] at h1; simp at h1
  | tag => rw [lead9] at h1; simp at h1
theorem view5 {v : VT} (h : View v) (h1 : (lead v).1 = 5) : ∃ l : List VT, l.length ≤ 600 ∧ l.length % 2 = 0 ∧ FitVL l ∧ v = .mk 8 0 0 ⟨#[]⟩ l := by
  cases h with
  | word k N h => rw [leadw h] at h1; simp at h1
  | int z h => rw [lead3] at h1; split at h1 <;> simp at h1
  | dec => rw [lead4] at h1; simp at h1
  | text => rw [lead5] at h1; simp at h1
  | bytes => rw [lead6] at h1; simp at h1
  | list => rw [lead7] at h1; simp at h1
  | map l h h2 hf => exact ⟨l, h, h2, hf, rfl⟩
  | tag => rw [lead9] at h1; simp at h1
theorem view6 {v : VT} (h : View v) (h1 : (lead v).1 = 6) : (∃ n e, InI n ∧ InI e ∧ v = .mk 4 n e ⟨#[]⟩ []) ∨ ∃ n t, 0 ≤ n ∧ n ≤ 1000000 ∧ n ≠ 4 ∧ FitV t ∧ v = .mk 9 n 0 ⟨#[]⟩ [t] := by
  cases h with
  | word k N h => rw [leadw h] at h1; simp at h1
  | int z h => rw [lead3] at h1; split at h1 <;> simp at h1
  | dec n e h h2 => exact .inl ⟨n, e, h, h2, rfl⟩
  | text => rw [lead5] at h1; simp at h1
  | bytes => rw [lead6] at h1; simp at h1
  | list => rw [lead7] at h1; simp at h1
  | map => rw [lead8] at h1; simp at h1
  | tag n t h0 hh h4 hf => exact .inr ⟨n, t, h0, hh, h4, hf, rfl⟩
theorem body_word {s : ByteArray} {n i c : Nat} {k : Int} (hk : (k = 0 ∧ n = 22) ∨ (k = 1 ∧ n = 20) ∨ (k = 2 ∧ n = 21)) : Body s 7 n i c (.mk k 0 0 ⟨#[]⟩ []) i c false := by
  refine ⟨fun _ _ => by rw [cborw hk], fun v0 r0 hf h1 h2 hd hc => ?_⟩
  obtain ⟨k0, N, h0, rfl⟩ := view7 (view hf) h1 rfl
  rw [leadw h0] at h2 ⊢
  simp only at h2
  obtain rfl : k = k0 := by omega
  refine ⟨rfl, rfl, by simp, ?_⟩
  rw [heads_leaf (by omega)]
theorem body_word_no {s : ByteArray} {n i c : Nat} (h20 : n ≠ 20) (h21 : n ≠ 21) (h22 : n ≠ 22) (v : VT) (j c' : Nat) : Body s 7 n i c v j c' true := by
  refine body_none v j c' fun v0 r0 hf h1 h2 _ _ => ?_
  obtain ⟨k0, N, h0, rfl⟩ := view7 hf h1 rfl
  rw [leadw h0] at h2
  simp only at h2
  omega
theorem heads7 (n e : Int) (s : ByteArray) (l : List VT) : heads (.mk 7 n e s l) = 1 + headsL l := by rw [heads, if_neg (by decide)]
theorem heads8 (n e : Int) (s : ByteArray) (l : List VT) : heads (.mk 8 n e s l) = 1 + headsL l := by rw [heads, if_neg (by decide)]
theorem heads9 (n e : Int) (s : ByteArray) (t : VT) : heads (.mk 9 n e s [t]) = 1 + heads t := by rw [heads, if_neg (by decide), headsL, headsL]; omega
theorem cbor7 (n e : Int) (s : ByteArray) (l : List VT) : cborT (.mk 7 n e s l) = headL 4 l.length ++ cborTL l := by
  rw [cborT]
  simp only [show ¬ (7 : Int) = 0 by decide, show ¬ (7 : Int) = 1 by decide, show ¬ (7 : Int) = 2 by decide, show ¬ (7 : Int) = 3 by decide, show ¬ (7 : Int) = 4 by decide, show ¬ (7 : Int) = 5 by decide, show ¬ (7 : Int) = 6 by decide, if_false, if_true]
theorem cbor8 (n e : Int) (s : ByteArray) (l : List VT) : cborT (.mk 8 n e s l) = headL 5 (l.length / 2) ++ cborTL l := by
  rw [cborT]
  simp only [show ¬ (8 : Int) = 0 by decide, show ¬ (8 : Int) = 1 by decide, show ¬ (8 : Int) = 2 by decide, show ¬ (8 : Int) = 3 by decide, show ¬ (8 : Int) = 4 by decide, show ¬ (8 : Int) = 5 by decide, show ¬ (8 : Int) = 6 by decide, show ¬ (8 : Int) = 7 by decide, if_false, if_true]
theorem cbor9 (n e : Int) (s : ByteArray) (t : VT) : cborT (.mk 9 n e s [t]) = headL 6 n.toNat ++ cborT t := by
  rw [cborT]
  simp only [show ¬ (9 : Int) = 0 by decide, show ¬ (9 : Int) = 1 by decide, show ¬ (9 : Int) = 2 by decide, show ¬ (9 : Int) = 3 by decide, show ¬ (9 : Int) = 4 by decide, show ¬ (9 : Int) = 5 by decide, show ¬ (9 : Int) = 6 by decide, show ¬ (9 : Int) = 7 by decide, show ¬ (9 : Int) = 8 by decide, if_false]
  rw [cborTL, cborTL, List.append_nil]
theorem cbor4 (n e : Int) (s : ByteArray) (l : List VT) : cborT (.mk 4 n e s l) = headL 6 4 ++ (headL 4 2 ++ (intL e ++ intL n)) := by
  rw [cborT]
  simp only [show ¬ (4 : Int) = 0 by decide, show ¬ (4 : Int) = 1 by decide, show ¬ (4 : Int) = 2 by decide, show ¬ (4 : Int) = 3 by decide, if_false, if_true]
theorem cbor3 (n e : Int) (s : ByteArray) (l : List VT) : cborT (.mk 3 n e s l) = intL n := by
  rw [cborT]
  simp only [show ¬ (3 : Int) = 0 by decide, show ¬ (3 : Int) = 1 by decide, show ¬ (3 : Int) = 2 by decide, if_false, if_true]
theorem fit_int {n : Int} (h : InI n) : FitV (.mk 3 n 0 ⟨#[]⟩ []) := by rw [FitV]; exact ⟨.int h rfl, by rw [FitVL]; trivial⟩
theorem body_list {s : ByteArray} {n i c : Nat} {l : List VT} {j c' : Nat} (hl : l.length = n) (h : Many s i c l j c' false) : Body s 4 n i c (.mk 7 0 0 ⟨#[]⟩ l) j c' false := by
  refine ⟨fun _ hf => ?_, fun v0 r0 hf h1 h2 hd hc => ?_⟩
  · rw [FitV] at hf
    rw [cbor7, hl, h.snd rfl hf.2, List.append_assoc]
  · obtain ⟨l0, h3, h4, rfl⟩ := view4 (view hf) h1
    rw [lead7] at h2 hd ⊢
    rw [heads7] at hc ⊢
    obtain ⟨g1, g2, g3, g4⟩ := h.all h4 hd (by omega) (by rw [hl]; exact h2.symm)
    subst g2
    exact ⟨rfl, rfl, g3, by omega⟩
theorem body_list_no {s : ByteArray} {n i c : Nat} {l : List VT} {j c' : Nat} (hl : l.length ≤ n) (h : Many s i c l j c' true) (v : VT) (J C : Nat) : Body s 4 n i c v J C true := by
  refine body_none v J C fun v0 r0 hf h1 h2 hd hc => ?_
  obtain ⟨l0, h3, h4, rfl⟩ := view4 hf h1
  rw [lead7] at h2 hd
  rw [heads7] at hc
  have := (h.cmp l0 r0 h4 hd (by omega) (by simp only at h2; omega)).1
  cases this
theorem body_map {s : ByteArray} {n i c : Nat} {l : List VT} {j c' : Nat} (hl : l.length = 2 * n) (h : Many s i c l j c' false) : Body s 5 n i c (.mk 8 0 0 ⟨#[]⟩ l) j c' false := by
  refine ⟨fun _ hf => ?_, fun v0 r0 hf h1 h2 hd hc => ?_⟩
  · rw [FitV] at hf
    rw [cbor8, hl, show 2 * n / 2 = n by omega, h.snd rfl hf.2, List.append_assoc]
  · obtain ⟨l0, h3, h5, h4, rfl⟩ := view5 (view hf) h1
    rw [lead8] at h2 hd ⊢
    rw [heads8] at hc ⊢
    simp only at h2
    obtain ⟨g1, g2, g3, g4⟩ := h.all h4 hd (by omega) (by omega)
    subst g2
    exact ⟨rfl, rfl, g3, by omega⟩
theorem body_map_no {s : ByteArray} {n i c : Nat} {l : List VT} {j c' : Nat} (hl : l.length ≤ 2 * n) (h : Many s i c l j c' true) (v : VT) (J C : Nat) : Body s 5 n i c v J C true := by
  refine body_none v J C fun v0 r0 hf h1 h2 hd hc => ?_
  obtain ⟨l0, h3, h5, h4, rfl⟩ := view5 hf h1
  rw [lead8] at h2 hd
  rw [heads8] at hc
  simp only at h2
  have := (h.cmp l0 r0 h4 hd (by omega) (by omega)).1
  cases this
theorem body_far {s : ByteArray} {m n i c : Nat} (hm : m = 4 ∨ m = 5) (hn : 300 < n) (v : VT) (J C : Nat) : Body s m n i c v J C true := by
  refine body_none v J C fun v0 r0 hf h1 h2 hd hc => ?_
  rcases hm with rfl | rfl
  · obtain ⟨l0, h3, h4, rfl⟩ := view4 hf h1
    rw [lead7] at h2
    simp only at h2
    omega
  · obtain ⟨l0, h3, h5, h4, rfl⟩ := view5 hf h1
    rw [lead8] at h2
    simp only at h2
    omega
/-- The two parts of a decimal, as a list. -/
def pairV (e n : Int) : VT := .mk 7 0 0 ⟨#[]⟩ [.mk 3 e 0 ⟨#[]⟩ [], .mk 3 n 0 ⟨#[]⟩ []]
theorem pair_fit {e n : Int} (he : InI e) (hn : InI n) : FitV (pairV e n) := by
  unfold pairV
  rw [FitV]
  refine ⟨.list rfl (by simp), ?_⟩
  rw [FitVL, FitVL, FitVL]
  exact ⟨fit_int he, fit_int hn, trivial⟩
theorem pair_cbor (e n : Int) : cborT (pairV e n) = headL 4 2 ++ (intL e ++ intL n) := by
  unfold pairV
  rw [cbor7, cborTL, cborTL, cborTL, cbor3, cbor3, List.append_nil]
  rfl
theorem pair_heads (e n : Int) : heads (pairV e n) = 3 := by
  unfold pairV
  rw [heads7, headsL, headsL, headsL, heads_leaf (by decide), heads_leaf (by decide)]
theorem heads4 (n e : Int) (s : ByteArray) (l : List VT) : heads (.mk 4 n e s l) = 4 := by rw [heads, if_pos rfl]
theorem body_dec {s : ByteArray} {i c : Nat} {n e : Int} {j c' : Nat} (hn : InI n) (he : InI e) (h : Got s i c (pairV e n) j c' false) : Body s 6 4 i c (.mk 4 n e ⟨#[]⟩ []) j c' false := by
  refine ⟨fun _ _ => ?_, fun v0 r0 hf h1 h2 hd hc => ?_⟩
  · rw [cbor4, ← pair_cbor, h.snd rfl (pair_fit he hn), List.append_assoc]
  · rcases view6 (view hf) h1 with ⟨n0, e0, hn0, he0, rfl⟩ | ⟨n0, t, g0, g1, g4, hft, rfl⟩
    · rw [lead4] at hd ⊢
      rw [heads4] at hc ⊢
      rw [← pair_cbor] at hd ⊢
      obtain ⟨g1, g2, g3, g4⟩ := h.cmp _ r0 (pair_fit he0 hn0) hd (by rw [pair_heads]; omega)
      rw [pair_heads] at g4
      unfold pairV at g2
      injection g2 with _ _ _ _ g2
      injection g2 with g5 g2
      injection g2 with g6 _
      injection g5 with _ g5
      injection g6 with _ g6
      subst g5
      subst g6
      exact ⟨rfl, rfl, g3, by omega⟩
    · rw [lead9] at h2
      simp only at h2
      omega
/-- A tag 4 is one of a pair of numbers. -/
theorem body_tag4 {s : ByteArray} {i c : Nat} {kid : VT} {j c' : Nat} {bad : Bool} {e : Int} {t : ByteArray} (h : Got s i c kid j c' bad) (hp : ∀ e n, InI e → InI n → kid ≠ pairV e n) : Body s 6 4 i c (.mk 9 4 e t [kid]) j c' bad := by
  refine ⟨fun _ hf => ?_, fun v0 r0 hf h1 h2 hd hc => ?_⟩
  · rw [FitV] at hf
    have := hf.1
    cases this with
    | tag _ _ h4 _ => exact (h4 rfl).elim
  · rcases view6 (view hf) h1 with ⟨n0, e0, hn0, he0, rfl⟩ | ⟨n0, t, g0, g1, g4, hft, rfl⟩
    · rw [lead4] at hd
      rw [heads4] at hc
      rw [← pair_cbor] at hd
      exact (hp _ _ he0 hn0 (h.cmp _ r0 (pair_fit he0 hn0) hd (by rw [pair_heads]; omega)).2.1).elim
    · rw [lead9] at h2
      simp only at h2
      omega
/-- Another tag: N is its number as 64 bits. -/
theorem body_tag {s : ByteArray} {i c n : Nat} {N : Int} {kid : VT} {j c' : Nat} {bad : Bool} (h : Got s i c kid j c' bad) (h4 : n ≠ 4) (hN : (0 ≤ N → N = n) ∧ (n ≤ 1000000 → N = n)) : Body s 6 n i c (.mk 9 N 0 ⟨#[]⟩ [kid]) j c' bad := by
  refine ⟨fun hb hf => ?_, fun v0 r0 hf h1 h2 hd hc => ?_⟩
  · rw [FitV, FitVL] at hf
    have h0 : 0 ≤ N := by have := hf.1; cases this with | tag h0 _ _ _ => exact h0
    have e := hN.1 h0
    rw [cbor9, e, Int.toNat_natCast, h.snd hb hf.2.1, List.append_assoc]
  · rcases view6 (view hf) h1 with ⟨n0, e0, hn0, he0, rfl⟩ | ⟨n0, t, g0, g1, g4, hft, rfl⟩
    · rw [lead4] at h2
      simp only at h2
      omega
    · rw [lead9] at h2 hd ⊢
      rw [heads9] at hc ⊢
      simp only at h2
      rw [cborTL, cborTL, List.append_nil] at hd ⊢
      obtain ⟨q1, q2, q3, q4⟩ := h.cmp t r0 hft hd (by omega)
      subst q2
      have e := hN.2 (by omega)
      refine ⟨q1, ?_, q3, by omega⟩
      rw [e, ← h2, Int.toNat_of_nonneg g0]
end Go.Proofs.YtnaghafmpncdkaaDoor.cbor
/-
  Plain: what spec's reader of CBOR is to tell of values one behind the other, and of what stands behind each head.
-/
namespace Go.Proofs.YtnaghafmpncdkaaDoor.cbor
open Go.RowKit
open Go.Proofs.YtnaghafmpncdkaaDoor.val Go.Proofs.YtnaghafmpncdkaaDoor.head
set_option maxRecDepth 100000

/-- As Whole0, of a value with no more heads than there can be. -/
def Whole (s : ByteArray) (i left deep : Nat) (v : VT) (next left' : Int) : Prop :=
  ∀ v0 r0, FitV v0 → D s i = cborT v0 ++ r0 → heads v0 ≤ left → heads v0 ≤ Lim → deep + deepC v0 ≤ 14 → v = v0 ∧ next = i + (cborT v0).length ∧ left' = left - heads v0
/-- So many values that stand one behind the other are the ones read. -/
def ManyS (s : ByteArray) (i left deep : Nat) (done : List VT) (j left' : Int) : Prop :=
  ∀ l0 r0, FitVL l0 → D s i = cborTL l0 ++ r0 → headsL l0 ≤ left → headsL l0 ≤ Lim → (∀ x ∈ l0, deep + 1 + deepC x ≤ 14) → done.length ≤ l0.length → done = l0.take done.length ∧ j = i + (cborTL done).length ∧ left' = left - headsL done
/-- So many values don't stand there. -/
def NoMany (s : ByteArray) (i left deep N : Nat) : Prop :=
  ∀ l0 r0, FitVL l0 → D s i = cborTL l0 ++ r0 → headsL l0 ≤ left → headsL l0 ≤ Lim → (∀ x ∈ l0, deep + 1 + deepC x ≤ 14) → l0.length = N → False
theorem ManyS.start (s : ByteArray) (i left deep : Nat) : ManyS s i left deep [] i left :=
  fun l0 r0 _ _ _ _ _ _ => ⟨rfl, by simp [cborTL], by simp [headsL]⟩
theorem many_next {done l0 : List VT} (h : done = l0.take done.length) (hl : done.length < l0.length) : ∃ v0 l1, l0 = done ++ v0 :: l1 := by
  refine ⟨l0[done.length], l0.drop (done.length + 1), ?_⟩
  rw [List.getElem_cons_drop]
  have e := List.take_append_drop done.length l0
  rw [← h] at e
  exact e.symm
theorem ManyS.step {s : ByteArray} {i left deep : Nat} {done : List VT} {j l : Nat} {v : VT} {next left' : Int} (h : ManyS s i left deep done j l) (g : Whole s j l (deep + 1) v next left') : ManyS s i left deep (done ++ [v]) next left' := by
  intro l0 r0 hf hd hc hL hp hl
  rw [List.length_append, List.length_singleton] at hl
  obtain ⟨h2, h3, h4⟩ := h l0 r0 hf hd hc hL hp (by omega)
  obtain ⟨v0, l1, rfl⟩ := many_next h2 (by omega)
  clear h2
  rw [fitVL_append, FitVL] at hf
  rw [cborTL_append, cborTL, List.append_assoc, List.append_assoc] at hd
  rw [headsL_append, headsL] at hc hL
  have hd2 := D_add hd
  rw [show i + (cborTL done).length = j by omega] at hd2
  obtain ⟨g2, g3, g4⟩ := g v0 _ hf.2.1 hd2 (by omega) (by omega) (hp v0 (by simp))
  subst g2
  refine ⟨?_, ?_, ?_⟩
  · rw [List.length_append, List.length_singleton, List.take_length_add_append]
    rfl
  · rw [g3, cborTL_append, cborTL, cborTL, List.append_nil, List.length_append]; omega
  · rw [g4, headsL_append, headsL, headsL]; omega
theorem ManyS.fail {s : ByteArray} {i left deep : Nat} {done : List VT} {j l N : Nat} {v : VT} {left' : Int} (h : ManyS s i left deep done j l) (g : Whole s j l (deep + 1) v (-1) left') (hN : done.length < N) : NoMany s i left deep N := by
  intro l0 r0 hf hd hc hL hp hl
  obtain ⟨h2, h3, h4⟩ := h l0 r0 hf hd hc hL hp (by omega)
  obtain ⟨v0, l1, rfl⟩ := many_next h2 (by omega)
  clear h2
  rw [fitVL_append, FitVL] at hf
  rw [cborTL_append, cborTL, List.append_assoc, List.append_assoc] at hd
  rw [headsL_append, headsL] at hc hL
  have hd2 := D_add hd
  rw [show i + (cborTL done).length = j by omega] at hd2
  have g3 := (g v0 _ hf.2.1 hd2 (by omega) (by omega) (hp v0 (by simp))).2.1
  omega
/-- No value with one form stands there. -/
theorem whole_none {s : ByteArray} {i left deep : Nat} (v : VT) (next left' : Int) (h : ¬ (anyOk s i ∧ short s i)) : Whole s i left deep v next left' := fun v0 r0 hf hd _ _ _ => by
  have := (lead_at hf hd).1
  exact (h ⟨this.ok, this.short⟩).elim
theorem whole_end {s : ByteArray} {i left deep : Nat} (v : VT) (next left' : Int) (h : left = 0 ∨ 14 < deep ∨ i = s.size) : Whole s i left deep v next left' := fun v0 r0 hf hd hh _ hp => by
  rcases h with h | h | h
  · have := heads_pos v0; omega
  · omega
  · have := (lead_at hf hd).1.ok.1; omega
theorem whole_body {s : ByteArray} {i left deep : Nat} {v : VT} {j c' : Nat} (ho : anyOk s i) (hs : short s i) (h : Body s (maj s i) (num s i) (i + (1 + many s i)) 1 v j c' false) : Whole s i left deep v j ((left : Int) - c') := fun v0 r0 hf hd _ hL _ => by
  have g : Got s i 0 v j c' false := got_body ho hs h
  obtain ⟨_, h2, h3, h4⟩ := g.cmp v0 r0 hf hd (by omega)
  exact ⟨h2, by omega, by omega⟩
theorem whole_bad {s : ByteArray} {i left deep : Nat} {v : VT} {j c' : Nat} (ho : anyOk s i) (hs : short s i) (h : Body s (maj s i) (num s i) (i + (1 + many s i)) 1 v j c' true) (v' : VT) (next left' : Int) : Whole s i left deep v' next left' := fun v0 r0 hf hd _ hL _ => by
  have g : Got s i 0 v j c' true := got_body ho hs h
  have := (g.cmp v0 r0 hf hd (by omega)).1
  cases this
theorem whole_lead {s : ByteArray} {i left deep : Nat} {v : VT} {next left' : Int}
    (h : ∀ v0 r0, View v0 → (lead v0).1 = maj s i → (lead v0).2.1 = num s i → D s (i + (1 + many s i)) = (lead v0).2.2 ++ r0 → heads v0 ≤ left → heads v0 ≤ Lim → deep + deepC v0 ≤ 14 → v = v0 ∧ next = ((i + (1 + many s i) : Nat) : Int) + (lead v0).2.2.length ∧ left' = left - heads v0) : Whole s i left deep v next left' := fun v0 r0 hf hd hh hL hp => by
  obtain ⟨ha, hd2⟩ := lead_at hf hd
  obtain ⟨h1, h2, h3⟩ := h v0 r0 (view hf) ha.maj.symm ha.num.symm hd2 hh hL hp
  refine ⟨h1, ?_, h3⟩
  rw [h2, lead_eq, List.length_append, ← ha.len]
  omega
theorem deepCL_mem {l : List VT} {x : VT} (h : x ∈ l) : deepC x + 1 ≤ deepCL l := by
  induction l with
  | nil => cases h
  | cons t ts ih =>
    rw [deepCL]
    rcases List.mem_cons.1 h with rfl | h
    · omega
    · have := ih h; omega
theorem deep7 (n e : Int) (s : ByteArray) (l : List VT) : deepC (.mk 7 n e s l) = deepCL l := by rw [deepC, if_neg (by decide)]
theorem deep8 (n e : Int) (s : ByteArray) (l : List VT) : deepC (.mk 8 n e s l) = deepCL l := by rw [deepC, if_neg (by decide)]
theorem deep9 (n e : Int) (s : ByteArray) (t : VT) : deepC (.mk 9 n e s [t]) = deepC t + 1 := by rw [deepC, if_neg (by decide), deepCL, deepCL]; omega
theorem deep4 (n e : Int) (s : ByteArray) (l : List VT) : deepC (.mk 4 n e s l) = 2 := by rw [deepC, if_pos rfl]
theorem deep3 (n e : Int) (s : ByteArray) : deepC (.mk 3 n e s []) = 0 := by rw [deepC, if_neg (by decide), deepCL]
theorem pair_deep (e n : Int) : deepC (pairV e n) = 1 := by
  unfold pairV
  rw [deep7, deepCL, deepCL, deepCL, deep3, deep3]; rfl
section
variable {s : ByteArray} {i left deep : Nat}
theorem whole_list {N : Nat} {done : List VT} {j left' : Int} (hm : maj s i = 4) (hN : num s i = N) (h : ManyS s (i + (1 + many s i)) (left - 1) deep done j left') (hl : done.length = N) : Whole s i left deep (.mk 7 0 0 ⟨#[]⟩ done) j left' :=
  whole_lead fun v0 r0 hf h1 h2 hd hh hL hp => by
    rw [hm] at h1
    obtain ⟨l0, h3, h4, rfl⟩ := view4 hf h1
    rw [lead7] at h2 hd ⊢
    rw [heads7] at hh hL ⊢
    rw [deep7] at hp
    simp only at h2 hd ⊢
    obtain ⟨g2, g3, g4⟩ := h l0 r0 h4 hd (by omega) (by omega) (fun x hx => by have := deepCL_mem hx; omega) (by omega)
    rw [show done.length = l0.length by omega, List.take_length] at g2
    subst g2
    exact ⟨rfl, g3, by omega⟩
theorem whole_list_no {N : Nat} (hm : maj s i = 4) (hN : num s i = N) (h : NoMany s (i + (1 + many s i)) (left - 1) deep N) (v : VT) (next left' : Int) : Whole s i left deep v next left' :=
  whole_lead fun v0 r0 hf h1 h2 hd hh hL hp => by
    rw [hm] at h1
    obtain ⟨l0, h3, h4, rfl⟩ := view4 hf h1
    rw [lead7] at h2 hd
    rw [heads7] at hh hL
    rw [deep7] at hp
    simp only at h2 hd
    exact (h l0 r0 h4 hd (by omega) (by omega) (fun x hx => by have := deepCL_mem hx; omega) (by omega)).elim
theorem whole_map {N : Nat} {done : List VT} {j left' : Int} (hm : maj s i = 5) (hN : num s i = N) (h : ManyS s (i + (1 + many s i)) (left - 1) deep done j left') (hl : done.length = 2 * N) : Whole s i left deep (.mk 8 0 0 ⟨#[]⟩ done) j left' :=
  whole_lead fun v0 r0 hf h1 h2 hd hh hL hp => by
    rw [hm] at h1
    obtain ⟨l0, h3, h5, h4, rfl⟩ := view5 hf h1
    rw [lead8] at h2 hd ⊢
    rw [heads8] at hh hL ⊢
    rw [deep8] at hp
    simp only at h2 hd ⊢
    obtain ⟨g2, g3, g4⟩ := h l0 r0 h4 hd (by omega) (by omega) (fun x hx => by have := deepCL_mem hx; omega) (by omega)
    rw [show done.length = l0.length by omega, List.take_length] at g2
    subst g2
    exact ⟨rfl, g3, by omega⟩
theorem whole_map_no {N : Nat} (hm : maj s i = 5) (hN : num s i = N) (h : NoMany s (i + (1 + many s i)) (left - 1) deep (2 * N)) (v : VT) (next left' : Int) : Whole s i left deep v next left' :=
  whole_lead fun v0 r0 hf h1 h2 hd hh hL hp => by
    rw [hm] at h1
    obtain ⟨l0, h3, h5, h4, rfl⟩ := view5 hf h1
    rw [lead8] at h2 hd
    rw [heads8] at hh hL
    rw [deep8] at hp
    simp only at h2 hd
    exact (h l0 r0 h4 hd (by omega) (by omega) (fun x hx => by have := deepCL_mem hx; omega) (by omega)).elim
theorem whole_tag {n : Nat} {kid : VT} {j left' : Int} (hm : maj s i = 6) (hN : num s i = n) (h4 : n ≠ 4) (hleft : 0 < left) (h : Whole s (i + (1 + many s i)) (left - 1) (deep + 1) kid j left') : Whole s i left deep (.mk 9 n 0 ⟨#[]⟩ [kid]) j left' :=
  whole_lead fun v0 r0 hf h1 h2 hd hh hL hp => by
    rw [hm] at h1
    rcases view6 hf h1 with ⟨n0, e0, hn0, he0, rfl⟩ | ⟨n0, t, g0, g1, g4, hft, rfl⟩
    · rw [lead4] at h2; simp only at h2; omega
    · rw [lead9] at h2 hd ⊢
      rw [heads9] at hh hL ⊢
      rw [deep9] at hp
      simp only at h2 hd ⊢
      rw [cborTL, cborTL, List.append_nil] at hd ⊢
      obtain ⟨q2, q3, q4⟩ := h t r0 hft hd (by omega) (by omega) (by omega)
      subst q2
      refine ⟨?_, q3, by omega⟩
      congr 1
      omega
theorem whole_tag_no {n : Nat} {kid : VT} {left' : Int} (hm : maj s i = 6) (hN : num s i = n) (hleft : 0 < left) (h : Whole s (i + (1 + many s i)) (left - 1) (deep + 1) kid (-1) left') (v : VT) (next l2 : Int) : Whole s i left deep v next l2 :=
  whole_lead fun v0 r0 hf h1 h2 hd hh hL hp => by
    rw [hm] at h1
    rcases view6 hf h1 with ⟨n0, e0, hn0, he0, rfl⟩ | ⟨n0, t, g0, g1, g4, hft, rfl⟩
    · rw [lead4] at hd
      rw [heads4] at hh hL
      rw [deep4] at hp
      simp only at hd
      rw [← pair_cbor] at hd
      have := (h _ r0 (pair_fit he0 hn0) hd (by rw [pair_heads]; omega) (by rw [pair_heads]; omega) (by rw [pair_deep]; omega)).2.1
      omega
    · rw [lead9] at hd
      rw [heads9] at hh hL
      rw [deep9] at hp
      simp only at hd
      rw [cborTL, cborTL, List.append_nil] at hd
      have := (h t r0 hft hd (by omega) (by omega) (by omega)).2.1
      omega
theorem whole_tag_far {n : Nat} (hm : maj s i = 6) (hN : num s i = n) (hn : 1000000 < n) (v : VT) (next l2 : Int) : Whole s i left deep v next l2 :=
  whole_lead fun v0 r0 hf h1 h2 hd hh hL hp => by
    rw [hm] at h1
    rcases view6 hf h1 with ⟨n0, e0, hn0, he0, rfl⟩ | ⟨n0, t, g0, g1, g4, hft, rfl⟩
    · rw [lead4] at h2; simp only at h2; omega
    · rw [lead9] at h2; simp only at h2; omega
theorem whole_dec {n e : Int} {j left' : Int} (hm : maj s i = 6) (hN : num s i = 4) (hleft : 0 < left) (h : Whole s (i + (1 + many s i)) (left - 1) (deep + 1) (pairV e n) j left') : Whole s i left deep (.mk 4 n e ⟨#[]⟩ []) j left' :=
  whole_lead fun v0 r0 hf h1 h2 hd hh hL hp => by
    rw [hm] at h1
    rcases view6 hf h1 with ⟨n0, e0, hn0, he0, rfl⟩ | ⟨n0, t, g0, g1, g4, hft, rfl⟩
    · rw [lead4] at hd ⊢
      rw [heads4] at hh hL ⊢
      rw [deep4] at hp
      simp only at hd ⊢
      rw [← pair_cbor] at hd ⊢
      obtain ⟨g2, g3, g4⟩ := h _ r0 (pair_fit he0 hn0) hd (by rw [pair_heads]; omega) (by rw [pair_heads]; omega) (by rw [pair_deep]; omega)
      rw [pair_heads] at g4
      unfold pairV at g2
      injection g2 with _ _ _ _ g2
      injection g2 with g5 g2
      injection g2 with g6 _
      injection g5 with _ g5
      injection g6 with _ g6
      subst g5
      subst g6
      exact ⟨rfl, g3, by omega⟩
    · rw [lead9] at h2
      simp only at h2
      omega
theorem whole_dec_no {kid : VT} {j left' : Int} (hm : maj s i = 6) (hN : num s i = 4) (hleft : 0 < left) (h : Whole s (i + (1 + many s i)) (left - 1) (deep + 1) kid j left') (hk : ∀ e n, InI e → InI n → kid ≠ pairV e n) (v : VT) (next l2 : Int) : Whole s i left deep v next l2 :=
  whole_lead fun v0 r0 hf h1 h2 hd hh hL hp => by
    rw [hm] at h1
    rcases view6 hf h1 with ⟨n0, e0, hn0, he0, rfl⟩ | ⟨n0, t, g0, g1, g4, hft, rfl⟩
    · rw [lead4] at hd
      rw [heads4] at hh hL
      rw [deep4] at hp
      simp only at hd
      rw [← pair_cbor] at hd
      exact (hk _ _ he0 hn0 (h _ r0 (pair_fit he0 hn0) hd (by rw [pair_heads]; omega) (by rw [pair_heads]; omega) (by rw [pair_deep]; omega)).1).elim
    · rw [lead9] at h2
      simp only at h2
      omega
end
end Go.Proofs.YtnaghafmpncdkaaDoor.cbor
