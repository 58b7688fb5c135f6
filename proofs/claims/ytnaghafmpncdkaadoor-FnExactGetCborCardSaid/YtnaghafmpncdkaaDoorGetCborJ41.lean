/-
  What impl.GetHead returns: the head at a place of a text if it is the shortest form.
-/
import Derived.Test.YtnaghafmpncdkaaDoorGetCborJ28
import Derived.Test.YtnaghafmpncdkaaDoorGetCborJ24
import Derived.Test.YtnaghafmpncdkaaDoorGetCborJ29
import Derived.Test.YtnaghafmpncdkaaDoorGetCborJ38
import Derived.Test.YtnaghafmpncdkaaDoorGetCborJ40
import Derived.Test.YtnaghafmpncdkaaDoorGetCborJ23
namespace Go.Proofs.YtnaghafmpncdkaaDoor.head
open Go.ChangeShapes Go.WideShapes Go.ChangeAt Go.RowKit
set_option maxRecDepth 100000
variable {T : TypeId} {xs : List Value}

def badAt (s : ByteArray) (i : Int) : Bool := decide (i < 0) || decide ((s.size : Int) < i)
/-- What is to be told of what getHead has read. -/
structure Tells (s : ByteArray) (i : Int) (m n : Nat) (o : Bool) (j : Int) (bad : Bool) : Prop where
  yes : (bad || o || decide (j - i ≠ (headL m n).length)) = false → getHead s i = ((m : Int), n, j)
  no : (bad || o || decide (j - i ≠ (headL m n).length)) = true → getHead s i = (-1, 0, -1)
theorem get_no {s : ByteArray} {i : Int} (h : ¬ (0 ≤ i ∧ anyOk s i.toNat)) : getHead s i = (-1, 0, -1) := by unfold getHead; rw [if_neg (fun h' => h ⟨h'.1, h'.2.1⟩)]
theorem tells_bad {s : ByteArray} {i : Int} (h : ¬ (0 ≤ i ∧ anyOk s i.toNat)) (m n : Nat) (o : Bool) (j : Int) : Tells s i m n o j true := ⟨fun h => by simp at h, fun _ => get_no h⟩
theorem tells_any {W w' : World} {b : Nat} {s : ByteArray} {i m n : Nat} {o : Bool} {j : Int} {bad : Bool} (h : HeadRet T xs W w' b s i m n o j bad) : Tells s i m n o j bad := by
  by_cases hk : anyOk s i
  · obtain ⟨rfl, rfl, rfl, rfl, rfl⟩ := h.yes hk
    have e : ((false || false) || decide ((i : Int) + 1 + many s i - i ≠ ((headL (maj s i) (num s i)).length : Int))) = decide (¬ short s i) := by
      simp only [Bool.false_or, ne_eq]
      congr 1
      apply propext
      unfold short
      constructor <;> (intro h1 h2; apply h1; omega)
    refine ⟨fun ht => ?_, fun ht => ?_⟩
    · rw [e] at ht
      have hs : short s i := by simpa using ht
      unfold getHead
      rw [Int.toNat_natCast, if_pos ⟨by omega, hk, hs⟩]
    · rw [e] at ht
      have hs : ¬ short s i := by simpa using ht
      unfold getHead
      rw [Int.toNat_natCast, if_neg (fun h' => hs h'.2.2)]
  · have hg : getHead s i = (-1, 0, -1) := get_no (fun h' => hk (by simpa using h'.2))
    refine ⟨fun ht => ?_, fun _ => hg⟩
    rcases h.no hk with rfl | rfl <;> simp at ht
theorem get_c (s : ByteArray) (i : Int) (b : Nat) (hs : s.size ≤ 1048576) (W : World) (h : Rd T xs W b s i (badAt s i)) :
    Calls Tryd.prog 80 #[.pointer (some ⟨b, 0, none⟩)] W fun e w' => ∃ m n o j bad, e = .returned (hd m n o) ∧ HRet T xs W w' b s i (Tells s i) m n o j bad := by
  by_cases h0 : i < 0 ∨ (s.size : Int) < i
  · have eb : badAt s i = true := by unfold badAt; simpa using h0
    have hn : ¬ (0 ≤ i ∧ anyOk s i.toNat) := fun h' => by have := h'.2.1; omega
    rw [eb] at h
    refine (head_none s i b true W h (fun W h => take_bad s i 1 b W h)).mono ?_
    rintro e w' ⟨rfl, hr⟩
    exact ⟨0, 0, false, i, true, rfl, ⟨hr, by omega, by omega, by unfold wrap64; omega, tells_bad hn _ _ _ _⟩⟩
  · have eb : badAt s i = false := by unfold badAt; simpa using h0
    obtain ⟨k, rfl⟩ : ∃ k : Nat, i = k := ⟨i.toNat, by omega⟩
    rw [eb] at h
    by_cases hk : k < s.size
    · refine (head_any s k b W hs h hk).mono ?_
      rintro e w' ⟨m, n, o, j, bad, rfl, hr⟩
      have := hr.j0
      have := hr.j1
      exact ⟨m, n, o, j, bad, rfl, ⟨hr.ret, hr.m_lt, hr.n_lt, by unfold wrap64; omega, tells_any hr⟩⟩
    · have hn : ¬ (0 ≤ (k : Int) ∧ anyOk s (k : Int).toNat) := fun h' => by have := h'.2.1; simp at this; omega
      refine (head_none s k b false W h (fun W h => take_far s k 1 b W hs h (by omega) (by omega))).mono ?_
      rintro e w' ⟨rfl, hr⟩
      exact ⟨0, 0, false, k, true, rfl, ⟨hr, by omega, by omega, by unfold wrap64; omega, tells_bad hn _ _ _ _⟩⟩

theorem cells3 (W : World) (a b c : Value) (T : TypeId) : (W.alloc (.cells #[a, b, c] T)).cell? ⟨W.heap.size, 0, none⟩ = some a ∧ (W.alloc (.cells #[a, b, c] T)).cell? ⟨W.heap.size, 1, none⟩ = some b ∧ (W.alloc (.cells #[a, b, c] T)).cell? ⟨W.heap.size, 2, none⟩ = some c := by
  have h := heap_alloc_new W (.cells #[a, b, c] T)
  exact ⟨cell_of_row _ _ 0 _ _ (0, 0) h, cell_of_row _ _ 1 _ _ (0, 0) h, cell_of_row _ _ 2 _ _ (0, 0) h⟩
set_option maxHeartbeats 1000000 in
theorem reader_any (s : ByteArray) (i : Int) (W : World) (hs : s.size ≤ 1048576) :
    Calls Tryd.prog 26 #[.string s, .int .i64 i] W fun e w' => e = .returned (.agg #[.string s, .int .i64 i, .bool (badAt s i)]) ∧ Below W.heap.size W w' := by
  unfold badAt
  go_enter Tryd.func26, Tryd.ntmps26
  go_wp2
  all_goals first
    | (obtain ⟨k0, k1, k2⟩ := cells3 W (.string s) (.int .i64 i) (.bool true) 50
       refine bodyPost_ret (v := .agg #[.string s, .int .i64 i, .bool true]) (by simp [results, Tryd.results26, go_sem, k0, k1, k2]; done) rfl ?_
       exact ⟨rfl, (Below.refl _ _).alloc (Nat.le_refl _) _⟩)
    | (obtain ⟨k0, k1, k2⟩ := cells3 W (.string s) (.int .i64 i) (.bool (decide (i < 0) || decide ((s.size : Int) < i))) 50
       refine bodyPost_ret (v := .agg #[.string s, .int .i64 i, .bool (decide (i < 0) || decide ((s.size : Int) < i))]) (by simp [results, Tryd.results26, go_sem, k0, k1, k2]; done) rfl ?_
       exact ⟨rfl, (Below.refl _ _).alloc (Nat.le_refl _) _⟩)
theorem Rd.new (W : World) (s : ByteArray) (i : Int) (bad : Bool) : Rd 50 [] (W.alloc (.cells #[.string s, .int .i64 i, .bool bad] 50)) W.heap.size s i bad := ⟨heap_alloc_new W _⟩
end Go.Proofs.YtnaghafmpncdkaaDoor.head
/-
  impl's reader of CBOR at the head of a value.
-/
namespace Go.Proofs.YtnaghafmpncdkaaDoor.cbor
open Go.ChangeShapes Go.WideShapes Go.ChangeAt Go.RowKit
open Go.Proofs.YtnaghafmpncdkaaDoor.val Go.Proofs.YtnaghafmpncdkaaDoor.head
set_option maxRecDepth 100000

theorem get_yes {s : ByteArray} {i m n : Nat} {j : Int} (h : getHead s i = ((m : Int), n, j)) : anyOk s i ∧ short s i ∧ m = maj s i ∧ n = num s i ∧ j = ((i + (1 + many s i) : Nat) : Int) := by
  unfold getHead at h
  rw [Int.toNat_natCast] at h
  split at h
  · rename_i hc
    injection h with h1 h2
    injection h2 with h2 h3
    exact ⟨hc.2.1, hc.2.2, by omega, h2.symm, by omega⟩
  · injection h with h1 h2
    omega
theorem get_nope {s : ByteArray} {i : Nat} (h : getHead s i = (-1, 0, -1)) : ¬ (anyOk s i ∧ short s i) := fun hc => by
  unfold getHead at h
  rw [Int.toNat_natCast, if_pos ⟨by omega, hc⟩] at h
  injection h with h1 h2
  omega
/-- What getHeadOfValue tells. -/
structure HdV (W w' : World) (b : Nat) (s : ByteArray) (i c : Nat) (e : Ending) : Prop where
  ex : ∃ (m n : Nat) (o : Bool) (J : Int) (bad : Bool), e = .returned (hd m n o) ∧ CRet W w' b s J bad ((c : Int) + 1) ∧
    (bad = false → c < Lim ∧ anyOk s i ∧ short s i ∧ m = maj s i ∧ n = num s i ∧ o = false ∧ J = ((i + (1 + many s i) : Nat) : Int)) ∧ (bad = true → ¬ (anyOk s i ∧ short s i) ∨ Lim ≤ c)
/-- What getShortHead tells on this reader. -/
structure ShV (W w' : World) (b : Nat) (s : ByteArray) (i : Nat) (c : Int) (e : Ending) : Prop where
  ex : ∃ (m n : Nat) (o : Bool) (J : Int) (bad : Bool), e = .returned (hd m n o) ∧ CRet W w' b s J bad c ∧
    (bad = false → anyOk s i ∧ short s i ∧ m = maj s i ∧ n = num s i ∧ o = false ∧ J = ((i + (1 + many s i) : Nat) : Int)) ∧ (bad = true → ¬ (anyOk s i ∧ short s i))
theorem short_val {W : World} {b : Nat} {s : ByteArray} {i : Nat} {c : Int} (hs : s.size ≤ 1048576) (hi : i ≤ s.size) (h : CR W b s i false c) :
    Calls Tryd.prog 79 #[.pointer (some ⟨b, 0, none⟩)] W fun e w' => ShV W w' b s i c e := by
  have eb : badAt s (i : Int) = false := by unfold badAt; simp; omega
  have h' : CR W b s i (badAt s (i : Int)) c := by rw [eb]; exact h
  refine (short_any s i b (badAt s (i : Int)) W h' (Tells s i) (fun W h => get_c s i b hs W h)).mono ?_
  rintro e w' ⟨m, n, o, j, bad, rfl, hr, hq⟩
  refine ⟨m, n, o, j, _, rfl, hr, fun hb => ?_, fun hb => ?_⟩
  · obtain ⟨h1, h2, h3, h4, h5⟩ := get_yes (hq.yes hb)
    simp only [Bool.or_eq_false_iff] at hb
    exact ⟨h1, h2, h3, h4, hb.1.2, h5⟩
  · exact get_nope (hq.no hb)
set_option maxHeartbeats 2000000 in
theorem head_val {W : World} {b : Nat} {s : ByteArray} {i c : Nat} (hs : s.size ≤ 1048576) (hi : i ≤ s.size) (hc : c ≤ 1200) (h : CR W b s i false c) :
    Calls Tryd.prog 52 #[.pointer (some ⟨b, 0, none⟩)] W fun e w' => HdV W w' b s i c e := by
  have hlt := h.lt
  have c4 := CR.c4 h
  have f4 := h.fr 4
  have H1 := CR.count h ((c : Int) + 1)
  have d4 := CR.c4 H1.rd
  have d3 := CR.c3 H1.rd
  have d2 := H1.rd.c2
  have fd := H1.rd.fr 2
  by_cases hlim : 1200 ≤ c
  · have hg : (1200 : Int) < (c : Int) + 1 := by omega
    have HS := Lib.hid ((H1.trans H1.rd.spoil).more (.cells #[.int .i64 0, .int .u64 0, .bool false] 87))
    have HK := Lib.hid (Hd.new ((W.setCell ⟨b, 4, none⟩ (.int .i64 ((c : Int) + 1))).setCell ⟨b, 2, none⟩ (.bool true)) 0 0 false)
    clear H1 h
    go_enter Tryd.func52, Tryd.ntmps52
    go_wp2
    obtain ⟨k0, k1, k2, _⟩ := HK.out.cells
    simp only [val.set_size] at k0 k1 k2
    refine bodyPost_ret (v := hd 0 0 false) (by simp [results, Tryd.results52, go_sem, k0, k1, k2, hd]) rfl ?_
    exact ⟨0, 0, false, _, true, rfl, HS.out, fun h => by simp at h, fun _ => .inr hlim⟩
  · have hg : ¬ (1200 : Int) < (c : Int) + 1 := by omega
    have CS := Lib.hid (short_val hs hi (H1.rd.alloc (.cells #[.int .i64 0, .int .u64 0, .bool false] 87)))
    have HO := Lib.hid (H1.more (.cells #[.int .i64 0, .int .u64 0, .bool false] 87))
    have HK := Lib.hid (Hd.new (W.setCell ⟨b, 4, none⟩ (.int .i64 ((c : Int) + 1))) 0 0 false)
    clear H1 h
    go_enter Tryd.func52, Tryd.ntmps52
    go_wp2_with fail
    with_reducible refine CS.out.mono ?_
    rintro e w1 ⟨m, n, o, J, bad, rfl, hr, h1, h2⟩
    have hb1 : W.heap.size < w1.heap.size := by have := hr.only.size; simp [val.set_size] at this; omega
    have hh := HK.out.only hr.only (by simp [val.set_size]; omega)
    simp only [val.set_size] at hh
    obtain ⟨e0, e1, e2, e3⟩ := hh.cells
    have HE := Lib.hid (put3_end (HO.out.trans hr) hh (Nat.le_refl _) hlt m n o)
    have HV := Lib.hid h1
    have HN := Lib.hid h2
    clear hr hh HO HK CS h1 h2
    unfold hd
    go_wp2
    obtain ⟨k0, k1, k2, _⟩ := HE.out.hd.cells
    unfold put3 at k0 k1 k2 HE
    refine bodyPost_ret (v := .agg #[.int .i64 m, .int .u64 n, .bool o]) (by simp [results, Tryd.results52, go_sem, k0, k1, k2]) rfl ?_
    exact ⟨m, n, o, J, bad, rfl, HE.out.ret, fun hb => ⟨by unfold Lim; omega, HV.out hb⟩, fun hb => .inl (HN.out hb)⟩
end Go.Proofs.YtnaghafmpncdkaaDoor.cbor
/-
  spec.l05Get at every text, place and depth: what it tells.
-/
namespace Go.Proofs.YtnaghafmpncdkaaDoor.cbor
open Go.ChangeShapes Go.WideShapes Go.ChangeAt Go.RowKit
open Go.Proofs.YtnaghafmpncdkaaDoor.val Go.Proofs.YtnaghafmpncdkaaDoor.head
set_option maxRecDepth 100000

theorem sret_no {W w' : World} {b : Nat} {s : ByteArray} {i left deep : Nat} {l : Int} {e : Ending} (he : e = .returned (.tuple #[.agg #[.int .i64 0, .int .i64 0, .int .i64 0, .string ⟨#[]⟩, .slice none 0 0], .int .i64 (-1)])) (h : SR w' b s l) (ho : W.grownBy w' (some b)) (hw : ∀ v next left', Whole s i left deep v next left') : SRet W w' b s i left deep e :=
  ⟨⟨.mk 0 0 0 ⟨#[]⟩ none 0 [], -1, l, he, h, ho, hw _ _ _, .inl rfl⟩⟩
theorem sret_leaf {W w' : World} {b : Nat} {s : ByteArray} {i left deep : Nat} {k n : Int} {u : ByteArray} {X : Nat} {e : Ending} (he : e = .returned (.tuple #[.agg #[.int .i64 k, .int .i64 n, .int .i64 0, .string u, .slice none 0 0], .int .i64 X])) (h : SR w' b s ((left : Int) - 1)) (ho : W.grownBy w' (some b)) (hk : InI k) (hn : InI n) (hu : u.size ≤ 1048576) (hX : X ≤ s.size) (hz : i + 1 + u.size ≤ X) (hl : 0 < left)
    (hw : Whole s i left deep (.mk k n 0 u []) X ((left : Int) - 1)) : SRet W w' b s i left deep e :=
  ⟨⟨.mk k n 0 u none 0 [], X, (left : Int) - 1, he, h, ho, by simpa [er, erL] using hw, .inr ⟨by omega, by omega, .leaf hk hn ⟨by omega, by omega⟩ (by omega) ho, by simp [LT.sz, LT.szL]; omega, by omega, by omega⟩⟩⟩
theorem sg_end : SG 15 := fun W b s i left hs hi hl h =>
  (get_end W b s i left 15 hs hi hl (by omega) h (.inr (.inl (by omega)))).mono fun _ _ ⟨h1, h2, h3⟩ => sret_no h1 h2 h3 fun _ _ _ => whole_end _ _ _ (.inr (.inl (by omega)))
theorem sg_step {d : Nat} (hd : d ≤ 14) (HG : SG (d + 1)) : SG d := fun W b s i left hs hi hl h => by
  by_cases hx : left = 0 ∨ 14 < d ∨ i = s.size
  · exact (get_end W b s i left d hs hi hl (by omega) h hx).mono fun _ _ ⟨h1, h2, h3⟩ => sret_no h1 h2 h3 fun _ _ _ => whole_end _ _ _ hx
  have hl0 : 0 < left := by omega
  have hi' : i < s.size := by omega
  by_cases ha : anyOk s i ∧ short s i
  case neg =>
    have hn : getHead s i = (-1, 0, -1) := by unfold getHead; rw [Int.toNat_natCast, if_neg (fun h => ha h.2)]
    exact (get_nohead W b s i left d hs hi' hl0 hl hd h hn).mono fun _ _ ⟨h1, h2, h3⟩ => sret_no h1 h2 h3 fun _ _ _ => whole_none _ _ _ ha
  obtain ⟨ho, hsh⟩ := ha
  have hn : getHead s i = ((maj s i : Int), num s i, ((i + (1 + many s i) : Nat) : Int)) := by
    unfold getHead; rw [Int.toNat_natCast, if_pos ⟨by omega, ho, hsh⟩]
    congr 2
    omega
  have hX : i + (1 + many s i) ≤ s.size := by have := ho.2.2; omega
  have hm : maj s i < 8 := by
    unfold maj
    have := (at_ s i).toNat_lt
    omega
  have hnum : num s i < 18446744073709551616 := num_lt ho
  generalize hM : maj s i = m at hn hm
  generalize hNN : num s i = n at hn hnum
  generalize hXX : i + (1 + many s i) = X at hn hX
  have hXi : i + 1 ≤ X := by omega
  have WB : ∀ {v : VT} {j : Nat}, Body s m n X 1 v j 1 false → Whole s i left d v j ((left : Int) - 1) := fun {v j} hb => by
    have hb' : Body s (maj s i) (num s i) (i + (1 + many s i)) 1 v j 1 false := by rw [hM, hNN, hXX]; exact hb
    exact whole_body ho hsh hb'
  have WN : (∀ v j c, Body s m n X 1 v j c true) → ∀ v next left', Whole s i left d v next left' := fun hb v next left' => by
    have hb' : Body s (maj s i) (num s i) (i + (1 + many s i)) 1 v 0 0 true := by rw [hM, hNN, hXX]; exact hb v 0 0
    exact whole_bad ho hsh hb' v next left'
  have hI : ∀ z : Int, -1 ≤ z → z ≤ 1048576 → InI z := fun z h1 h2 => ⟨by omega, by omega⟩
  match m, hm with
  | 0, _ =>
    by_cases hw : n ≤ 9223372036854775807
    · exact (get_nat W b s i left d n X hs hi' hl0 hl hd h (by omega) hn hw).mono fun _ _ ⟨h1, h2, h3⟩ => sret_leaf h1 h2 h3 (hI _ (by omega) (by omega)) ⟨by omega, by omega⟩ (by decide) hX (show i + 1 + 0 ≤ X by omega) hl0 (WB (body_nat hw))
    · exact (get_big0 W b s i left d n X hs hi' hl0 hl hd h (by omega) hn (by omega)).mono fun _ _ ⟨h1, h2, h3⟩ => sret_no h1 h2 h3 (WN fun v j c => body_nat_no (by omega) v j c)
  | 1, _ =>
    by_cases hw : n ≤ 9223372036854775807
    · exact (get_neg W b s i left d n X hs hi' hl0 hl hd h (by omega) hn hw).mono fun _ _ ⟨h1, h2, h3⟩ => sret_leaf h1 h2 h3 (hI _ (by omega) (by omega)) ⟨by omega, by omega⟩ (by decide) hX (show i + 1 + 0 ≤ X by omega) hl0 (WB (body_neg hw))
    · exact (get_big1 W b s i left d n X hs hi' hl0 hl hd h (by omega) hn (by omega)).mono fun _ _ ⟨h1, h2, h3⟩ => sret_no h1 h2 h3 (WN fun v j c => body_neg_no (by omega) v j c)
  | 2, _ =>
    by_cases hc : X + n ≤ s.size
    · refine (get_bytes W b s i left d n X hs hi' hl0 hl hd h hc hn).mono fun _ _ ⟨h1, h2, h3⟩ => ?_
      have hz := part_size hc
      exact sret_leaf (X := X + n) (by rw [h1]; rfl) h2 h3 (hI _ (by omega) (by omega)) (hI _ (by omega) (by omega)) (by omega) hc (by omega) hl0 (WB (body_bytes hc))
    · exact (get_cut2 W b s i left d n X hs hi' hl0 hl hd h hX hn (by omega)).mono fun _ _ ⟨h1, h2, h3⟩ => sret_no h1 h2 h3 (WN fun v j c => body_cut (.inl rfl) hX (by omega) v j c)
  | 3, _ =>
    by_cases hc : X + n ≤ s.size
    · refine (get_text W b s i left d n X hs hi' hl0 hl hd h hc hn).mono fun _ _ ⟨h1, h2, h3⟩ => ?_
      have hz := part_size hc
      exact sret_leaf (X := X + n) (by rw [h1]; rfl) h2 h3 (hI _ (by omega) (by omega)) (hI _ (by omega) (by omega)) (by omega) hc (by omega) hl0 (WB (body_text hc))
    · exact (get_cut3 W b s i left d n X hs hi' hl0 hl hd h hX hn (by omega)).mono fun _ _ ⟨h1, h2, h3⟩ => sret_no h1 h2 h3 (WN fun v j c => body_cut (.inr rfl) hX (by omega) v j c)
  | 4, _ =>
    by_cases hc : n ≤ 300
    · refine (get_list W b s i left d n X hs hi' hl0 hl hd h hX hn hc fun W' h' => ?_).mono ?_
      · exact skids_any (by omega) HG W' b s X (left - 1) n hs hX (by omega) (by rw [show ((left - 1 : Nat) : Int) = (left : Int) - 1 by omega]; exact h') (by omega)
      · rintro e w' ⟨t, next, left', h1, h2, h3, ⟨rfl, h4⟩ | ⟨j, l, done, rfl, rfl, h5, h6, h7, h8, h9, h10, h11, h12⟩⟩
        · exact ⟨⟨t, -1, left', h1, h2, h3, whole_list_no hM hNN (hXX ▸ h4) _ _ _, .inl rfl⟩⟩
        · exact ⟨⟨t, j, l, h1, h2, h3, by rw [h7]; exact whole_list hM hNN (hXX ▸ h6) (by rw [List.length_map]; exact h5), .inr ⟨by omega, by omega, h10, by omega, by omega, by omega⟩⟩⟩
    · exact (get_far4 W b s i left d n X hs hi' hl0 hl hd h hX hn (by omega)).mono fun _ _ ⟨h1, h2, h3⟩ => sret_no h1 h2 h3 (WN fun v j c => body_far (.inl rfl) (by omega) v j c)
  | 5, _ =>
    by_cases hc : n ≤ 300
    · refine (get_map W b s i left d n X hs hi' hl0 hl hd h hX hn hc fun W' h' => ?_).mono ?_
      · have := skids_any (by omega) HG W' b s X (left - 1) (2 * n) hs hX (by omega) (by rw [show ((left - 1 : Nat) : Int) = (left : Int) - 1 by omega]; exact h') (by omega)
        rw [show ((2 * n : Nat) : Int) = (n : Int) * 2 by omega] at this
        exact this
      · rintro e w' ⟨t, next, left', h1, h2, h3, ⟨rfl, h4⟩ | ⟨j, l, done, rfl, rfl, h5, h6, h7, h8, h9, h10, h11, h12⟩⟩
        · exact ⟨⟨t, -1, left', h1, h2, h3, whole_map_no hM hNN (hXX ▸ h4) _ _ _, .inl rfl⟩⟩
        · exact ⟨⟨t, j, l, h1, h2, h3, by rw [h7]; exact whole_map hM hNN (hXX ▸ h6) (by rw [List.length_map]; exact h5), .inr ⟨by omega, by omega, h10, by omega, by omega, by omega⟩⟩⟩
    · exact (get_far5 W b s i left d n X hs hi' hl0 hl hd h hX hn (by omega)).mono fun _ _ ⟨h1, h2, h3⟩ => sret_no h1 h2 h3 (WN fun v j c => body_far (.inr rfl) (by omega) v j c)
  | 6, _ =>
    refine (get_tag W b s i left d n X hs hi' hl0 hl hd h hn fun W' h' => ?_).mono ?_
    · have h'' : SR W' b s ((left - 1 : Nat) : Int) := by rw [show ((left - 1 : Nat) : Int) = (left : Int) - 1 by omega]; exact h'
      by_cases hn1 : 1000000 < n
      · exact stag_far W' b s X (left - 1) d n h'' hn1
      · by_cases h4 : n = 4
        · subst h4; exact stag_four (by omega) HG W' b s X (left - 1) hs hX (by omega) h''
        · exact stag_near (by omega) HG W' b s X (left - 1) n hs hX (by omega) h'' (by omega) h4
    · rintro e w' ⟨t, next, left', h1, h2, h3, h4, h5⟩
      refine ⟨⟨t, next, left', h1, h2, h3, whole_tagged hM hNN hl0 (hXX ▸ h4), ?_⟩⟩
      rcases h5 with h5 | ⟨g1, g2, g3, g4, g5, g6⟩
      · exact .inl h5
      · exact .inr ⟨by omega, by omega, g3, by omega, by omega, by omega⟩
  | 7, _ =>
    by_cases h20 : n = 20
    · exact (get_word20 W b s i left d n X hs hi' hl0 hl hd h (by omega) hn h20).mono fun _ _ ⟨h1, h2, h3⟩ => sret_leaf h1 h2 h3 (hI _ (by omega) (by omega)) (hI _ (by omega) (by omega)) (by decide) hX (show i + 1 + 0 ≤ X by omega) hl0 (WB (body_word (.inr (.inl ⟨rfl, h20⟩))))
    by_cases h21 : n = 21
    · exact (get_word21 W b s i left d n X hs hi' hl0 hl hd h (by omega) hn h21).mono fun _ _ ⟨h1, h2, h3⟩ => sret_leaf h1 h2 h3 (hI _ (by omega) (by omega)) (hI _ (by omega) (by omega)) (by decide) hX (show i + 1 + 0 ≤ X by omega) hl0 (WB (body_word (.inr (.inr ⟨rfl, h21⟩))))
    by_cases h22 : n = 22
    · exact (get_word22 W b s i left d n X hs hi' hl0 hl hd h (by omega) hn h22).mono fun _ _ ⟨h1, h2, h3⟩ => sret_leaf h1 h2 h3 (hI _ (by omega) (by omega)) (hI _ (by omega) (by omega)) (by decide) hX (show i + 1 + 0 ≤ X by omega) hl0 (WB (body_word (.inl ⟨rfl, h22⟩)))
    · exact (get_wordno W b s i left d n X hs hi' hl0 hl hd h (by omega) hn ⟨h20, h21, h22⟩).mono fun _ _ ⟨h1, h2, h3⟩ => sret_no h1 h2 h3 (WN fun v j c => body_word_no h20 h21 h22 v j c)
theorem sg_any : ∀ k, k ≤ 15 → SG (15 - k)
  | 0, _ => sg_end
  | k + 1, h => sg_step (by omega) (by rw [show 15 - (k + 1) + 1 = 15 - k by omega]; exact sg_any k (by omega))
/-- spec.l05Get at the outermost value. -/
theorem sg0 : SG 0 := sg_any 15 (Nat.le_refl _)
end Go.Proofs.YtnaghafmpncdkaaDoor.cbor
/-
  Plain: whether a value is valid, whether CBOR holds it, hangs on what the value tells apart from its places alone.
-/
namespace Go.Proofs.YtnaghafmpncdkaaDoor.erase
open Go.RowKit
open Go.Proofs.YtnaghafmpncdkaaDoor.val Go.Proofs.YtnaghafmpncdkaaDoor.num Go.Proofs.YtnaghafmpncdkaaDoor.node
set_option maxRecDepth 100000

mutual
/-- A value without places. -/
def ofV : VT → LT
  | .mk k n e s kids => .mk k n e s none 0 (ofVL kids)
def ofVL : List VT → List LT
  | [] => []
  | t :: ts => ofV t :: ofVL ts
end
def bare (t : LT) : LT := ofV (er t)
theorem ofVL_map (l : List LT) : ofVL (erL l) = l.map bare := by
  induction l with
  | nil => rfl
  | cons t ts ih => rw [erL, ofVL, ih]; rfl
theorem bare_mk (k n e : Int) (s : ByteArray) (a : Option Addr) (cap : Nat) (kids : List LT) : bare (.mk k n e s a cap kids) = .mk k n e s none 0 (kids.map bare) := by
  rw [bare, er, ofV, ofVL_map]
theorem bare_f (t : LT) : (bare t).k = t.k ∧ (bare t).n = t.n ∧ (bare t).e = t.e ∧ (bare t).s = t.s ∧ (bare t).kids = t.kids.map bare := by
  cases t
  rw [bare_mk]
  exact ⟨rfl, rfl, rfl, rfl, rfl⟩
theorem num_bare (t : LT) : numOk (bare t) = numOk t := by
  obtain ⟨h1, h2, h3, h4, h5⟩ := bare_f t
  unfold numOk
  rw [h1, h2, h3, h4, h5, List.length_map]
theorem key_bare (t : LT) : LT.key (bare t) = LT.key t := by
  obtain ⟨h1, h2, _, h4, _⟩ := bare_f t
  unfold LT.key
  rw [h1, h2, h4]
theorem pairs_bare (l : List LT) : Pairs (l.map bare) ↔ Pairs l := by
  have hg : ∀ i, GoodKey (l.map bare) i ↔ GoodKey l i := fun i => by
    unfold GoodKey
    constructor
    · intro h hi
      obtain ⟨h1, h2⟩ := h (by simpa using hi)
      simp only [List.getElem_map, key_bare, (bare_f _).1] at h1 h2
      exact ⟨h1, h2⟩
    · intro h hi
      obtain ⟨h1, h2⟩ := h (by simpa using hi)
      simp only [List.getElem_map, key_bare, (bare_f _).1]
      exact ⟨h1, h2⟩
  unfold Pairs KeysGood
  simp only [hg, List.length_map]
theorem own_bare (t : LT) : OwnP (bare t) ↔ OwnP t := by
  obtain ⟨h1, h2, h3, h4, h5⟩ := bare_f t
  unfold OwnP
  rw [h1, h2, h3, h4, h5, num_bare, List.length_map, pairs_bare]
mutual
theorem right_bare : ∀ (t : LT) (d : Int), RightT (bare t) d ↔ RightT t d
  | .mk k n e s a cap kids, d => by
    have h := own_bare (.mk k n e s a cap kids)
    rw [bare_mk] at h ⊢
    rw [RightT, RightT, h, rightL_bare kids (d - 1)]
theorem rightL_bare : ∀ (l : List LT) (d : Int), RightL (l.map bare) d ↔ RightL l d
  | [], d => Iff.rfl
  | t :: ts, d => by rw [List.map_cons, RightL, RightL, right_bare t d, rightL_bare ts d]
end
theorem valid_er {t u : LT} (h : er t = er u) : ValidT t ↔ ValidT u := by
  unfold ValidT
  rw [← right_bare t, ← right_bare u, er_nodes h, bare, bare, h]
mutual
theorem four_bare : ∀ t : LT, FourT (bare t) ↔ FourT t
  | .mk k n e s a cap kids => by rw [bare_mk, FourT, FourT, fourL_bare kids]
theorem fourL_bare : ∀ l : List LT, FourL (l.map bare) ↔ FourL l
  | [] => Iff.rfl
  | t :: ts => by rw [List.map_cons, FourL, FourL, four_bare t, fourL_bare ts]
end
theorem fits_er {t u : LT} (h : er t = er u) : FitsC t ↔ FitsC u := by
  rw [node.fits_iff, node.fits_iff, valid_er h, ← four_bare t, ← four_bare u, bare, bare, h]
end Go.Proofs.YtnaghafmpncdkaaDoor.erase
