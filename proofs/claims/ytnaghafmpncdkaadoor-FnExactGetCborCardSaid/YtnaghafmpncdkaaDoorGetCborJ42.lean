/-
  impl's reader of CBOR behind a head of each major type: one contract.
-/
import Derived.Test.YtnaghafmpncdkaaDoorGetCborJ36
namespace Go.Proofs.YtnaghafmpncdkaaDoor.cbor
open Go.ChangeShapes Go.WideShapes Go.ChangeAt Go.RowKit
open Go.Proofs.YtnaghafmpncdkaaDoor.val Go.Proofs.YtnaghafmpncdkaaDoor.head
set_option maxRecDepth 100000

theorem bret_leaf {W w' : World} {b : Nat} {s S : ByteArray} {m n i c : Nat} {J k n' : Int} {bad : Bool} (hk : InI k) (hn : InI n') (hS : S.size ≤ 9223372036854775807) (h : CRet W w' b s J bad c) (hB : Body s m n i c (.mk k n' 0 S []) J.toNat c bad)
    (hb : bad = false → (i : Int) ≤ J ∧ J ≤ s.size ∧ (S.size : Int) ≤ J - i ∧ c ≤ Lim ∧ (k = 3 → S = ⟨#[]⟩) ∧ k ≠ 7) : BRet W w' b s m n i c (.returned (leaf k n' S)) := by
  refine ⟨.mk k n' 0 S none 0 [], J, c, bad, rfl, FreshO.leaf hk hn (by unfold InI; decide) hS h.only, h.rd, by rw [er_mk]; exact hB, fun hbad => ?_⟩
  obtain ⟨h1, h2, h3, h4, h5, h6⟩ := hb hbad
  rw [szL_kids, LT.szL, er_mk]
  exact ⟨h1, h2, by omega, Nat.le_refl _, h4, fun hx => ⟨rfl, h5 hx, rfl⟩, fun hx => (h6 hx).elim⟩
theorem cret_below {W w' : World} {b : Nat} {s : ByteArray} {i c : Int} {bad : Bool} (h : CR W b s i bad c) (hb : Below W.heap.size W w') : CRet W w' b s i bad c := ⟨Rd.behind h hb h.lt, only_of hb⟩
section
variable {K : Nat} (W : World) (b : Nat) (s : ByteArray) (i c n : Nat) (hs : s.size ≤ 1048576) (hi : i ≤ s.size) (hc : c ≤ Lim) (h : CR W b s i false c) (hn : n < 18446744073709551616)
include hi hc h hn
theorem ret0 : Calls Tryd.prog 53 #[.pointer (some ⟨b, 0, none⟩), .agg #[.int .i64 (0 : Nat), .int .u64 n, .bool false]] W fun r w' => BRet W w' b s 0 n i c r := by
  by_cases hx : n ≤ 9223372036854775807
  · refine (nat_yes 0 n b W hx).mono ?_
    rintro r w' ⟨rfl, hb⟩
    exact bret_leaf (by unfold InI; decide) (by unfold InI; omega) (by decide) (cret_below h hb) (by rw [Int.toNat_natCast]; exact body_nat hx) fun _ => ⟨by omega, by omega, by show (0 : Int) ≤ _; omega, hc, fun _ => rfl, by decide⟩
  · refine (nat_no 0 n b s i c W (by omega) hn h).mono ?_
    rintro r w' ⟨rfl, hr⟩
    exact bret_leaf (by unfold InI; decide) (by unfold InI; decide) (by decide) hr (body_nat_no (by omega) _ _ _) fun hb => by cases hb
theorem ret1 : Calls Tryd.prog 54 #[.pointer (some ⟨b, 0, none⟩), .agg #[.int .i64 (1 : Nat), .int .u64 n, .bool false]] W fun r w' => BRet W w' b s 1 n i c r := by
  by_cases hx : n ≤ 9223372036854775807
  · refine (neg_yes 1 n b W hx).mono ?_
    rintro r w' ⟨rfl, hb⟩
    exact bret_leaf (by unfold InI; decide) (by unfold InI; omega) (by decide) (cret_below h hb) (by rw [Int.toNat_natCast]; exact body_neg hx) fun _ => ⟨by omega, by omega, by show (0 : Int) ≤ _; omega, hc, fun _ => rfl, by decide⟩
  · refine (neg_no 1 n b s i c W (by omega) hn h).mono ?_
    rintro r w' ⟨rfl, hr⟩
    exact bret_leaf (by unfold InI; decide) (by unfold InI; decide) (by decide) hr (body_neg_no (by omega) _ _ _) fun hb => by cases hb
include hs
theorem ret2 : Calls Tryd.prog 55 #[.pointer (some ⟨b, 0, none⟩), .agg #[.int .i64 (2 : Nat), .int .u64 n, .bool false]] W fun r w' => BRet W w' b s 2 n i c r := by
  by_cases hx : i + n ≤ s.size
  · refine (bytes_any 2 n b s (s.extract i (i + n)) i c ((i : Int) + n) false W h (fun W h => str_any 2 n b s _ i c _ false W h (by rw [ByteArray.size_extract]; omega) (fun W h => take_yes s i n b W hs h hx))).mono ?_
    rintro r w' ⟨rfl, hr⟩
    exact bret_leaf (by unfold InI; decide) (by unfold InI; decide) (by rw [part_size hx]; omega) hr (by rw [show ((i : Int) + n).toNat = i + n by omega]; exact body_bytes hx) fun _ => ⟨by omega, by omega, by rw [part_size hx]; omega, hc, fun e => absurd e (by decide), by decide⟩
  · refine (bytes_any 2 n b s ⟨#[]⟩ i c i true W h (fun W h => str_any 2 n b s _ i c _ true W h (by decide) (fun W h => take_far s i n b W hs h hi (by omega)))).mono ?_
    rintro r w' ⟨rfl, hr⟩
    exact bret_leaf (by unfold InI; decide) (by unfold InI; decide) (by decide) hr (body_cut (.inl rfl) hi (by omega) _ _ _) fun hb => by cases hb
theorem ret3 : Calls Tryd.prog 56 #[.pointer (some ⟨b, 0, none⟩), .agg #[.int .i64 (3 : Nat), .int .u64 n, .bool false]] W fun r w' => BRet W w' b s 3 n i c r := by
  by_cases hx : i + n ≤ s.size
  · refine (text_any 3 n b s (s.extract i (i + n)) i c ((i : Int) + n) false W h (fun W h => str_any 3 n b s _ i c _ false W h (by rw [ByteArray.size_extract]; omega) (fun W h => take_yes s i n b W hs h hx))).mono ?_
    rintro r w' ⟨rfl, hr⟩
    exact bret_leaf (by unfold InI; decide) (by unfold InI; decide) (by rw [part_size hx]; omega) hr (by rw [show ((i : Int) + n).toNat = i + n by omega]; exact body_text hx) fun _ => ⟨by omega, by omega, by rw [part_size hx]; omega, hc, fun e => absurd e (by decide), by decide⟩
  · refine (text_any 3 n b s ⟨#[]⟩ i c i true W h (fun W h => str_any 3 n b s _ i c _ true W h (by decide) (fun W h => take_far s i n b W hs h hi (by omega)))).mono ?_
    rintro r w' ⟨rfl, hr⟩
    exact bret_leaf (by unfold InI; decide) (by unfold InI; decide) (by decide) hr (body_cut (.inr rfl) hi (by omega) _ _ _) fun hb => by cases hb
variable (HG : GV K) (hK : Lim ≤ c + K) (hT : simpTab.Tab W) (hb : 0 ≠ b)
include HG hK hT hb
theorem ret4 : Calls Tryd.prog 57 #[.pointer (some ⟨b, 0, none⟩), .agg #[.int .i64 (4 : Nat), .int .u64 n, .bool false]] W fun r w' => BRet W w' b s 4 n i c r := by
  by_cases hx : n ≤ 300
  · exact list_any HG W b s i c n hs hi hc hK h hT hb hx
  · exact list_far W b s i c n h (by omega)
theorem ret5 : Calls Tryd.prog 58 #[.pointer (some ⟨b, 0, none⟩), .agg #[.int .i64 (5 : Nat), .int .u64 n, .bool false]] W fun r w' => BRet W w' b s 5 n i c r := by
  by_cases hx : n ≤ 300
  · exact map_any HG W b s i c n hs hi hc hK h hT hb hx
  · exact map_far W b s i c n h (by omega)
theorem ret6 : Calls Tryd.prog 59 #[.pointer (some ⟨b, 0, none⟩), .agg #[.int .i64 (6 : Nat), .int .u64 n, .bool false]] W fun r w' => BRet W w' b s 6 n i c r :=
  tag_any HG W b s i c n hs hi hc hK h hT hb hn
omit HG hK hb hs hn
theorem ret7 : Calls Tryd.prog 60 #[.pointer (some ⟨b, 0, none⟩), .agg #[.int .i64 (7 : Nat), .int .u64 n, .bool false]] W fun r w' => BRet W w' b s 7 n i c r := by
  by_cases h20 : n = 20
  · refine (simp_yes 7 n b 1 (.inr (.inl ⟨rfl, h20⟩)) W hT).mono ?_
    rintro r w' ⟨rfl, hb⟩
    exact bret_leaf (by unfold InI; decide) (by unfold InI; decide) (by decide) (cret_below h hb) (by rw [Int.toNat_natCast]; exact body_word (.inr (.inl ⟨rfl, h20⟩))) fun _ => ⟨by omega, by omega, by show (0 : Int) ≤ _; omega, hc, fun _ => rfl, by decide⟩
  by_cases h21 : n = 21
  · refine (simp_yes 7 n b 2 (.inr (.inr ⟨rfl, h21⟩)) W hT).mono ?_
    rintro r w' ⟨rfl, hb⟩
    exact bret_leaf (by unfold InI; decide) (by unfold InI; decide) (by decide) (cret_below h hb) (by rw [Int.toNat_natCast]; exact body_word (.inr (.inr ⟨rfl, h21⟩))) fun _ => ⟨by omega, by omega, by show (0 : Int) ≤ _; omega, hc, fun _ => rfl, by decide⟩
  by_cases h22 : n = 22
  · refine (simp_yes 7 n b 0 (.inl ⟨rfl, h22⟩) W hT).mono ?_
    rintro r w' ⟨rfl, hb⟩
    exact bret_leaf (by unfold InI; decide) (by unfold InI; decide) (by decide) (cret_below h hb) (by rw [Int.toNat_natCast]; exact body_word (.inl ⟨rfl, h22⟩)) fun _ => ⟨by omega, by omega, by show (0 : Int) ≤ _; omega, hc, fun _ => rfl, by decide⟩
  · refine (simp_no 7 n b s i c h20 h21 h22 W h hT).mono ?_
    rintro r w' ⟨rfl, hr⟩
    exact bret_leaf (by unfold InI; decide) (by unfold InI; decide) (by decide) hr (body_word_no h20 h21 h22 _ _ _) fun hb => by cases hb
end
/-- A value from what is behind its head, stored into the result's block. -/
theorem gret_of {W WB w2 : World} {b : Nat} {s : ByteArray} {i c j : Nat} {e : Ending} (ho : W.grownBy WB (some b)) (hz : W.heap.size + 2 ≤ WB.heap.size) (hlt : b < W.heap.size) (ha : anyOk s i) (hsh : short s i) (hj : j = i + (1 + many s i)) (h : BRet WB w2 b s (maj s i) (num s i) j (c + 1) e) :
    ∃ t : LT, e = .returned (.agg #[.int .i64 t.k, .int .i64 t.n, .int .i64 t.e, .string t.s, .slice t.a t.kids.length t.cap]) ∧ W.grownBy w2 (some b) ∧ GRet W (put5v w2 W.heap.size (.int .i64 t.k) (.int .i64 t.n) (.int .i64 t.e) (.string t.s) (.slice t.a t.kids.length t.cap)) b s i c e := by
  obtain ⟨t, J, c', bad, rfl, hF, hC, hB, hb⟩ := h
  subst hj
  have h2 : W.grownBy w2 (some b) := only_trans ho hF.only
  have hk : ∀ k, k ≠ W.heap.size → (put5v w2 W.heap.size (.int .i64 t.k) (.int .i64 t.n) (.int .i64 t.e) (.string t.s) (.slice t.a t.kids.length t.cap)).heap[k]? = w2.heap[k]? := fun k hk => put5v_other w2 _ k _ _ _ _ _ hk
  refine ⟨t, rfl, h2, ⟨t, J, c', bad, rfl, ⟨hF.tr.kept fun k hkk => hk k (by have := hF.new k hkk; omega), fun k hkk => by have := hF.new k hkk; omega, hF.nodup, ?_⟩, ⟨(hk b (by omega)).trans hC.row⟩, got_body ha hsh hB, fun hbad => ?_⟩⟩
  · unfold put5v
    have hN : W.heap.size ≤ W.heap.size := Nat.le_refl _
    exact only_set (only_set (only_set (only_set (only_set h2 hN _) hN _) hN _) hN _) hN _
  · obtain ⟨h3, h4, h5, h6, h7, h8, h9⟩ := hb hbad
    exact ⟨by omega, h4, by omega, by omega, h7, h8, h9⟩
theorem GRet.drew {W w' : World} {b : Nat} {s : ByteArray} {i c : Nat} {e : Ending} (h : GRet W w' b s i c e) : GRet W w'.drew b s i c e := by
  obtain ⟨t, J, c', bad, h1, h2, h3, h4, h5⟩ := h
  exact ⟨t, J, c', bad, h1, ⟨h2.tr.kept fun _ _ => rfl, h2.new, h2.nodup, only_drew h2.only⟩, h3.drew, h4, h5⟩
theorem BRet.undrew {W w' : World} {b : Nat} {s : ByteArray} {m n i c : Nat} {e : Ending} (h : BRet W.drew w' b s m n i c e) : BRet W w' b s m n i c e := by
  obtain ⟨t, J, c', bad, h1, h2, h3, h4, h5⟩ := h
  exact ⟨t, J, c', bad, h1, ⟨h2.tr, h2.new, h2.nodup, ⟨h2.only.os, h2.only.tape, h2.only.output, h2.only.size, h2.only.block⟩⟩, h3, h4, h5⟩
end Go.Proofs.YtnaghafmpncdkaaDoor.cbor
