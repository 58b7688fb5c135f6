/-
  The law FnQuote over a code of at most 1048576 bytes: true, old memory kept.
-/
import Derived.Test.YtlnhfgkecifhdaaGreatDoorQuoteBack
import Derived.Test.YtlnhfgkecifhdaaGreatDoorQuoteImpl
import Derived.Test.YtlnhfgkecifhdaaGreatDoorUnquoteLoop
import Derived.Test.YtlnhfgkecifhdaaGreatDoorReadDecImpl
import Derived.Test.YtlnhfgkecifhdaaGreatDoorWordsWalk
import Derived.Test.YtlnhfgkecifhdaaGreatDoorSameTexts
import Derived.Test.YtlnhfgkecifhdaaGreatDoorDrawQuotes
namespace Go.Proofs.YtlnhfgkecifhdaaGreatDoor.fnQuote
open Go.ChangeShapes Go.WideShapes Go.ChangeAt Go.RowKit
open Go.Proofs.YtlnhfgkecifhdaaGreatDoor.sign Go.Proofs.YtlnhfgkecifhdaaGreatDoor.draw
set_option maxRecDepth 100000

/-- From every later world on the call returns v. -/
def Later (w : World) (f : FuncId) (args : Array Value) (v : Value) : Prop := ∀ w', Below w.heap.size w w' → Calls Tryz.prog f args w' fun e w'' => e = .returned v ∧ Below w'.heap.size w' w''
structure Env (w : World) (m0 : Int) : Prop where
  utf8 : Lib.Utf8Tabs 1 2 w
  short : shortTab.Tab w
  syn : readDec.Sent w 4
  ran : readDec.Sent w 5
  pow : Lib.TabIs Tryz.prog w "internal/strconv.uint64pow10" .u64 Lib.pow10Tab
  most : w.cell? ⟨3, 0, none⟩ = some (.int .i64 m0)
theorem Env.below {w w' : World} {m0 : Int} (h : Env w m0) (hb : Below w.heap.size w w') : Env w' m0 :=
  ⟨tabs.below h.utf8 hb, h.short.below hb, h.syn.below hb, h.ran.below hb, decText.pow10_below h.pow hb, by rw [hb.cell (World.block_lt_of_cell? w _ h.most)]; exact h.most⟩

theorem Later.run {w : World} {f : FuncId} {args : Array Value} {v : Value} (h : Later w f args v) (w' : World) (hb : Below w.heap.size w w') : Calls Tryz.prog f args w' fun e w'' => e = .returned v ∧ Below w'.heap.size w' w'' := h w' hb
theorem quoteI {w : World} {m0 : Int} (E : Env w m0) (q : ByteArray) (hq : q.size ≤ 1048576) : Later w 6 #[.string q] (.string (quote.quoteOf q)) := fun w' hb => quote.impl_quote q w' hq (E.below hb).utf8 (E.below hb).short
theorem quoteS {w : World} {m0 : Int} (_ : Env w m0) (q : ByteArray) (hq : q.size ≤ 1048576) : Later w 20 #[.string q] (.string (quote.quoteOf q)) := fun w' _ => quote.spec_quote q w' hq
theorem textI {w : World} {m0 : Int} (E : Env w m0) (q : ByteArray) (hq : q.size ≤ 1048576) : Later w 27 #[.string q] (.bool (textOk q)) := fun w' hb => signs.impl_text q w' hq (E.below hb).utf8
theorem textS {w : World} {m0 : Int} (_ : Env w m0) (q : ByteArray) (hq : q.size ≤ 1048576) : Later w 28 #[.string q] (.bool (textOk q)) := fun w' _ => signs.spec_text q w' hq
theorem unqI {w : World} {m0 : Int} (E : Env w m0) (u : ByteArray) (i : Int) (hu : u.size ≤ 1048576) : Later w 8 #[.string u, .int .i64 i] (.tuple #[.string (unquote.unq u i).1, .int .i64 (unquote.unq u i).2]) := fun w' hb => unquote.impl_any u i w' hu (E.below hb).short (E.below hb).utf8
theorem unqS {w : World} {m0 : Int} (_ : Env w m0) (u : ByteArray) (i : Int) (hu : u.size ≤ 1048576) : Later w 9 #[.string u, .int .i64 i] (.tuple #[.string (unquote.unq u i).1, .int .i64 (unquote.unq u i).2]) := fun w' _ => unquote.spec_any u i w' hu
theorem putI {w : World} {m0 : Int} (_ : Env w m0) (h : ByteArray) (hh : h.size ≤ 1048576) : Later w 11 #[.string h] (.string ⟨(putHex.hexOf h.data.toList).toArray⟩) := fun w' _ => putHex.impl_any h w' hh
theorem putS {w : World} {m0 : Int} (_ : Env w m0) (h : ByteArray) (hh : h.size ≤ 1048576) : Later w 21 #[.string h] (.string ⟨(putHex.hexOf h.data.toList).toArray⟩) := fun w' _ => putHex.spec_any h w' hh
theorem getI {w : World} {m0 : Int} (_ : Env w m0) (h : ByteArray) (hh : h.size ≤ 1048576) : Later w 13 #[.string h] (.tuple #[.string (getHex.getHex h), .bool (getHex.hexOk h)]) := fun w' _ => getHex.impl_any h w' hh
theorem getS {w : World} {m0 : Int} (_ : Env w m0) (h : ByteArray) (hh : h.size ≤ 1048576) : Later w 14 #[.string h] (.tuple #[.string (getHex.getHex h), .bool (getHex.hexOk h)]) := fun w' _ => getHex.spec_any h w' hh
theorem decI {w : World} {m0 : Int} (E : Env w m0) (d : Int) (hd : InI d) : Later w 22 #[.int .i64 d] (.string ⟨(Lib.itoa d).toArray⟩) := fun w' hb => decText.impl_any d hd.1 hd.2 w' (E.below hb).pow
theorem decS {w : World} {m0 : Int} (_ : Env w m0) (d : Int) (hd : InI d) : Later w 23 #[.int .i64 d] (.string ⟨(Lib.itoa d).toArray⟩) := fun w' _ => (decText.spec_any d hd.1 hd.2 w').mono fun _ _ ⟨he, hw⟩ => ⟨he, hw ▸ Below.refl _ _⟩
theorem readI {w : World} {m0 : Int} (E : Env w m0) (r : ByteArray) (hr : r.size ≤ 1048576) {n : Int} {ok : Bool} (R : readDec.Reads r.data.toList n ok) : Later w 17 #[.string r] (.tuple #[.int .i64 n, .bool ok]) := fun w' hb =>
  (readDec.impl_any r w' hr (E.below hb).syn (E.below hb).ran (E.below hb).pow).mono fun _ _ ⟨he, hb'⟩ => by
    obtain ⟨n', ok', e, R'⟩ := he.out
    obtain ⟨rfl, rfl⟩ := R.unique R'
    exact ⟨e, hb'⟩
theorem readS {w : World} {m0 : Int} (_ : Env w m0) (r : ByteArray) (hr : r.size ≤ 1048576) {n : Int} {ok : Bool} (R : readDec.Reads r.data.toList n ok) : Later w 18 #[.string r] (.tuple #[.int .i64 n, .bool ok]) := fun w' _ =>
  (readDec.spec_any r w' hr).mono fun _ _ ⟨he, hb'⟩ => by
    obtain ⟨n', ok', e, R'⟩ := he.out
    obtain ⟨rfl, rfl⟩ := R.unique R'
    exact ⟨e, hb' ▸ Below.refl _ _⟩
theorem reads_ex (l : List UInt8) : ∃ n ok, readDec.Reads l n ok := by
  by_cases h : ∃ n : Int, (-9223372036854775808 ≤ n ∧ n ≤ 9223372036854775807) ∧ Lib.itoa n = l
  · obtain ⟨n, hn, e⟩ := h
    exact ⟨n, true, fun _ => ⟨e, hn.1, hn.2⟩, fun h => (by cases h)⟩
  · exact ⟨0, false, fun h => (by cases h), fun _ => ⟨rfl, fun n h0 h1 e => h ⟨n, ⟨h0, h1⟩, e⟩⟩⟩
theorem quote_size (s : ByteArray) (h : s.size ≤ 500) : (quote.quoteOf s).size ≤ 4000 := by
  unfold quote.quoteOf
  split
  · show (((34 : UInt8) :: (quote.quoteL s.data.toList ++ [34])).toArray).size ≤ 4000
    have := quote.quoteL_len s.data.toList
    have hz : s.data.toList.length = s.size := by simp
    simp only [List.size_toArray, List.length_cons, List.length_append, List.length_nil]
    omega
  · decide
theorem run_size (s : ByteArray) : ∀ (f i : Nat) (acc : List UInt8), i ≤ s.size → acc.length ≤ 4 * i → (unquote.run s f i acc).1.size ≤ 4 * s.size
  | 0, i, acc, _, _ => Nat.zero_le _
  | f + 1, i, acc, hi, ha => by
    unfold unquote.run
    split
    · exact Nat.zero_le _
    · split
      · show acc.toArray.size ≤ 4 * s.size
        simp only [List.size_toArray]
        omega
      · split
        · exact Nat.zero_le _
        · next h1 h2 h3 =>
          rcases unquote.stepOf_sane s i (by omega) with hs | hs
          · rw [hs] at h3; simp at h3
          · have h4 := hs.lt
            have h5 := hs.le
            have h6 := unquote.enc_len (unquote.stepOf s i).1
            exact run_size s f _ _ (by omega) (by rw [List.length_append]; omega)
theorem unq_size (s : ByteArray) (i : Int) : (unquote.unq s i).1.size ≤ 4 * s.size := by
  unfold unquote.unq
  split
  · next h => exact run_size s _ _ _ (by omega) (by simp)
  · exact Nat.zero_le _
theorem hex_size (h : ByteArray) (hh : h.size ≤ 500) : ({ data := (putHex.hexOf h.data.toList).toArray } : ByteArray).size ≤ 1000 := by
  show (putHex.hexOf h.data.toList).toArray.size ≤ 1000
  have := putHex.hexOf_length h.data.toList
  have hz : h.data.toList.length = h.size := by simp
  simp only [List.size_toArray]
  omega
theorem get_size (g : ByteArray) : (getHex.getHex g).size ≤ g.size := by
  unfold getHex.getHex
  split
  · show (getHex.dec g (g.size / 2)).toArray.size ≤ g.size
    simp only [List.size_toArray, getHex.dec_length]
    omega
  · exact Nat.zero_le _
theorem big_no (a : Option Addr) (len cap : Nat) (w : World) (h : len ≤ 1048576) : Calls Tryz.prog 4 #[.slice a len cap] w fun e w' => e = .returned (.bool false) ∧ w = w' := by
  have h' : ¬ (1048576 : Int) < (len : Int) := by omega
  go_enter Tryz.func4, Tryz.ntmps4
  go_wp2
  go_ret
  exact ⟨by simp, rfl⟩

set_option maxHeartbeats 16000000 in
theorem core (w : World) (m0 : Int) (a : Option Addr) (len cap : Nat) (hC : draw.Code w a len w.heap.size) (hE : Env w m0) :
    Calls Tryz.prog 3 #[.slice a len cap] w fun e w' => e = .returned (.bool true) ∧ Below w.heap.size w w' := by
  have CB := Lib.hid (big_no a len cap w hC.small)
  have HC := Lib.hid hC
  have HE := Lib.hid hE
  clear hC hE
  have B := Lib.hid (Below.refl w.heap.size w)
  go_enter Tryz.func3, Tryz.ntmps3
  go_wp2_with fail
  with_reducible refine CB.out.mono ?_
  rintro e w0 ⟨rfl, rfl⟩
  clear CB
  have C := Lib.hid (quote_any w a len cap (HC.out.below B.out))
  go_wp2_with fail
  with_reducible refine C.out.mono ?_
  rintro e w1 ⟨q, hq, rfl, hb⟩
  replace B := Lib.hid (below_of2 B.out hb)
  clear C hb
  have HQi := Lib.hid (quoteI HE.out q (by omega))
  have HQs := Lib.hid (quoteS HE.out q (by omega))
  have HTq := Lib.hid (textS HE.out q (by omega))
  have HF : Hid (textOk q = true → unquote.unq (quote.quoteOf q) 0 = (q, ((quote.quoteOf q).size : Int)) ∧ (quote.quoteOf q).toList.isEmpty = false) := unquote.unq_quote q
  have HF0 : Hid (textOk q = false → (quote.quoteOf q).toList.isEmpty = true) := fun h => by
    have e : quote.quoteOf q = ⟨#[]⟩ := by unfold quote.quoteOf; rw [h]; rfl
    rw [e, signs.isEmpty_of rfl]
    rfl
  have hSz := quote_size q hq
  generalize quote.quoteOf q = S at *
  go_wp2_with fail
  with_reducible refine (HQi.out.run _ B.out).mono ?_
  rintro e w2 ⟨rfl, hb⟩
  replace B := Lib.hid (below_of2 B.out hb)
  clear hb
  clear HQi
  have C := Lib.hid (unquote_any w2 a len cap (HC.out.below B.out))
  go_wp2_with fail
  with_reducible refine C.out.mono ?_
  rintro e w3 ⟨u, i, hu, rfl, hb⟩
  replace B := Lib.hid (below_of2 B.out hb)
  clear C hb
  have HUi := Lib.hid (unqI HE.out u i (by omega))
  have HUs := Lib.hid (unqS HE.out u i (by omega))
  have HX : Hid (0 ≤ (unquote.unq u i).2 → textOk (unquote.unq u i).1 = true) := unquote.unq_text u i
  have hxz := unq_size u i
  generalize (unquote.unq u i).1 = x at *
  generalize (unquote.unq u i).2 = nx at *
  have HTx := Lib.hid (textI HE.out x (by omega))
  go_wp2_with fail
  with_reducible refine (HUi.out.run _ B.out).mono ?_
  rintro e w4 ⟨rfl, hb⟩
  replace B := Lib.hid (below_of2 B.out hb)
  clear hb
  go_wp2_with fail
  with_reducible refine (HUs.out.run _ B.out).mono ?_
  rintro e w5 ⟨rfl, hb⟩
  replace B := Lib.hid (below_of2 B.out hb)
  clear hb
  clear HUi HUs
  have C := Lib.hid (putHex_any w5 a len cap (HC.out.below B.out))
  go_wp2_with fail
  with_reducible refine C.out.mono ?_
  rintro e w6 ⟨h, hh, rfl, hb⟩
  replace B := Lib.hid (below_of2 B.out hb)
  clear C hb
  have HHi := Lib.hid (putI HE.out h (by omega))
  have HHs := Lib.hid (putS HE.out h (by omega))
  have HHb := Lib.hid (getI HE.out ⟨(putHex.hexOf h.data.toList).toArray⟩ (by have := hex_size h hh; omega))
  rw [(unquote.hex_back h).1, (unquote.hex_back h).2] at HHb
  generalize ({ data := (putHex.hexOf h.data.toList).toArray } : ByteArray) = X at *
  go_wp2_with fail
  with_reducible refine (HHi.out.run _ B.out).mono ?_
  rintro e w7 ⟨rfl, hb⟩
  replace B := Lib.hid (below_of2 B.out hb)
  clear hb
  clear HHi
  have C := Lib.hid (getHex_any w7 a len cap (HC.out.below B.out))
  go_wp2_with fail
  with_reducible refine C.out.mono ?_
  rintro e w8 ⟨g, hg, rfl, hb⟩
  replace B := Lib.hid (below_of2 B.out hb)
  clear C hb
  have HGi := Lib.hid (getI HE.out g (by omega))
  have HGs := Lib.hid (getS HE.out g (by omega))
  have HPb : Hid (getHex.hexOk g = true → Later w 11 #[.string (getHex.getHex g)] (.string g)) := fun hok => by
    have := putI HE.out (getHex.getHex g) (by have := get_size g; omega)
    rw [unquote.hex_again g hok] at this
    exact this
  generalize getHex.getHex g = b at *
  generalize getHex.hexOk g = ok at *
  go_wp2_with fail
  with_reducible refine (HGi.out.run _ B.out).mono ?_
  rintro e w9 ⟨rfl, hb⟩
  replace B := Lib.hid (below_of2 B.out hb)
  clear hb
  go_wp2_with fail
  with_reducible refine (HGs.out.run _ B.out).mono ?_
  rintro e w10 ⟨rfl, hb⟩
  replace B := Lib.hid (below_of2 B.out hb)
  clear hb
  clear HGi HGs
  have C := Lib.hid (decText_any w10 a len cap (HC.out.below B.out))
  go_wp2_with fail
  with_reducible refine C.out.mono ?_
  rintro e w11 ⟨d, hd, rfl, hb⟩
  replace B := Lib.hid (below_of2 B.out hb)
  clear C hb
  have HDi := Lib.hid (decI HE.out d hd)
  have HDs := Lib.hid (decS HE.out d hd)
  have HRd := Lib.hid (readI HE.out ⟨(Lib.itoa d).toArray⟩ (by have := itoa_size d hd; omega) (n := d) (ok := true) ⟨fun _ => ⟨rfl, hd.1, hd.2⟩, fun h => (by cases h)⟩)
  generalize ({ data := (Lib.itoa d).toArray } : ByteArray) = D at *
  clear hd
  have C := Lib.hid (readDec_any w11 a len cap (HC.out.below B.out))
  go_wp2_with fail
  with_reducible refine C.out.mono ?_
  rintro e w12 ⟨r, hr, rfl, hb⟩
  replace B := Lib.hid (below_of2 B.out hb)
  clear C hb
  obtain ⟨n, is, R⟩ := reads_ex r.data.toList
  have HRi := Lib.hid (readI HE.out r (by omega) R)
  have HRs := Lib.hid (readS HE.out r (by omega) R)
  have HDn : Hid (is = true → Later w 22 #[.int .i64 n] (.string r)) := fun h => by
    obtain ⟨e, h0, h1⟩ := R.yes h
    have := decI HE.out n ⟨h0, h1⟩
    rw [e] at this
    exact this
  clear R
  go_wp2_with fail
  with_reducible refine (HRi.out.run _ B.out).mono ?_
  rintro e w13 ⟨rfl, hb⟩
  replace B := Lib.hid (below_of2 B.out hb)
  clear hb
  go_wp2_with fail
  with_reducible refine (HRs.out.run _ B.out).mono ?_
  rintro e w14 ⟨rfl, hb⟩
  replace B := Lib.hid (below_of2 B.out hb)
  clear hb
  clear HRi HRs
  have C := Lib.hid (words_any w14 a len cap (HC.out.below B.out))
  go_wp2_with fail
  with_reducible refine C.out.mono ?_
  rintro e w15 ⟨wd, hwd, rfl, hb⟩
  replace B := Lib.hid (below_of2 B.out hb)
  clear C hb
  go_wp2_with fail
  with_reducible refine (HQs.out.run _ B.out).mono ?_
  rintro e w16 ⟨rfl, hb⟩
  replace B := Lib.hid (below_of2 B.out hb)
  clear hb
  go_wp2_with fail
  with_reducible refine (HHs.out.run _ B.out).mono ?_
  rintro e w17 ⟨rfl, hb⟩
  replace B := Lib.hid (below_of2 B.out hb)
  clear hb
  go_wp2_with fail
  with_reducible refine (HDi.out.run _ B.out).mono ?_
  rintro e w18 ⟨rfl, hb⟩
  replace B := Lib.hid (below_of2 B.out hb)
  clear hb
  go_wp2_with fail
  with_reducible refine (HDs.out.run _ B.out).mono ?_
  rintro e w19 ⟨rfl, hb⟩
  replace B := Lib.hid (below_of2 B.out hb)
  clear hb
  clear HQs HHs HDs
  have hwl := words.wordsOf_length wd
  have CW := Lib.hid (words.impl_any wd w19 (by omega) m0 (HE.out.below B.out).most)
  go_wp2_with fail
  with_reducible refine CW.out.mono ?_
  rintro e w20 ⟨v1, rfl, o1, hb⟩
  replace B := Lib.hid (below_of2 B.out hb)
  clear CW hb
  have CW := Lib.hid (words.spec_any wd w20 (by omega))
  have O1 := Lib.hid o1
  clear o1
  go_wp2_with fail
  with_reducible refine CW.out.mono ?_
  rintro e w21 ⟨v2, rfl, o2, hb⟩
  replace B := Lib.hid (below_of2 B.out hb)
  have o1 := O1.out.below hb
  clear CW hb
  obtain ⟨a1, c1, g1, r1⟩ := strs.readS_of o1
  obtain ⟨a2, c2, g2, r2⟩ := strs.readS_of o2
  have CS := Lib.hid (strs.same_true _ _ _ w21 _ _ _ _ _ _ r1 r2 (by omega))
  clear o1 o2 r1 r2 O1
  go_wp2_with fail
  with_reducible refine CS.out.mono ?_
  rintro e w22 ⟨rfl, m, rfl⟩
  replace B := Lib.hid (belowN B.out m)
  clear CS HC
  generalize w21.drewN m = W at *
  cases ok
  · cases is
    · rcases (show nx < 0 ∨ 0 ≤ nx by omega) with hnx | hnx
      · have hgd : decide ((0 : Int) ≤ nx) = false := by simp; omega
        go_wp2_with fail
        with_reducible refine ((HHb.out).run _ B.out).mono ?_
        rintro e wn ⟨rfl, hb⟩
        replace B := Lib.hid (below_of2 B.out hb)
        clear hb
        go_wp2_with fail
        with_reducible refine ((HDi.out).run _ B.out).mono ?_
        rintro e wn ⟨rfl, hb⟩
        replace B := Lib.hid (below_of2 B.out hb)
        clear hb
        go_wp2_with fail
        with_reducible refine ((HRd.out).run _ B.out).mono ?_
        rintro e wn ⟨rfl, hb⟩
        replace B := Lib.hid (below_of2 B.out hb)
        clear hb
        cases hq0 : textOk q
        · have hE := HF0.out hq0
          rw [hq0] at HTq
          clear HF HF0 hq0
          go_wp2_with fail
          with_reducible refine ((HTq.out).run _ B.out).mono ?_
          rintro e wn ⟨rfl, hb⟩
          replace B := Lib.hid (below_of2 B.out hb)
          clear hb
          go_wp2
          go_ret
          exact ⟨rfl, B.out⟩
        · obtain ⟨hU, hE⟩ := HF.out hq0
          have HUq := Lib.hid (unqI HE.out S 0 (by omega))
          rw [hU] at HUq
          clear HF HF0 hq0 hU
          go_wp2_with fail
          with_reducible refine ((HUq.out).run _ B.out).mono ?_
          rintro e wn ⟨rfl, hb⟩
          replace B := Lib.hid (below_of2 B.out hb)
          clear hb
          go_wp2
          go_ret
          exact ⟨by simp, B.out⟩
      · have hgd : decide ((0 : Int) ≤ nx) = true := by simp; omega
        rw [HX.out hnx] at HTx
        go_wp2_with fail
        with_reducible refine ((HTx.out).run _ B.out).mono ?_
        rintro e wn ⟨rfl, hb⟩
        replace B := Lib.hid (below_of2 B.out hb)
        clear hb
        go_wp2_with fail
        with_reducible refine ((HHb.out).run _ B.out).mono ?_
        rintro e wn ⟨rfl, hb⟩
        replace B := Lib.hid (below_of2 B.out hb)
        clear hb
        go_wp2_with fail
        with_reducible refine ((HDi.out).run _ B.out).mono ?_
        rintro e wn ⟨rfl, hb⟩
        replace B := Lib.hid (below_of2 B.out hb)
        clear hb
        go_wp2_with fail
        with_reducible refine ((HRd.out).run _ B.out).mono ?_
        rintro e wn ⟨rfl, hb⟩
        replace B := Lib.hid (below_of2 B.out hb)
        clear hb
        cases hq0 : textOk q
        · have hE := HF0.out hq0
          rw [hq0] at HTq
          clear HF HF0 hq0
          go_wp2_with fail
          with_reducible refine ((HTq.out).run _ B.out).mono ?_
          rintro e wn ⟨rfl, hb⟩
          replace B := Lib.hid (below_of2 B.out hb)
          clear hb
          go_wp2
          go_ret
          exact ⟨rfl, B.out⟩
        · obtain ⟨hU, hE⟩ := HF.out hq0
          have HUq := Lib.hid (unqI HE.out S 0 (by omega))
          rw [hU] at HUq
          clear HF HF0 hq0 hU
          go_wp2_with fail
          with_reducible refine ((HUq.out).run _ B.out).mono ?_
          rintro e wn ⟨rfl, hb⟩
          replace B := Lib.hid (below_of2 B.out hb)
          clear hb
          go_wp2
          go_ret
          exact ⟨by simp, B.out⟩
    · rcases (show nx < 0 ∨ 0 ≤ nx by omega) with hnx | hnx
      · have hgd : decide ((0 : Int) ≤ nx) = false := by simp; omega
        replace HDn := Lib.hid (HDn.out rfl)
        go_wp2_with fail
        with_reducible refine ((HDn.out).run _ B.out).mono ?_
        rintro e wn ⟨rfl, hb⟩
        replace B := Lib.hid (below_of2 B.out hb)
        clear hb
        go_wp2_with fail
        with_reducible refine ((HHb.out).run _ B.out).mono ?_
        rintro e wn ⟨rfl, hb⟩
        replace B := Lib.hid (below_of2 B.out hb)
        clear hb
        go_wp2_with fail
        with_reducible refine ((HDi.out).run _ B.out).mono ?_
        rintro e wn ⟨rfl, hb⟩
        replace B := Lib.hid (below_of2 B.out hb)
        clear hb
        go_wp2_with fail
        with_reducible refine ((HRd.out).run _ B.out).mono ?_
        rintro e wn ⟨rfl, hb⟩
        replace B := Lib.hid (below_of2 B.out hb)
        clear hb
        cases hq0 : textOk q
        · have hE := HF0.out hq0
          rw [hq0] at HTq
          clear HF HF0 hq0
          go_wp2_with fail
          with_reducible refine ((HTq.out).run _ B.out).mono ?_
          rintro e wn ⟨rfl, hb⟩
          replace B := Lib.hid (below_of2 B.out hb)
          clear hb
          go_wp2
          go_ret
          exact ⟨rfl, B.out⟩
        · obtain ⟨hU, hE⟩ := HF.out hq0
          have HUq := Lib.hid (unqI HE.out S 0 (by omega))
          rw [hU] at HUq
          clear HF HF0 hq0 hU
          go_wp2_with fail
          with_reducible refine ((HUq.out).run _ B.out).mono ?_
          rintro e wn ⟨rfl, hb⟩
          replace B := Lib.hid (below_of2 B.out hb)
          clear hb
          go_wp2
          go_ret
          exact ⟨by simp, B.out⟩
      · have hgd : decide ((0 : Int) ≤ nx) = true := by simp; omega
        replace HDn := Lib.hid (HDn.out rfl)
        rw [HX.out hnx] at HTx
        go_wp2_with fail
        with_reducible refine ((HDn.out).run _ B.out).mono ?_
        rintro e wn ⟨rfl, hb⟩
        replace B := Lib.hid (below_of2 B.out hb)
        clear hb
        go_wp2_with fail
        with_reducible refine ((HTx.out).run _ B.out).mono ?_
        rintro e wn ⟨rfl, hb⟩
        replace B := Lib.hid (below_of2 B.out hb)
        clear hb
        go_wp2_with fail
        with_reducible refine ((HHb.out).run _ B.out).mono ?_
        rintro e wn ⟨rfl, hb⟩
        replace B := Lib.hid (below_of2 B.out hb)
        clear hb
        go_wp2_with fail
        with_reducible refine ((HDi.out).run _ B.out).mono ?_
        rintro e wn ⟨rfl, hb⟩
        replace B := Lib.hid (below_of2 B.out hb)
        clear hb
        go_wp2_with fail
        with_reducible refine ((HRd.out).run _ B.out).mono ?_
        rintro e wn ⟨rfl, hb⟩
        replace B := Lib.hid (below_of2 B.out hb)
        clear hb
        cases hq0 : textOk q
        · have hE := HF0.out hq0
          rw [hq0] at HTq
          clear HF HF0 hq0
          go_wp2_with fail
          with_reducible refine ((HTq.out).run _ B.out).mono ?_
          rintro e wn ⟨rfl, hb⟩
          replace B := Lib.hid (below_of2 B.out hb)
          clear hb
          go_wp2
          go_ret
          exact ⟨rfl, B.out⟩
        · obtain ⟨hU, hE⟩ := HF.out hq0
          have HUq := Lib.hid (unqI HE.out S 0 (by omega))
          rw [hU] at HUq
          clear HF HF0 hq0 hU
          go_wp2_with fail
          with_reducible refine ((HUq.out).run _ B.out).mono ?_
          rintro e wn ⟨rfl, hb⟩
          replace B := Lib.hid (below_of2 B.out hb)
          clear hb
          go_wp2
          go_ret
          exact ⟨by simp, B.out⟩
  · cases is
    · rcases (show nx < 0 ∨ 0 ≤ nx by omega) with hnx | hnx
      · have hgd : decide ((0 : Int) ≤ nx) = false := by simp; omega
        replace HPb := Lib.hid (HPb.out rfl)
        go_wp2_with fail
        with_reducible refine ((HPb.out).run _ B.out).mono ?_
        rintro e wn ⟨rfl, hb⟩
        replace B := Lib.hid (below_of2 B.out hb)
        clear hb
        go_wp2_with fail
        with_reducible refine ((HHb.out).run _ B.out).mono ?_
        rintro e wn ⟨rfl, hb⟩
        replace B := Lib.hid (below_of2 B.out hb)
        clear hb
        go_wp2_with fail
        with_reducible refine ((HDi.out).run _ B.out).mono ?_
        rintro e wn ⟨rfl, hb⟩
        replace B := Lib.hid (below_of2 B.out hb)
        clear hb
        go_wp2_with fail
        with_reducible refine ((HRd.out).run _ B.out).mono ?_
        rintro e wn ⟨rfl, hb⟩
        replace B := Lib.hid (below_of2 B.out hb)
        clear hb
        cases hq0 : textOk q
        · have hE := HF0.out hq0
          rw [hq0] at HTq
          clear HF HF0 hq0
          go_wp2_with fail
          with_reducible refine ((HTq.out).run _ B.out).mono ?_
          rintro e wn ⟨rfl, hb⟩
          replace B := Lib.hid (below_of2 B.out hb)
          clear hb
          go_wp2
          go_ret
          exact ⟨rfl, B.out⟩
        · obtain ⟨hU, hE⟩ := HF.out hq0
          have HUq := Lib.hid (unqI HE.out S 0 (by omega))
          rw [hU] at HUq
          clear HF HF0 hq0 hU
          go_wp2_with fail
          with_reducible refine ((HUq.out).run _ B.out).mono ?_
          rintro e wn ⟨rfl, hb⟩
          replace B := Lib.hid (below_of2 B.out hb)
          clear hb
          go_wp2
          go_ret
          exact ⟨by simp, B.out⟩
      · have hgd : decide ((0 : Int) ≤ nx) = true := by simp; omega
        replace HPb := Lib.hid (HPb.out rfl)
        rw [HX.out hnx] at HTx
        go_wp2_with fail
        with_reducible refine ((HPb.out).run _ B.out).mono ?_
        rintro e wn ⟨rfl, hb⟩
        replace B := Lib.hid (below_of2 B.out hb)
        clear hb
        go_wp2_with fail
        with_reducible refine ((HTx.out).run _ B.out).mono ?_
        rintro e wn ⟨rfl, hb⟩
        replace B := Lib.hid (below_of2 B.out hb)
        clear hb
        go_wp2_with fail
        with_reducible refine ((HHb.out).run _ B.out).mono ?_
        rintro e wn ⟨rfl, hb⟩
        replace B := Lib.hid (below_of2 B.out hb)
        clear hb
        go_wp2_with fail
        with_reducible refine ((HDi.out).run _ B.out).mono ?_
        rintro e wn ⟨rfl, hb⟩
        replace B := Lib.hid (below_of2 B.out hb)
        clear hb
        go_wp2_with fail
        with_reducible refine ((HRd.out).run _ B.out).mono ?_
        rintro e wn ⟨rfl, hb⟩
        replace B := Lib.hid (below_of2 B.out hb)
        clear hb
        cases hq0 : textOk q
        · have hE := HF0.out hq0
          rw [hq0] at HTq
          clear HF HF0 hq0
          go_wp2_with fail
          with_reducible refine ((HTq.out).run _ B.out).mono ?_
          rintro e wn ⟨rfl, hb⟩
          replace B := Lib.hid (below_of2 B.out hb)
          clear hb
          go_wp2
          go_ret
          exact ⟨rfl, B.out⟩
        · obtain ⟨hU, hE⟩ := HF.out hq0
          have HUq := Lib.hid (unqI HE.out S 0 (by omega))
          rw [hU] at HUq
          clear HF HF0 hq0 hU
          go_wp2_with fail
          with_reducible refine ((HUq.out).run _ B.out).mono ?_
          rintro e wn ⟨rfl, hb⟩
          replace B := Lib.hid (below_of2 B.out hb)
          clear hb
          go_wp2
          go_ret
          exact ⟨by simp, B.out⟩
    · rcases (show nx < 0 ∨ 0 ≤ nx by omega) with hnx | hnx
      · have hgd : decide ((0 : Int) ≤ nx) = false := by simp; omega
        replace HPb := Lib.hid (HPb.out rfl)
        replace HDn := Lib.hid (HDn.out rfl)
        go_wp2_with fail
        with_reducible refine ((HPb.out).run _ B.out).mono ?_
        rintro e wn ⟨rfl, hb⟩
        replace B := Lib.hid (below_of2 B.out hb)
        clear hb
        go_wp2_with fail
        with_reducible refine ((HDn.out).run _ B.out).mono ?_
        rintro e wn ⟨rfl, hb⟩
        replace B := Lib.hid (below_of2 B.out hb)
        clear hb
        go_wp2_with fail
        with_reducible refine ((HHb.out).run _ B.out).mono ?_
        rintro e wn ⟨rfl, hb⟩
        replace B := Lib.hid (below_of2 B.out hb)
        clear hb
        go_wp2_with fail
        with_reducible refine ((HDi.out).run _ B.out).mono ?_
        rintro e wn ⟨rfl, hb⟩
        replace B := Lib.hid (below_of2 B.out hb)
        clear hb
        go_wp2_with fail
        with_reducible refine ((HRd.out).run _ B.out).mono ?_
        rintro e wn ⟨rfl, hb⟩
        replace B := Lib.hid (below_of2 B.out hb)
        clear hb
        cases hq0 : textOk q
        · have hE := HF0.out hq0
          rw [hq0] at HTq
          clear HF HF0 hq0
          go_wp2_with fail
          with_reducible refine ((HTq.out).run _ B.out).mono ?_
          rintro e wn ⟨rfl, hb⟩
          replace B := Lib.hid (below_of2 B.out hb)
          clear hb
          go_wp2
          go_ret
          exact ⟨rfl, B.out⟩
        · obtain ⟨hU, hE⟩ := HF.out hq0
          have HUq := Lib.hid (unqI HE.out S 0 (by omega))
          rw [hU] at HUq
          clear HF HF0 hq0 hU
          go_wp2_with fail
          with_reducible refine ((HUq.out).run _ B.out).mono ?_
          rintro e wn ⟨rfl, hb⟩
          replace B := Lib.hid (below_of2 B.out hb)
          clear hb
          go_wp2
          go_ret
          exact ⟨by simp, B.out⟩
      · have hgd : decide ((0 : Int) ≤ nx) = true := by simp; omega
        replace HPb := Lib.hid (HPb.out rfl)
        replace HDn := Lib.hid (HDn.out rfl)
        rw [HX.out hnx] at HTx
        go_wp2_with fail
        with_reducible refine ((HPb.out).run _ B.out).mono ?_
        rintro e wn ⟨rfl, hb⟩
        replace B := Lib.hid (below_of2 B.out hb)
        clear hb
        go_wp2_with fail
        with_reducible refine ((HDn.out).run _ B.out).mono ?_
        rintro e wn ⟨rfl, hb⟩
        replace B := Lib.hid (below_of2 B.out hb)
        clear hb
        go_wp2_with fail
        with_reducible refine ((HTx.out).run _ B.out).mono ?_
        rintro e wn ⟨rfl, hb⟩
        replace B := Lib.hid (below_of2 B.out hb)
        clear hb
        go_wp2_with fail
        with_reducible refine ((HHb.out).run _ B.out).mono ?_
        rintro e wn ⟨rfl, hb⟩
        replace B := Lib.hid (below_of2 B.out hb)
        clear hb
        go_wp2_with fail
        with_reducible refine ((HDi.out).run _ B.out).mono ?_
        rintro e wn ⟨rfl, hb⟩
        replace B := Lib.hid (below_of2 B.out hb)
        clear hb
        go_wp2_with fail
        with_reducible refine ((HRd.out).run _ B.out).mono ?_
        rintro e wn ⟨rfl, hb⟩
        replace B := Lib.hid (below_of2 B.out hb)
        clear hb
        cases hq0 : textOk q
        · have hE := HF0.out hq0
          rw [hq0] at HTq
          clear HF HF0 hq0
          go_wp2_with fail
          with_reducible refine ((HTq.out).run _ B.out).mono ?_
          rintro e wn ⟨rfl, hb⟩
          replace B := Lib.hid (below_of2 B.out hb)
          clear hb
          go_wp2
          go_ret
          exact ⟨rfl, B.out⟩
        · obtain ⟨hU, hE⟩ := HF.out hq0
          have HUq := Lib.hid (unqI HE.out S 0 (by omega))
          rw [hU] at HUq
          clear HF HF0 hq0 hU
          go_wp2_with fail
          with_reducible refine ((HUq.out).run _ B.out).mono ?_
          rintro e wn ⟨rfl, hb⟩
          replace B := Lib.hid (below_of2 B.out hb)
          clear hb
          go_wp2
          go_ret
          exact ⟨by simp, B.out⟩

end Go.Proofs.YtlnhfgkecifhdaaGreatDoor.fnQuote
