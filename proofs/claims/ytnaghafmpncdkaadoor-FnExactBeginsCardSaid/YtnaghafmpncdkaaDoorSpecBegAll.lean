/-
  spec's walk over heads at every depth; spec.Begins.
-/
import Derived.Test.YtnaghafmpncdkaaDoorSpecBegS
import Derived.Test.YtnaghafmpncdkaaDoorSpecBegKS
import Derived.Test.YtnaghafmpncdkaaDoorSpecBegA
import Derived.Test.YtnaghafmpncdkaaDoorSpecBegKA
import Derived.Test.YtnaghafmpncdkaaDoorSpecBegB
import Derived.Test.YtnaghafmpncdkaaDoorSpecBegKB
import Derived.Test.YtnaghafmpncdkaaDoorSpecBegC
import Derived.Test.YtnaghafmpncdkaaDoorSpecBegKC
import Derived.Test.YtnaghafmpncdkaaDoorSpecBegD
import Derived.Test.YtnaghafmpncdkaaDoorSpecBegKD
import Derived.Test.YtnaghafmpncdkaaDoorGetHeadLast
namespace Go.Proofs.YtnaghafmpncdkaaDoor.beg
open Go.ChangeShapes Go.WideShapes Go.ChangeAt Go.RowKit
open Go.Proofs.YtnaghafmpncdkaaDoor.head
set_option maxRecDepth 100000

/-- How long a head is that may be read. -/
def Len (s : ByteArray) (i : Nat) : Prop := low s i < 24 ∨ (low s i = 24 ∧ i + 1 + 1 ≤ s.size) ∨ (low s i = 25 ∧ i + 1 + 2 ≤ s.size) ∨ (low s i = 26 ∧ i + 1 + 4 ≤ s.size) ∨ (low s i = 27 ∧ i + 1 + 8 ≤ s.size)
theorem len_of {s : ByteArray} {i : Nat} (hc : ¬ cutH s i) (hl : low s i < 28) : Len s i := by
  unfold cutH at hc
  unfold Len
  by_cases h : low s i < 24
  · exact .inl h
  · have hm : many s i = 2 ^ (low s i - 24) := if_neg h
    rcases (show low s i = 24 ∨ low s i = 25 ∨ low s i = 26 ∨ low s i = 27 by omega) with e | e | e | e <;> rw [e] at hm hc ⊢ <;> simp at hm hc ⊢ <;> omega
theorem wfail_any (W : World) (b : Nat) (s : ByteArray) (i left d : Nat) (hs : s.size ≤ 1048576) (hl0 : 0 < left) (hl : left ≤ 2000) (hd : d ≤ 14) (h : LC W b left) (hi : i < s.size) (hL : Len s i) (he : getHead s i = (-1, 0, -1)) :
    Calls Tryd.prog 33 #[.string s, .int .i64 i, .int .i64 d, .pointer (some ⟨b, 0, none⟩)] W fun e w' => WRet W w' b (-1, (left : Int) - 1) e := by
  rcases hL with h1 | ⟨h1, h2⟩ | ⟨h1, h2⟩ | ⟨h1, h2⟩ | ⟨h1, h2⟩
  · exact wfail_S W b s i left d hs hl0 hl hd h hi h1 he
  · exact wfail_A W b s i left d hs hl0 hl hd h hi h1 h2 he
  · exact wfail_B W b s i left d hs hl0 hl hd h hi h1 h2 he
  · exact wfail_C W b s i left d hs hl0 hl hd h hi h1 h2 he
  · exact wfail_D W b s i left d hs hl0 hl hd h hi h1 h2 he
theorem wnat_any (W : World) (b : Nat) (s : ByteArray) (i left d : Nat) (hs : s.size ≤ 1048576) (hl0 : 0 < left) (hl : left ≤ 2000) (hd : d ≤ 14) (h : LC W b left) (hi : i < s.size) (hL : Len s i) (m n X : Nat) (he : getHead s i = ((m : Int), n, (X : Int))) (hX : i < X ∧ X ≤ s.size) (hm : m ≤ 1) (hn : n ≤ 9223372036854775807) :
    Calls Tryd.prog 33 #[.string s, .int .i64 i, .int .i64 d, .pointer (some ⟨b, 0, none⟩)] W fun e w' => WRet W w' b ((X : Int), (left : Int) - 1) e := by
  rcases hL with h1 | ⟨h1, h2⟩ | ⟨h1, h2⟩ | ⟨h1, h2⟩ | ⟨h1, h2⟩
  · exact wnat_S W b s i left d hs hl0 hl hd h hi h1 m n X he hX hm hn
  · exact wnat_A W b s i left d hs hl0 hl hd h hi h1 h2 m n X he hX hm hn
  · exact wnat_B W b s i left d hs hl0 hl hd h hi h1 h2 m n X he hX hm hn
  · exact wnat_C W b s i left d hs hl0 hl hd h hi h1 h2 m n X he hX hm hn
  · exact wnat_D W b s i left d hs hl0 hl hd h hi h1 h2 m n X he hX hm hn
theorem wbig_any (W : World) (b : Nat) (s : ByteArray) (i left d : Nat) (hs : s.size ≤ 1048576) (hl0 : 0 < left) (hl : left ≤ 2000) (hd : d ≤ 14) (h : LC W b left) (hi : i < s.size) (hL : Len s i) (m n X : Nat) (he : getHead s i = ((m : Int), n, (X : Int))) (hX : i < X ∧ X ≤ s.size) (hm : m ≤ 1) (hn : 9223372036854775807 < n) :
    Calls Tryd.prog 33 #[.string s, .int .i64 i, .int .i64 d, .pointer (some ⟨b, 0, none⟩)] W fun e w' => WRet W w' b (-1, (left : Int) - 1) e := by
  rcases hL with h1 | ⟨h1, h2⟩ | ⟨h1, h2⟩ | ⟨h1, h2⟩ | ⟨h1, h2⟩
  · exact wbig_S W b s i left d hs hl0 hl hd h hi h1 m n X he hX hm hn
  · exact wbig_A W b s i left d hs hl0 hl hd h hi h1 h2 m n X he hX hm hn
  · exact wbig_B W b s i left d hs hl0 hl hd h hi h1 h2 m n X he hX hm hn
  · exact wbig_C W b s i left d hs hl0 hl hd h hi h1 h2 m n X he hX hm hn
  · exact wbig_D W b s i left d hs hl0 hl hd h hi h1 h2 m n X he hX hm hn
theorem wword_any (W : World) (b : Nat) (s : ByteArray) (i left d : Nat) (hs : s.size ≤ 1048576) (hl0 : 0 < left) (hl : left ≤ 2000) (hd : d ≤ 14) (h : LC W b left) (hi : i < s.size) (hL : Len s i) (m n X : Nat) (he : getHead s i = ((m : Int), n, (X : Int))) (hX : i < X ∧ X ≤ s.size) (hm : m = 7) (hn : 20 ≤ n ∧ n ≤ 22) :
    Calls Tryd.prog 33 #[.string s, .int .i64 i, .int .i64 d, .pointer (some ⟨b, 0, none⟩)] W fun e w' => WRet W w' b ((X : Int), (left : Int) - 1) e := by
  rcases hL with h1 | ⟨h1, h2⟩ | ⟨h1, h2⟩ | ⟨h1, h2⟩ | ⟨h1, h2⟩
  · exact wword_S W b s i left d hs hl0 hl hd h hi h1 m n X he hX hm hn
  · exact wword_A W b s i left d hs hl0 hl hd h hi h1 h2 m n X he hX hm hn
  · exact wword_B W b s i left d hs hl0 hl hd h hi h1 h2 m n X he hX hm hn
  · exact wword_C W b s i left d hs hl0 hl hd h hi h1 h2 m n X he hX hm hn
  · exact wword_D W b s i left d hs hl0 hl hd h hi h1 h2 m n X he hX hm hn
theorem wwordno_any (W : World) (b : Nat) (s : ByteArray) (i left d : Nat) (hs : s.size ≤ 1048576) (hl0 : 0 < left) (hl : left ≤ 2000) (hd : d ≤ 14) (h : LC W b left) (hi : i < s.size) (hL : Len s i) (m n X : Nat) (he : getHead s i = ((m : Int), n, (X : Int))) (hX : i < X ∧ X ≤ s.size) (hm : m = 7) (hn : n < 20) :
    Calls Tryd.prog 33 #[.string s, .int .i64 i, .int .i64 d, .pointer (some ⟨b, 0, none⟩)] W fun e w' => WRet W w' b (-1, (left : Int) - 1) e := by
  rcases hL with h1 | ⟨h1, h2⟩ | ⟨h1, h2⟩ | ⟨h1, h2⟩ | ⟨h1, h2⟩
  · exact wwordno_S W b s i left d hs hl0 hl hd h hi h1 m n X he hX hm hn
  · exact wwordno_A W b s i left d hs hl0 hl hd h hi h1 h2 m n X he hX hm hn
  · exact wwordno_B W b s i left d hs hl0 hl hd h hi h1 h2 m n X he hX hm hn
  · exact wwordno_C W b s i left d hs hl0 hl hd h hi h1 h2 m n X he hX hm hn
  · exact wwordno_D W b s i left d hs hl0 hl hd h hi h1 h2 m n X he hX hm hn
theorem wwordup_any (W : World) (b : Nat) (s : ByteArray) (i left d : Nat) (hs : s.size ≤ 1048576) (hl0 : 0 < left) (hl : left ≤ 2000) (hd : d ≤ 14) (h : LC W b left) (hi : i < s.size) (hL : Len s i) (m n X : Nat) (he : getHead s i = ((m : Int), n, (X : Int))) (hX : i < X ∧ X ≤ s.size) (hm : m = 7) (hn : 22 < n) :
    Calls Tryd.prog 33 #[.string s, .int .i64 i, .int .i64 d, .pointer (some ⟨b, 0, none⟩)] W fun e w' => WRet W w' b (-1, (left : Int) - 1) e := by
  rcases hL with h1 | ⟨h1, h2⟩ | ⟨h1, h2⟩ | ⟨h1, h2⟩ | ⟨h1, h2⟩
  · exact wwordup_S W b s i left d hs hl0 hl hd h hi h1 m n X he hX hm hn
  · exact wwordup_A W b s i left d hs hl0 hl hd h hi h1 h2 m n X he hX hm hn
  · exact wwordup_B W b s i left d hs hl0 hl hd h hi h1 h2 m n X he hX hm hn
  · exact wwordup_C W b s i left d hs hl0 hl hd h hi h1 h2 m n X he hX hm hn
  · exact wwordup_D W b s i left d hs hl0 hl hd h hi h1 h2 m n X he hX hm hn
theorem wlong_any (W : World) (b : Nat) (s : ByteArray) (i left d : Nat) (hs : s.size ≤ 1048576) (hl0 : 0 < left) (hl : left ≤ 2000) (hd : d ≤ 14) (h : LC W b left) (hi : i < s.size) (hL : Len s i) (m n X : Nat) (he : getHead s i = ((m : Int), n, (X : Int))) (hX : i < X ∧ X ≤ s.size) (hm : m = 2 ∨ m = 3) (hn : 2000 < n) :
    Calls Tryd.prog 33 #[.string s, .int .i64 i, .int .i64 d, .pointer (some ⟨b, 0, none⟩)] W fun e w' => WRet W w' b (-1, (left : Int) - 1) e := by
  rcases hL with h1 | ⟨h1, h2⟩ | ⟨h1, h2⟩ | ⟨h1, h2⟩ | ⟨h1, h2⟩
  · exact wlong_S W b s i left d hs hl0 hl hd h hi h1 m n X he hX hm hn
  · exact wlong_A W b s i left d hs hl0 hl hd h hi h1 h2 m n X he hX hm hn
  · exact wlong_B W b s i left d hs hl0 hl hd h hi h1 h2 m n X he hX hm hn
  · exact wlong_C W b s i left d hs hl0 hl hd h hi h1 h2 m n X he hX hm hn
  · exact wlong_D W b s i left d hs hl0 hl hd h hi h1 h2 m n X he hX hm hn
theorem wcut_any (W : World) (b : Nat) (s : ByteArray) (i left d : Nat) (hs : s.size ≤ 1048576) (hl0 : 0 < left) (hl : left ≤ 2000) (hd : d ≤ 14) (h : LC W b left) (hi : i < s.size) (hL : Len s i) (m n X : Nat) (he : getHead s i = ((m : Int), n, (X : Int))) (hX : i < X ∧ X ≤ s.size) (hm : m = 2 ∨ m = 3) (hn : n ≤ 2000) (hc : s.size - X < n) :
    Calls Tryd.prog 33 #[.string s, .int .i64 i, .int .i64 d, .pointer (some ⟨b, 0, none⟩)] W fun e w' => WRet W w' b (-2, (left : Int) - 1) e := by
  rcases hL with h1 | ⟨h1, h2⟩ | ⟨h1, h2⟩ | ⟨h1, h2⟩ | ⟨h1, h2⟩
  · exact wcut_S W b s i left d hs hl0 hl hd h hi h1 m n X he hX hm hn hc
  · exact wcut_A W b s i left d hs hl0 hl hd h hi h1 h2 m n X he hX hm hn hc
  · exact wcut_B W b s i left d hs hl0 hl hd h hi h1 h2 m n X he hX hm hn hc
  · exact wcut_C W b s i left d hs hl0 hl hd h hi h1 h2 m n X he hX hm hn hc
  · exact wcut_D W b s i left d hs hl0 hl hd h hi h1 h2 m n X he hX hm hn hc
theorem wpass_any (W : World) (b : Nat) (s : ByteArray) (i left d : Nat) (hs : s.size ≤ 1048576) (hl0 : 0 < left) (hl : left ≤ 2000) (hd : d ≤ 14) (h : LC W b left) (hi : i < s.size) (hL : Len s i) (m n X : Nat) (he : getHead s i = ((m : Int), n, (X : Int))) (hX : i < X ∧ X ≤ s.size) (hm : m = 2 ∨ m = 3) (hn : n ≤ 2000) (hc : X + n ≤ s.size) :
    Calls Tryd.prog 33 #[.string s, .int .i64 i, .int .i64 d, .pointer (some ⟨b, 0, none⟩)] W fun e w' => WRet W w' b (((X + n : Nat) : Int), (left : Int) - 1) e := by
  rcases hL with h1 | ⟨h1, h2⟩ | ⟨h1, h2⟩ | ⟨h1, h2⟩ | ⟨h1, h2⟩
  · exact wpass_S W b s i left d hs hl0 hl hd h hi h1 m n X he hX hm hn hc
  · exact wpass_A W b s i left d hs hl0 hl hd h hi h1 h2 m n X he hX hm hn hc
  · exact wpass_B W b s i left d hs hl0 hl hd h hi h1 h2 m n X he hX hm hn hc
  · exact wpass_C W b s i left d hs hl0 hl hd h hi h1 h2 m n X he hX hm hn hc
  · exact wpass_D W b s i left d hs hl0 hl hd h hi h1 h2 m n X he hX hm hn hc
theorem wtagno_any (W : World) (b : Nat) (s : ByteArray) (i left d : Nat) (hs : s.size ≤ 1048576) (hl0 : 0 < left) (hl : left ≤ 2000) (hd : d ≤ 14) (h : LC W b left) (hi : i < s.size) (hL : Len s i) (m n X : Nat) (he : getHead s i = ((m : Int), n, (X : Int))) (hX : i < X ∧ X ≤ s.size) (hm : m = 6) (hn : 1000000 < n) :
    Calls Tryd.prog 33 #[.string s, .int .i64 i, .int .i64 d, .pointer (some ⟨b, 0, none⟩)] W fun e w' => WRet W w' b (-1, (left : Int) - 1) e := by
  rcases hL with h1 | ⟨h1, h2⟩ | ⟨h1, h2⟩ | ⟨h1, h2⟩ | ⟨h1, h2⟩
  · exact wtagno_S W b s i left d hs hl0 hl hd h hi h1 m n X he hX hm hn
  · exact wtagno_A W b s i left d hs hl0 hl hd h hi h1 h2 m n X he hX hm hn
  · exact wtagno_B W b s i left d hs hl0 hl hd h hi h1 h2 m n X he hX hm hn
  · exact wtagno_C W b s i left d hs hl0 hl hd h hi h1 h2 m n X he hX hm hn
  · exact wtagno_D W b s i left d hs hl0 hl hd h hi h1 h2 m n X he hX hm hn
theorem wfar_any (W : World) (b : Nat) (s : ByteArray) (i left d : Nat) (hs : s.size ≤ 1048576) (hl0 : 0 < left) (hl : left ≤ 2000) (hd : d ≤ 14) (h : LC W b left) (hi : i < s.size) (hL : Len s i) (m n X : Nat) (he : getHead s i = ((m : Int), n, (X : Int))) (hX : i < X ∧ X ≤ s.size) (hm : m = 4 ∨ m = 5) (hn : 300 < n) :
    Calls Tryd.prog 33 #[.string s, .int .i64 i, .int .i64 d, .pointer (some ⟨b, 0, none⟩)] W fun e w' => WRet W w' b (-1, (left : Int) - 1) e := by
  rcases hL with h1 | ⟨h1, h2⟩ | ⟨h1, h2⟩ | ⟨h1, h2⟩ | ⟨h1, h2⟩
  · exact wfar_S W b s i left d hs hl0 hl hd h hi h1 m n X he hX hm hn
  · exact wfar_A W b s i left d hs hl0 hl hd h hi h1 h2 m n X he hX hm hn
  · exact wfar_B W b s i left d hs hl0 hl hd h hi h1 h2 m n X he hX hm hn
  · exact wfar_C W b s i left d hs hl0 hl hd h hi h1 h2 m n X he hX hm hn
  · exact wfar_D W b s i left d hs hl0 hl hd h hi h1 h2 m n X he hX hm hn
theorem wtag_any (W : World) (b : Nat) (s : ByteArray) (i left d : Nat) (hs : s.size ≤ 1048576) (hl0 : 0 < left) (hl : left ≤ 2000) (hd : d ≤ 14) (h : LC W b left) (hi : i < s.size) (hL : Len s i) (m n X : Nat) (he : getHead s i = ((m : Int), n, (X : Int))) (hX : i < X ∧ X ≤ s.size) (hm : m = 6) (hn : n ≤ 1000000) (IH : SW (d + 1)) :
    Calls Tryd.prog 33 #[.string s, .int .i64 i, .int .i64 d, .pointer (some ⟨b, 0, none⟩)] W fun e w' => WRet W w' b (loopW (wk s (14 - d)) 1 X ((left : Int) - 1)) e := by
  rcases hL with h1 | ⟨h1, h2⟩ | ⟨h1, h2⟩ | ⟨h1, h2⟩ | ⟨h1, h2⟩
  · exact wtag_S W b s i left d hs hl0 hl hd h hi h1 m n X he hX hm hn IH
  · exact wtag_A W b s i left d hs hl0 hl hd h hi h1 h2 m n X he hX hm hn IH
  · exact wtag_B W b s i left d hs hl0 hl hd h hi h1 h2 m n X he hX hm hn IH
  · exact wtag_C W b s i left d hs hl0 hl hd h hi h1 h2 m n X he hX hm hn IH
  · exact wtag_D W b s i left d hs hl0 hl hd h hi h1 h2 m n X he hX hm hn IH
theorem wlist_any (W : World) (b : Nat) (s : ByteArray) (i left d : Nat) (hs : s.size ≤ 1048576) (hl0 : 0 < left) (hl : left ≤ 2000) (hd : d ≤ 14) (h : LC W b left) (hi : i < s.size) (hL : Len s i) (m n X : Nat) (he : getHead s i = ((m : Int), n, (X : Int))) (hX : i < X ∧ X ≤ s.size) (hm : m = 4) (hn : n ≤ 300) (IH : SW (d + 1)) :
    Calls Tryd.prog 33 #[.string s, .int .i64 i, .int .i64 d, .pointer (some ⟨b, 0, none⟩)] W fun e w' => WRet W w' b (loopW (wk s (14 - d)) n X ((left : Int) - 1)) e := by
  rcases hL with h1 | ⟨h1, h2⟩ | ⟨h1, h2⟩ | ⟨h1, h2⟩ | ⟨h1, h2⟩
  · exact wlist_S W b s i left d hs hl0 hl hd h hi h1 m n X he hX hm hn IH
  · exact wlist_A W b s i left d hs hl0 hl hd h hi h1 h2 m n X he hX hm hn IH
  · exact wlist_B W b s i left d hs hl0 hl hd h hi h1 h2 m n X he hX hm hn IH
  · exact wlist_C W b s i left d hs hl0 hl hd h hi h1 h2 m n X he hX hm hn IH
  · exact wlist_D W b s i left d hs hl0 hl hd h hi h1 h2 m n X he hX hm hn IH
theorem wmap_any (W : World) (b : Nat) (s : ByteArray) (i left d : Nat) (hs : s.size ≤ 1048576) (hl0 : 0 < left) (hl : left ≤ 2000) (hd : d ≤ 14) (h : LC W b left) (hi : i < s.size) (hL : Len s i) (m n X : Nat) (he : getHead s i = ((m : Int), n, (X : Int))) (hX : i < X ∧ X ≤ s.size) (hm : m = 5) (hn : n ≤ 300) (IH : SW (d + 1)) :
    Calls Tryd.prog 33 #[.string s, .int .i64 i, .int .i64 d, .pointer (some ⟨b, 0, none⟩)] W fun e w' => WRet W w' b (loopW (wk s (14 - d)) (2 * n) X ((left : Int) - 1)) e := by
  rcases hL with h1 | ⟨h1, h2⟩ | ⟨h1, h2⟩ | ⟨h1, h2⟩ | ⟨h1, h2⟩
  · exact wmap_S W b s i left d hs hl0 hl hd h hi h1 m n X he hX hm hn IH
  · exact wmap_A W b s i left d hs hl0 hl hd h hi h1 h2 m n X he hX hm hn IH
  · exact wmap_B W b s i left d hs hl0 hl hd h hi h1 h2 m n X he hX hm hn IH
  · exact wmap_C W b s i left d hs hl0 hl hd h hi h1 h2 m n X he hX hm hn IH
  · exact wmap_D W b s i left d hs hl0 hl hd h hi h1 h2 m n X he hX hm hn IH
theorem empty_at (s : ByteArray) : s.toList.isEmpty = decide (s.size = 0) := by
  rw [ByteArray.toList_eq, Bool.eq_iff_iff, List.isEmpty_iff_length_eq_zero]
  simp
theorem below_only {W WR w2 : World} {b : Nat} (h : Below W.heap.size W WR) (hg : WR.grownBy w2 (some b)) (hb : W.heap.size ≤ b) : Below W.heap.size W w2 :=
  ⟨hg.os.trans h.os, hg.tape.trans h.tape, hg.output.trans h.output, Nat.le_trans h.size hg.size, fun k hk => (hg.block k (Nat.lt_of_lt_of_le hk h.size) (fun e => by injection e with e; omega)).trans (h.block k hk)⟩
theorem head_fails {s : ByteArray} {i : Nat} (h : (getHead s i).2.2 < 0) : getHead s i = (-1, 0, -1) := by
  unfold getHead at *
  split
  · rename_i hc
    rw [if_pos hc] at h
    simp only at h
    omega
  · rfl
theorem step {d : Nat} (hd : d ≤ 14) (IH : SW (d + 1)) : SW d := by
  intro W b s i left hs hi hl h
  rw [show 15 - d = (14 - d) + 1 by omega, wk]
  by_cases h0 : left = 0
  · subst h0
    exact walk_end W b s i 0 d hl (by omega) h (.inl rfl)
  rw [if_neg h0]
  have hl0 : 0 < left := by omega
  by_cases hc : cutH s i
  · rw [if_pos hc]
    by_cases hx : s.size ≤ i
    · exact walk_over W b s i left d hs hl0 hl hd h hx
    · have hi' : i < s.size := by omega
      rcases hc with hc | ⟨c1, c2, c3⟩
      · omega
      have hm : many s i = 2 ^ (low s i - 24) := if_neg (by omega)
      rcases (show low s i = 24 ∨ low s i = 25 ∨ low s i = 26 ∨ low s i = 27 by omega) with e | e | e | e
      · exact wcuthead_A W b s i left d hs hl0 hl hd h hi' e (by rw [hm, e] at c3; simpa using c3)
      · exact wcuthead_B W b s i left d hs hl0 hl hd h hi' e (by rw [hm, e] at c3; simpa using c3)
      · exact wcuthead_C W b s i left d hs hl0 hl hd h hi' e (by rw [hm, e] at c3; simpa using c3)
      · exact wcuthead_D W b s i left d hs hl0 hl hd h hi' e (by rw [hm, e] at c3; simpa using c3)
  rw [if_neg hc]
  have hi' : i < s.size := by unfold cutH at hc; omega
  by_cases hlow : low s i < 28
  · have hL := len_of hc hlow
    by_cases hh : (getHead s i).2.2 < 0
    · rw [if_pos hh]
      exact wfail_any W b s i left d hs hl0 hl hd h hi' hL (head_fails hh)
    · rw [if_neg hh]
      obtain ⟨m, n, X, he, h8, h64, hX1, hX2, _⟩ := get_next hh
      rw [he]
      simp only [Int.toNat_natCast]
      have hle : ((left - 1 : Nat) : Int) = (left : Int) - 1 := by omega
      unfold headW
      rw [hle]
      split
      · rename_i hm
        split
        · rename_i hn; exact wbig_any W b s i left d hs hl0 hl hd h hi' hL m n X he ⟨hX1, hX2⟩ hm hn
        · rename_i hn; exact wnat_any W b s i left d hs hl0 hl hd h hi' hL m n X he ⟨hX1, hX2⟩ hm (by omega)
      · rename_i hm1
        split
        · rename_i hm
          split
          · rename_i hn
            rcases hn with hn | hn
            · exact wwordno_any W b s i left d hs hl0 hl hd h hi' hL m n X he ⟨hX1, hX2⟩ hm hn
            · exact wwordup_any W b s i left d hs hl0 hl hd h hi' hL m n X he ⟨hX1, hX2⟩ hm hn
          · rename_i hn; exact wword_any W b s i left d hs hl0 hl hd h hi' hL m n X he ⟨hX1, hX2⟩ hm (by omega)
        · rename_i hm7
          split
          · rename_i hm
            split
            · rename_i hn; exact wlong_any W b s i left d hs hl0 hl hd h hi' hL m n X he ⟨hX1, hX2⟩ (by omega) hn
            · rename_i hn
              split
              · rename_i hx; exact wcut_any W b s i left d hs hl0 hl hd h hi' hL m n X he ⟨hX1, hX2⟩ (by omega) (by omega) hx
              · rename_i hx; exact wpass_any W b s i left d hs hl0 hl hd h hi' hL m n X he ⟨hX1, hX2⟩ (by omega) (by omega) (by omega)
          · rename_i hm3
            split
            · rename_i hm
              split
              · rename_i hn; exact wtagno_any W b s i left d hs hl0 hl hd h hi' hL m n X he ⟨hX1, hX2⟩ hm hn
              · rename_i hn; exact wtag_any W b s i left d hs hl0 hl hd h hi' hL m n X he ⟨hX1, hX2⟩ hm (by omega) IH
            · rename_i hm6
              split
              · rename_i hn; exact wfar_any W b s i left d hs hl0 hl hd h hi' hL m n X he ⟨hX1, hX2⟩ (by omega) hn
              · rename_i hn
                split
                · rename_i hm; exact wmap_any W b s i left d hs hl0 hl hd h hi' hL m n X he ⟨hX1, hX2⟩ hm (by omega) IH
                · rename_i hm; exact wlist_any W b s i left d hs hl0 hl hd h hi' hL m n X he ⟨hX1, hX2⟩ (by omega) (by omega) IH
  · have he : getHead s i = (-1, 0, -1) := get_no (fun h' => by have := h'.2.2.1; rw [Int.toNat_natCast] at this; omega)
    rw [he, if_pos (by decide)]
    exact walk_low W b s i left d hs hl0 hl hd h hi' (by omega)
theorem sw_last : SW 15 := by
  intro W b s i left hs hi hl h
  rw [Nat.sub_self, wk]
  exact walk_end W b s i left 15 hl (by omega) h (.inr (by omega))
theorem sw_any : ∀ k d, d + k = 15 → SW d
  | 0, d, h => by obtain rfl : d = 15 := by omega
                  exact sw_last
  | k + 1, d, h => step (by omega) (sw_any k (d + 1) (by omega))
/-- What Begins tells. -/
def beginsB (s : ByteArray) : Bool := decide ((wk s 15 0 1204).1 = -2) || decide ((wk s 15 0 1204).1 = s.size)
set_option maxHeartbeats 1000000 in
theorem spec_begins (s : ByteArray) (W : World) (hs : s.size ≤ 1048576) :
    Calls Tryd.prog 14 #[.string s] W fun e w' => e = .returned (.bool (beginsB s)) ∧ Below W.heap.size W w' := by
  by_cases h0 : s.size = 0
  · have hb : beginsB s = true := by
      unfold beginsB
      rw [wk, if_neg (by omega), if_pos (.inl (by omega))]
      simp
    have e0 : s = ⟨#[]⟩ := by
      apply ByteArray.ext
      exact Array.eq_empty_of_size_eq_zero h0
    rw [hb]
    subst e0
    clear hs h0 hb
    go_enter Tryd.func14, Tryd.ntmps14
    go_wp2
    go_ret
    exact ⟨rfl, Below.refl _ _⟩
  · have e0 : s.toList.isEmpty = false := by rw [empty_at]; simpa using h0
    have C := sw_any 15 0 rfl (W.alloc (.cells #[.int .i64 1204] 3)) W.heap.size s 0 1204 hs (by omega) (by omega) ⟨heap_alloc_new W _⟩
    rw [show ((0 : Nat) : Int) = 0 from rfl] at C
    unfold beginsB
    generalize wk s 15 0 1204 = r at *
    replace C := Lib.hid C
    go_enter Tryd.func14, Tryd.ntmps14
    go_wp2_with fail
    with_reducible refine C.out.mono ?_
    rintro e w2 ⟨rfl, hl2, ho2⟩
    have HB := Lib.hid (below_only ((Below.refl _ W).alloc (Nat.le_refl _) _) ho2 (Nat.le_refl _))
    clear C hl2 ho2
    obtain ⟨r1, r2⟩ := r
    go_wp2
    all_goals go_ret
    all_goals refine ⟨congrArg (fun q => Ending.returned (.bool q)) ?_, HB.out⟩
    all_goals rw [Bool.eq_iff_iff]
    all_goals simp [*]
end Go.Proofs.YtnaghafmpncdkaaDoor.beg
