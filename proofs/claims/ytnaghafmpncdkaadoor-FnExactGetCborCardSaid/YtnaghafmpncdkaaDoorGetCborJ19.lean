/-
  The methods fieldsOk of impl's nodes, at every kind.
-/
import Derived.Test.YtnaghafmpncdkaaDoorGetCborJ16
import Derived.Test.YtnaghafmpncdkaaDoorGetCborJ18
import Derived.Test.YtnaghafmpncdkaaDoorGetCborJ17
import Derived.Test.YtnaghafmpncdkaaDoorGetCborJ15
namespace Go.Proofs.YtnaghafmpncdkaaDoor.node
open Go.ChangeShapes Go.WideShapes Go.ChangeAt Go.RowKit
open Go.Proofs.YtnaghafmpncdkaaDoor.val Go.Proofs.YtnaghafmpncdkaaDoor.num
set_option maxRecDepth 100000

theorem ownR_true {w w' : World} (h : Below w.heap.size w w') : OwnR True w (.returned (.bool true)) w' := ⟨true, rfl, ⟨fun _ => trivial, fun _ => rfl⟩, h⟩
theorem f_null (w : World) : Calls Tryd.prog 189 #[.agg #[]] w (OwnR True w) := by
  go_enter Tryd.func189, Tryd.ntmps189
  go_wp2
  go_ret
  exact ownR_true ((Below.refl _ _).alloc (Nat.le_refl _) _)
theorem f_false (w : World) : Calls Tryd.prog 190 #[.agg #[]] w (OwnR True w) := by
  go_enter Tryd.func190, Tryd.ntmps190
  go_wp2
  go_ret
  exact ownR_true ((Below.refl _ _).alloc (Nat.le_refl _) _)
theorem f_true (w : World) : Calls Tryd.prog 191 #[.agg #[]] w (OwnR True w) := by
  go_enter Tryd.func191, Tryd.ntmps191
  go_wp2
  go_ret
  exact ownR_true ((Below.refl _ _).alloc (Nat.le_refl _) _)
theorem f_int (n : Int) (w : World) : Calls Tryd.prog 192 #[.agg #[.int .i64 n]] w (OwnR True w) :=
  (fields_int n w).mono (by rintro r w' ⟨rfl, hb⟩; exact ownR_true hb)
theorem f_dec (n e : Int) (w : World) : Calls Tryd.prog 193 #[.agg #[.int .i64 n, .int .i64 e]] w (OwnR (decOk n e = true) w) :=
  (fields_dec n e w).mono (by rintro r w' ⟨rfl, hb⟩; exact ⟨_, rfl, Iff.rfl, hb⟩)
theorem f_list (a : Option Addr) (m cap : Nat) (w : World) : Calls Tryd.prog 198 #[.agg #[.slice a m cap]] w (OwnR True w) := by
  go_enter Tryd.func198, Tryd.ntmps198
  go_wp2
  go_ret
  exact ownR_true ((Below.refl _ _).alloc (Nat.le_refl _) _)
theorem f_bytes (s : ByteArray) (w : World) : Calls Tryd.prog 197 #[.agg #[.string s]] w (OwnR (s.size ≤ 2000) w) := by
  have HD : Hid (decide ((s.size : Int) ≤ 2000) = true ↔ s.size ≤ 2000) := by
    unfold Hid
    rw [decide_eq_true_eq]
    omega
  generalize (s.size ≤ 2000) = V at HD ⊢
  go_enter Tryd.func197, Tryd.ntmps197
  go_wp2
  go_ret
  exact ⟨_, rfl, HD.out, (Below.refl _ _).alloc (Nat.le_refl _) _⟩
set_option maxHeartbeats 1000000 in
theorem f_text (s : ByteArray) (w : World) (hs : s.size ≤ 1048576) (hT : signs.Tabs w) : Calls Tryd.prog 196 #[.agg #[.string s]] w (OwnR (s.size ≤ 2000 ∧ sign.textOk s = true) w) := by
  have hb := (Below.refl w.heap.size w).alloc (Nat.le_refl _) (.cells #[.string s] 177)
  have CT := Lib.hid (signs.impl_text s _ hs (signs.tabs_below hT hb))
  have HB := Lib.hid hb
  clear hb hT
  by_cases hz : s.size ≤ 2000
  · have HD : Hid (sign.textOk s = true ↔ s.size ≤ 2000 ∧ sign.textOk s = true) := ⟨fun h => ⟨hz, h⟩, fun h => h.2⟩
    have hz' : (s.size : Int) ≤ 2000 := by omega
    generalize (s.size ≤ 2000 ∧ sign.textOk s = true) = V at HD ⊢
    generalize sign.textOk s = T at *
    clear hs hz
    go_enter Tryd.func196, Tryd.ntmps196
    go_wp2_with fail
    with_reducible refine CT.out.mono ?_
    rintro r w1 ⟨rfl, hb1⟩
    have HB1 := Lib.hid (below_of2 HB.out hb1)
    clear hb1
    go_wp2
    go_ret
    exact ⟨_, rfl, HD.out, HB1.out⟩
  · have HF : Hid (¬ (s.size ≤ 2000 ∧ sign.textOk s = true)) := fun h => hz h.1
    have hz' : ¬ (s.size : Int) ≤ 2000 := by omega
    generalize (s.size ≤ 2000 ∧ sign.textOk s = true) = V at HF ⊢
    clear hs hz CT
    go_enter Tryd.func196, Tryd.ntmps196
    go_wp2
    go_ret
    exact ⟨false, rfl, ⟨fun h => (by cases h), fun h => (HF.out h).elim⟩, HB.out⟩
set_option maxHeartbeats 1000000 in
theorem f_map (w : World) (a : Option Addr) (cap : Nat) (kids : List LT) (hl : kids.length ≤ 1048576)
    (CK : kids.length % 2 = 0 → ∀ W, Below w.heap.size w W → Calls Tryd.prog 200 #[.slice a kids.length cap] W (KeysR (GoodTo kids kids.length) W)) :
    Calls Tryd.prog 199 #[.agg #[.slice a kids.length cap]] w (OwnR (kids.length % 2 = 0 ∧ GoodTo kids kids.length) w) := by
  have HB := Lib.hid ((Below.refl w.heap.size w).alloc (Nat.le_refl _) (.cells #[.slice a kids.length cap] 181))
  by_cases he : kids.length % 2 = 0
  · have CK' := CK he _ HB.out
    have HD : Hid (GoodTo kids kids.length → kids.length % 2 = 0 ∧ GoodTo kids kids.length) := fun h => ⟨he, h⟩
    have HE : Hid (kids.length % 2 = 0 ∧ GoodTo kids kids.length → GoodTo kids kids.length) := fun h => h.2
    generalize (kids.length % 2 = 0 ∧ GoodTo kids kids.length) = V at HD HE ⊢
    generalize GoodTo kids kids.length = G at *
    replace CK' := Lib.hid CK'
    have h2 : ((kids.length : Int)).tmod 2 = 0 := by rw [Int.tmod_eq_emod_of_nonneg (by omega)]; omega
    have h3 : (kids.length : Int) % 2 = 0 := by omega
    clear CK he
    go_enter Tryd.func199, Tryd.ntmps199
    go_wp2_with fail
    with_reducible refine CK'.out.mono ?_
    rintro r w1 ⟨b, rfl, hbi, hb1⟩
    have HB1 := Lib.hid (below_of2 HB.out hb1)
    have HX : Hid (b = true ↔ V) := ⟨fun h => HD.out (hbi.1 h), fun h => hbi.2 (HE.out h)⟩
    clear hb1 hbi
    go_wp2
    go_ret
    exact ⟨_, rfl, HX.out, HB1.out⟩
  · have HF : Hid (¬ (kids.length % 2 = 0 ∧ GoodTo kids kids.length)) := fun h => he h.1
    generalize (kids.length % 2 = 0 ∧ GoodTo kids kids.length) = V at HF ⊢
    have h2 : ¬ ((kids.length : Int)).tmod 2 = 0 := by rw [Int.tmod_eq_emod_of_nonneg (by omega)]; omega
    have h2' : (((kids.length : Int)).tmod 2 == 0) = false := by rw [beq_eq_false_iff_ne]; exact h2
    have h3 : ¬ (kids.length : Int) % 2 = 0 := by omega
    have h3' : ((kids.length : Int) % 2 == 0) = false := by rw [beq_eq_false_iff_ne]; exact h3
    clear CK he
    go_enter Tryd.func199, Tryd.ntmps199
    go_wp2
    go_ret
    exact ⟨false, rfl, ⟨fun h => (by cases h), fun h => (HF.out h).elim⟩, HB.out⟩
set_option maxHeartbeats 1000000 in
theorem f_tag (n : Int) (a : Option Addr) (m cap : Nat) (w : World) : Calls Tryd.prog 201 #[.agg #[.int .i64 n, .slice a m cap]] w (OwnR ((0 ≤ n ∧ n ≤ 1000000) ∧ m = 1) w) := by
  have HB := Lib.hid ((Below.refl w.heap.size w).alloc (Nat.le_refl _) (.cells #[.int .i64 n, .slice a m cap] 183))
  by_cases h0 : 0 ≤ n
  · by_cases h1 : n ≤ 1000000
    · have HD : Hid (((m : Int) == 1) = true ↔ (0 ≤ n ∧ n ≤ 1000000) ∧ m = 1) := by
        unfold Hid
        rw [beq_iff_eq]
        exact ⟨fun h => ⟨⟨h0, h1⟩, by omega⟩, fun h => by omega⟩
      generalize ((0 ≤ n ∧ n ≤ 1000000) ∧ m = 1) = V at HD ⊢
      go_enter Tryd.func201, Tryd.ntmps201
      go_wp2
      go_ret
      exact ⟨_, rfl, HD.out, HB.out⟩
    · have HF : Hid (¬ ((0 ≤ n ∧ n ≤ 1000000) ∧ m = 1)) := fun h => h1 h.1.2
      generalize ((0 ≤ n ∧ n ≤ 1000000) ∧ m = 1) = V at HF ⊢
      go_enter Tryd.func201, Tryd.ntmps201
      go_wp2
      go_ret
      exact ⟨false, rfl, ⟨fun h => (by cases h), fun h => (HF.out h).elim⟩, HB.out⟩
  · have HF : Hid (¬ ((0 ≤ n ∧ n ≤ 1000000) ∧ m = 1)) := fun h => h0 h.1.1
    generalize ((0 ≤ n ∧ n ≤ 1000000) ∧ m = 1) = V at HF ⊢
    go_enter Tryd.func201, Tryd.ntmps201
    go_wp2
    go_ret
    exact ⟨false, rfl, ⟨fun h => (by cases h), fun h => (HF.out h).elim⟩, HB.out⟩
end Go.Proofs.YtnaghafmpncdkaaDoor.node
/-
  impl.nodeOk at every value.
-/
namespace Go.Proofs.YtnaghafmpncdkaaDoor.node
open Go.ChangeShapes Go.WideShapes Go.ChangeAt Go.RowKit
open Go.Proofs.YtnaghafmpncdkaaDoor.val Go.Proofs.YtnaghafmpncdkaaDoor.num
set_option maxRecDepth 100000

/-- A node's own fields are right to impl: the keys of a map told apart by the fields that they use. -/
def NodeP (t : LT) : Prop := if t.k = 8 then t.n = 0 ∧ t.e = 0 ∧ t.s.size = 0 ∧ (t.kids.length % 2 = 0 ∧ GoodTo t.kids t.kids.length) else OwnP t
theorem cmpF_zero (k n e : Int) (s : ByteArray) (a : Option Addr) (cap : Nat) (kids : List LT) : cmpF (.mk k n e s a cap kids) (.mk k 0 0 ⟨#[]⟩ none 0 []) = 0 ↔ n = 0 ∧ e = 0 ∧ s.size = 0 ∧ kids.length = 0 := by
  have hf : cmpF (.mk k n e s a cap kids) (.mk k 0 0 ⟨#[]⟩ none 0 []) = firstOf [cmpI k k, cmpI n 0, cmpI e 0, cmpS s ⟨#[]⟩, cmpI kids.length (0 : Nat)] := rfl
  rw [hf, first0]
  constructor
  · intro h
    have h0 := (cmpI_zero n 0).1 (h _ (by simp))
    have h1 := (cmpI_zero e 0).1 (h _ (by simp))
    have h2 := (cmpS_zero s).1 (h _ (by simp))
    have h3 := (cmpI_zero kids.length (0 : Nat)).1 (h _ (by simp))
    exact ⟨h0, h1, h2, by omega⟩
  · rintro ⟨h0, h1, h2, h3⟩ x hx
    simp only [List.mem_cons, List.not_mem_nil, or_false] at hx
    rcases hx with rfl | rfl | rfl | rfl | rfl
    · exact (cmpI_zero _ _).2 rfl
    · exact (cmpI_zero _ _).2 h0
    · exact (cmpI_zero _ _).2 h1
    · exact (cmpS_zero _).2 h2
    · exact (cmpI_zero _ _).2 (by omega)
theorem OwnR.congr {V V' : Prop} {w : World} {r : Ending} {w' : World} (h : OwnR V w r w') (e : V ↔ V') : OwnR V' w r w' := by
  obtain ⟨b, h1, h2, h3⟩ := h
  exact ⟨b, h1, h2.trans e, h3⟩
section
variable (n e : Int) (s : ByteArray) (a : Option Addr) (kids : List LT) (cap : Nat) (w : World)

theorem iff_null : (True ∧ cmpF (.mk 0 n e s a cap kids) (.mk 0 0 0 ⟨#[]⟩ none 0 []) = 0) ↔ NodeP (.mk 0 n e s a cap kids) := by
  rw [cmpF_zero]
  exact ⟨fun h => h.2, fun h => ⟨trivial, h⟩⟩
theorem ok_null : Calls Tryd.prog 85 #[.agg #[.int .i64 0, .int .i64 n, .int .i64 e, .string s, .slice a kids.length cap]] w (OwnR (NodeP (.mk 0 n e s a cap kids)) w) := by
  have := nodeOk_gen w (.mk 0 n e s a cap kids) (.mk 0 n e s a cap kids) 169 (.agg #[]) 189 (True)
    (fun W => nodeOf_any 0 n e s a kids.length cap _ rfl W) (fun W => by kernel_rfl) (enters_of Tryd.func189 (by kernel_rfl) rfl) (fun W hW => f_null W) (fun W => out_null n e s a kids cap W) rfl
  exact this.mono fun r w' h => h.congr (iff_null n e s a kids cap)

theorem iff_false : (True ∧ cmpF (.mk 1 n e s a cap kids) (.mk 1 0 0 ⟨#[]⟩ none 0 []) = 0) ↔ NodeP (.mk 1 n e s a cap kids) := by
  rw [cmpF_zero]
  exact ⟨fun h => h.2, fun h => ⟨trivial, h⟩⟩
theorem ok_false : Calls Tryd.prog 85 #[.agg #[.int .i64 1, .int .i64 n, .int .i64 e, .string s, .slice a kids.length cap]] w (OwnR (NodeP (.mk 1 n e s a cap kids)) w) := by
  have := nodeOk_gen w (.mk 1 n e s a cap kids) (.mk 1 n e s a cap kids) 170 (.agg #[]) 190 (True)
    (fun W => nodeOf_any 1 n e s a kids.length cap _ rfl W) (fun W => by kernel_rfl) (enters_of Tryd.func190 (by kernel_rfl) rfl) (fun W hW => f_false W) (fun W => out_false n e s a kids cap W) rfl
  exact this.mono fun r w' h => h.congr (iff_false n e s a kids cap)

theorem iff_true : (True ∧ cmpF (.mk 2 n e s a cap kids) (.mk 2 0 0 ⟨#[]⟩ none 0 []) = 0) ↔ NodeP (.mk 2 n e s a cap kids) := by
  rw [cmpF_zero]
  exact ⟨fun h => h.2, fun h => ⟨trivial, h⟩⟩
theorem ok_true : Calls Tryd.prog 85 #[.agg #[.int .i64 2, .int .i64 n, .int .i64 e, .string s, .slice a kids.length cap]] w (OwnR (NodeP (.mk 2 n e s a cap kids)) w) := by
  have := nodeOk_gen w (.mk 2 n e s a cap kids) (.mk 2 n e s a cap kids) 171 (.agg #[]) 191 (True)
    (fun W => nodeOf_any 2 n e s a kids.length cap _ rfl W) (fun W => by kernel_rfl) (enters_of Tryd.func191 (by kernel_rfl) rfl) (fun W hW => f_true W) (fun W => out_true n e s a kids cap W) rfl
  exact this.mono fun r w' h => h.congr (iff_true n e s a kids cap)

theorem iff_int : (True ∧ cmpF (.mk 3 0 e s a cap kids) (.mk 3 0 0 ⟨#[]⟩ none 0 []) = 0) ↔ NodeP (.mk 3 n e s a cap kids) := by
  rw [cmpF_zero]
  have hn : numOk (.mk 3 n e s a cap kids) = true ↔ (s.size = 0 ∧ kids.length = 0) ∧ e = 0 := by rw [num_int', Bool.and_eq_true, decide_eq_true_eq, decide_eq_true_eq]
  show _ ↔ numOk (.mk 3 n e s a cap kids) = true
  rw [hn]
  exact ⟨fun h => ⟨⟨h.2.2.2.1, h.2.2.2.2⟩, h.2.2.1⟩, fun h => ⟨trivial, rfl, h.2, h.1.1, h.1.2⟩⟩
theorem ok_int : Calls Tryd.prog 85 #[.agg #[.int .i64 3, .int .i64 n, .int .i64 e, .string s, .slice a kids.length cap]] w (OwnR (NodeP (.mk 3 n e s a cap kids)) w) := by
  have := nodeOk_gen w (.mk 3 n e s a cap kids) (.mk 3 0 e s a cap kids) 173 (.agg #[.int .i64 n]) 192 (True)
    (fun W => nodeOf_any 3 n e s a kids.length cap _ rfl W) (fun W => by kernel_rfl) (enters_of Tryd.func192 (by kernel_rfl) rfl) (fun W hW => f_int n W) (fun W => out_int n e s a kids cap W) rfl
  exact this.mono fun r w' h => h.congr (iff_int n e s a kids cap)

theorem iff_dec : (decOk n e = true ∧ cmpF (.mk 4 0 0 s a cap kids) (.mk 4 0 0 ⟨#[]⟩ none 0 []) = 0) ↔ NodeP (.mk 4 n e s a cap kids) := by
  rw [cmpF_zero]
  have hn : numOk (.mk 4 n e s a cap kids) = true ↔ (s.size = 0 ∧ kids.length = 0) ∧ decOk n e = true := by rw [num_dec', Bool.and_eq_true, decide_eq_true_eq]
  show _ ↔ numOk (.mk 4 n e s a cap kids) = true
  rw [hn]
  exact ⟨fun h => ⟨⟨h.2.2.2.1, h.2.2.2.2⟩, h.1⟩, fun h => ⟨h.2, rfl, rfl, h.1.1, h.1.2⟩⟩
theorem ok_dec : Calls Tryd.prog 85 #[.agg #[.int .i64 4, .int .i64 n, .int .i64 e, .string s, .slice a kids.length cap]] w (OwnR (NodeP (.mk 4 n e s a cap kids)) w) := by
  have := nodeOk_gen w (.mk 4 n e s a cap kids) (.mk 4 0 0 s a cap kids) 175 (.agg #[.int .i64 n, .int .i64 e]) 193 (decOk n e = true)
    (fun W => nodeOf_any 4 n e s a kids.length cap _ rfl W) (fun W => by kernel_rfl) (enters_of Tryd.func193 (by kernel_rfl) rfl) (fun W hW => f_dec n e W) (fun W => out_dec n e s a kids cap W) rfl
  exact this.mono fun r w' h => h.congr (iff_dec n e s a kids cap)

theorem iff_text : ((s.size ≤ 2000 ∧ sign.textOk s = true) ∧ cmpF (.mk 5 n e ⟨#[]⟩ a cap kids) (.mk 5 0 0 ⟨#[]⟩ none 0 []) = 0) ↔ NodeP (.mk 5 n e s a cap kids) := by
  rw [cmpF_zero]
  show _ ↔ n = 0 ∧ e = 0 ∧ sign.textOk s = true ∧ s.size ≤ 2000 ∧ kids.length = 0
  exact ⟨fun h => ⟨h.2.1, h.2.2.1, h.1.2, h.1.1, h.2.2.2.2⟩, fun h => ⟨⟨h.2.2.2.1, h.2.2.1⟩, h.1, h.2.1, rfl, h.2.2.2.2⟩⟩
theorem ok_text (hs : s.size ≤ 1048576) (hT : signs.Tabs w) : Calls Tryd.prog 85 #[.agg #[.int .i64 5, .int .i64 n, .int .i64 e, .string s, .slice a kids.length cap]] w (OwnR (NodeP (.mk 5 n e s a cap kids)) w) := by
  have := nodeOk_gen w (.mk 5 n e s a cap kids) (.mk 5 n e ⟨#[]⟩ a cap kids) 177 (.agg #[.string s]) 196 ((s.size ≤ 2000 ∧ sign.textOk s = true))
    (fun W => nodeOf_any 5 n e s a kids.length cap _ rfl W) (fun W => by kernel_rfl) (enters_of Tryd.func196 (by kernel_rfl) rfl) (fun W hW => f_text s W hs (signs.tabs_below hT hW)) (fun W => out_text n e s a kids cap W) rfl
  exact this.mono fun r w' h => h.congr (iff_text n e s a kids cap)

theorem iff_bytes : (s.size ≤ 2000 ∧ cmpF (.mk 6 n e ⟨#[]⟩ a cap kids) (.mk 6 0 0 ⟨#[]⟩ none 0 []) = 0) ↔ NodeP (.mk 6 n e s a cap kids) := by
  rw [cmpF_zero]
  show _ ↔ n = 0 ∧ e = 0 ∧ s.size ≤ 2000 ∧ kids.length = 0
  exact ⟨fun h => ⟨h.2.1, h.2.2.1, h.1, h.2.2.2.2⟩, fun h => ⟨h.2.2.1, h.1, h.2.1, rfl, h.2.2.2⟩⟩
theorem ok_bytes : Calls Tryd.prog 85 #[.agg #[.int .i64 6, .int .i64 n, .int .i64 e, .string s, .slice a kids.length cap]] w (OwnR (NodeP (.mk 6 n e s a cap kids)) w) := by
  have := nodeOk_gen w (.mk 6 n e s a cap kids) (.mk 6 n e ⟨#[]⟩ a cap kids) 178 (.agg #[.string s]) 197 (s.size ≤ 2000)
    (fun W => nodeOf_any 6 n e s a kids.length cap _ rfl W) (fun W => by kernel_rfl) (enters_of Tryd.func197 (by kernel_rfl) rfl) (fun W hW => f_bytes s W) (fun W => out_bytes n e s a kids cap W) rfl
  exact this.mono fun r w' h => h.congr (iff_bytes n e s a kids cap)

theorem iff_list : (True ∧ cmpF (.mk 7 n e s none 0 []) (.mk 7 0 0 ⟨#[]⟩ none 0 []) = 0) ↔ NodeP (.mk 7 n e s a cap kids) := by
  rw [cmpF_zero]
  show _ ↔ n = 0 ∧ e = 0 ∧ s.size = 0
  exact ⟨fun h => ⟨h.2.1, h.2.2.1, h.2.2.2.1⟩, fun h => ⟨trivial, h.1, h.2.1, h.2.2, rfl⟩⟩
theorem ok_list : Calls Tryd.prog 85 #[.agg #[.int .i64 7, .int .i64 n, .int .i64 e, .string s, .slice a kids.length cap]] w (OwnR (NodeP (.mk 7 n e s a cap kids)) w) := by
  have := nodeOk_gen w (.mk 7 n e s a cap kids) (.mk 7 n e s none 0 []) 180 (.agg #[.slice a kids.length cap]) 198 (True)
    (fun W => nodeOf_any 7 n e s a kids.length cap _ rfl W) (fun W => by kernel_rfl) (enters_of Tryd.func198 (by kernel_rfl) rfl) (fun W hW => f_list a kids.length cap W) (fun W => out_list n e s a kids cap W) rfl
  exact this.mono fun r w' h => h.congr (iff_list n e s a kids cap)

theorem iff_map : ((kids.length % 2 = 0 ∧ GoodTo kids kids.length) ∧ cmpF (.mk 8 n e s none 0 []) (.mk 8 0 0 ⟨#[]⟩ none 0 []) = 0) ↔ NodeP (.mk 8 n e s a cap kids) := by
  rw [cmpF_zero]
  show _ ↔ n = 0 ∧ e = 0 ∧ s.size = 0 ∧ (kids.length % 2 = 0 ∧ GoodTo kids kids.length)
  exact ⟨fun h => ⟨h.2.1, h.2.2.1, h.2.2.2.1, h.1⟩, fun h => ⟨h.2.2.2, h.1, h.2.1, h.2.2.1, rfl⟩⟩
theorem ok_map (hl : kids.length ≤ 1048576) (CK : kids.length % 2 = 0 → ∀ W, Below w.heap.size w W → Calls Tryd.prog 200 #[.slice a kids.length cap] W (KeysR (GoodTo kids kids.length) W)) : Calls Tryd.prog 85 #[.agg #[.int .i64 8, .int .i64 n, .int .i64 e, .string s, .slice a kids.length cap]] w (OwnR (NodeP (.mk 8 n e s a cap kids)) w) := by
  have := nodeOk_gen w (.mk 8 n e s a cap kids) (.mk 8 n e s none 0 []) 181 (.agg #[.slice a kids.length cap]) 199 ((kids.length % 2 = 0 ∧ GoodTo kids kids.length))
    (fun W => nodeOf_any 8 n e s a kids.length cap _ rfl W) (fun W => by kernel_rfl) (enters_of Tryd.func199 (by kernel_rfl) rfl) (fun W hW => f_map W a cap kids hl (fun he W2 hW2 => CK he W2 (hW.trans (hW2.mono hW.size)))) (fun W => out_map n e s a kids cap W) rfl
  exact this.mono fun r w' h => h.congr (iff_map n e s a kids cap)

theorem iff_tag : (((0 ≤ n ∧ n ≤ 1000000) ∧ kids.length = 1) ∧ cmpF (.mk 9 0 e s none 0 []) (.mk 9 0 0 ⟨#[]⟩ none 0 []) = 0) ↔ NodeP (.mk 9 n e s a cap kids) := by
  rw [cmpF_zero]
  show _ ↔ (0 ≤ n ∧ n ≤ 1000000) ∧ e = 0 ∧ s.size = 0 ∧ kids.length = 1
  exact ⟨fun h => ⟨h.1.1, h.2.2.1, h.2.2.2.1, h.1.2⟩, fun h => ⟨⟨h.1, h.2.2.2⟩, rfl, h.2.1, h.2.2.1, rfl⟩⟩
theorem ok_tag : Calls Tryd.prog 85 #[.agg #[.int .i64 9, .int .i64 n, .int .i64 e, .string s, .slice a kids.length cap]] w (OwnR (NodeP (.mk 9 n e s a cap kids)) w) := by
  have := nodeOk_gen w (.mk 9 n e s a cap kids) (.mk 9 0 e s none 0 []) 183 (.agg #[.int .i64 n, .slice a kids.length cap]) 201 (((0 ≤ n ∧ n ≤ 1000000) ∧ kids.length = 1))
    (fun W => nodeOf_any 9 n e s a kids.length cap _ rfl W) (fun W => by kernel_rfl) (enters_of Tryd.func201 (by kernel_rfl) rfl) (fun W hW => f_tag n a kids.length cap W) (fun W => out_tag n e s a kids cap W) rfl
  exact this.mono fun r w' h => h.congr (iff_tag n e s a kids cap)

set_option maxHeartbeats 1000000 in
theorem ok_other (k : Int) (h : ¬ (0 ≤ k ∧ k ≤ 9)) : Calls Tryd.prog 85 #[.agg #[.int .i64 k, .int .i64 n, .int .i64 e, .string s, .slice a kids.length cap]] w (OwnR (NodeP (.mk k n e s a cap kids)) w) := by
  have hv : nodeV k n e s (.slice a kids.length cap) = none := by
    unfold nodeV
    have h0 : ¬ k = 0 := by omega
    have h1 : ¬ k = 1 := by omega
    have h2 : ¬ k = 2 := by omega
    have h3 : ¬ k = 3 := by omega
    have h4 : ¬ k = 4 := by omega
    have h5 : ¬ k = 5 := by omega
    have h6 : ¬ k = 6 := by omega
    have h7 : ¬ k = 7 := by omega
    have h8 : ¬ k = 8 := by omega
    have h9 : ¬ k = 9 := by omega
    simp only [h0, h1, h2, h3, h4, h5, h6, h7, h8, h9, if_false]
  have HF : Hid (¬ NodeP (.mk k n e s a cap kids)) := by
    intro hp
    unfold NodeP OwnP at hp
    have h0 : ¬ (k = 0 ∨ k = 1 ∨ k = 2) := by omega
    have h1 : ¬ (k = 3 ∨ k = 4) := by omega
    have h5 : ¬ k = 5 := by omega
    have h6 : ¬ k = 6 := by omega
    have h7 : ¬ k = 7 := by omega
    have h8 : ¬ k = 8 := by omega
    have h9 : ¬ k = 9 := by omega
    have hk : (val.LT.mk k n e s a cap kids).k = k := rfl
    simp only [hk, h0, h1, h5, h6, h7, h8, h9, if_false] at hp
  have CZ := Lib.hid (nodeOf_none k n e s a kids.length cap hv)
  generalize NodeP (.mk k n e s a cap kids) = V at *
  clear hv h
  go_enter Tryd.func85, Tryd.ntmps85
  go_wp2_with fail
  with_reducible refine (CZ.out _).mono ?_
  rintro r w1 ⟨rfl, hb⟩
  have HB : Hid (Below w.heap.size w w1) := ((Below.refl w.heap.size w).alloc (Nat.le_refl _) _).trans (hb.mono (by simp))
  clear hb
  go_wp2
  go_ret
  exact ⟨false, rfl, ⟨fun h => (by cases h), fun h => (HF.out h).elim⟩, HB.out⟩
end
/-- impl.nodeOk at any value in memory. -/
theorem node_any {w : World} {B : Nat} {t : LT} (h : In w B t) (hz : t.sz ≤ 1048576) (w' : World) (hb : Below B w w') (hB : B ≤ w'.heap.size) (hT : signs.Tabs w') :
    Calls Tryd.prog 85 #[.agg #[.int .i64 t.k, .int .i64 t.n, .int .i64 t.e, .string t.s, t.row]] w' (OwnR (NodeP t) w') := by
  cases h with
  | mk hk hn he hs hl hc hkids =>
    rename_i k n e s a cap kids
    have hz' : s.size + LT.szL kids ≤ 1048576 := by rw [LT.sz] at hz; exact hz
    have hkl := len_sz kids
    show Calls Tryd.prog 85 #[.agg #[.int .i64 k, .int .i64 n, .int .i64 e, .string s, .slice a kids.length cap]] w' (OwnR (NodeP (.mk k n e s a cap kids)) w')
    by_cases hr : 0 ≤ k ∧ k ≤ 9
    · rcases (show k = 0 ∨ k = 1 ∨ k = 2 ∨ k = 3 ∨ k = 4 ∨ k = 5 ∨ k = 6 ∨ k = 7 ∨ k = 8 ∨ k = 9 by omega) with rfl | rfl | rfl | rfl | rfl | rfl | rfl | rfl | rfl | rfl
      · exact ok_null n e s a kids cap w'
      · exact ok_false n e s a kids cap w'
      · exact ok_true n e s a kids cap w'
      · exact ok_int n e s a kids cap w'
      · exact ok_dec n e s a kids cap w'
      · exact ok_text n e s a kids cap w' (by omega) hT
      · exact ok_bytes n e s a kids cap w'
      · exact ok_list n e s a kids cap w'
      · refine ok_map n e s a kids cap w' (by omega) (fun hev W hW => keys_any w B a cap kids (by omega) hev (fun i hi => ?_) hc W (hb.trans (hW.mono hB)) (Nat.le_trans hB hW.size))
        have := hkids i hi
        generalize kids[i] = t at *
        cases this
        exact ⟨by assumption, by assumption⟩
      · exact ok_tag n e s a kids cap w'
    · exact ok_other n e s a kids cap w' k hr
end Go.Proofs.YtnaghafmpncdkaaDoor.node
