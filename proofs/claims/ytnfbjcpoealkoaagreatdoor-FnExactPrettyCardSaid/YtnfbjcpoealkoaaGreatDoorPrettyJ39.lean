/-
  impl's writer of JSON at a list or a map of nothing.
-/
import Derived.Test.YtnfbjcpoealkoaaGreatDoorPrettyJ38
import Derived.Test.YtnfbjcpoealkoaaGreatDoorRows
import Derived.Lib.LaidU8
import Derived.Below
import Derived.WalkKit
import Derived.OpenShut
import Derived.Test.YtnfbjcpoealkoaaGreatDoorPrettyJ24
namespace Go.Proofs.YtnfbjcpoealkoaaGreatDoor.json
open Go.ChangeShapes Go.WideShapes Go.ChangeAt Go.RowKit Go.Proofs.YtnfbjcpoealkoaaGreatDoor.val
set_option maxRecDepth 100000

set_option maxHeartbeats 2000000 in
theorem none_7 (W : World) (b : Nat) (v : Value) (l : List UInt8) (p : Bool) (n e : Int) (s : ByteArray) (a : Option Addr) (cap lv : Nat) (hw : Wj W b v l p) :
    Calls Tryz.prog 164 #[.pointer (some ⟨b, 0, none⟩), .agg #[.int .i64 7, .int .i64 n, .int .i64 e, .string s, .slice a 0 cap], .int .i64 lv] W (PutR W b l p) := by
  have hlt := hw.lt
  have HA : Hid (Bk b W (W.alloc (.cells #[.int .i64 7, .int .i64 n, .int .i64 e, .string s, .slice a 0 cap] 46))) := (Bk.refl b W).alloc (Nat.le_of_lt hlt) _
  have HW := Lib.hid (hw.alloc (.cells #[.int .i64 7, .int .i64 n, .int .i64 e, .string s, .slice a 0 cap] 46))
  clear hw
  go_enter Tryz.func164, Tryz.ntmps164
  go_wp2_with fail
  go_loopw [11] (fun x wr => x = .int .i64 0 ∧ wr = W.alloc (.cells #[.int .i64 7, .int .i64 n, .int .i64 e, .string s, .slice a 0 cap] 46)) (fun _ _ => 0)
  case atStart => exact ⟨rfl, rfl⟩
  case round =>
    obtain ⟨rfl, rfl⟩ := hrel
    go_wp2
    refine bodyPost_ret (results_none rfl _ _ _) rfl ?_
    exact ⟨⟨_, rfl⟩, ⟨_, HW.out⟩, HA.out⟩
set_option maxHeartbeats 2000000 in
theorem none_8 (W : World) (b : Nat) (v : Value) (l : List UInt8) (p : Bool) (n e : Int) (s : ByteArray) (a : Option Addr) (cap lv : Nat) (hw : Wj W b v l p) :
    Calls Tryz.prog 164 #[.pointer (some ⟨b, 0, none⟩), .agg #[.int .i64 8, .int .i64 n, .int .i64 e, .string s, .slice a 0 cap], .int .i64 lv] W (PutR W b l p) := by
  have hlt := hw.lt
  have HA : Hid (Bk b W (W.alloc (.cells #[.int .i64 8, .int .i64 n, .int .i64 e, .string s, .slice a 0 cap] 46))) := (Bk.refl b W).alloc (Nat.le_of_lt hlt) _
  have HW := Lib.hid (hw.alloc (.cells #[.int .i64 8, .int .i64 n, .int .i64 e, .string s, .slice a 0 cap] 46))
  clear hw
  go_enter Tryz.func164, Tryz.ntmps164
  go_wp2_with fail
  go_loopw [11] (fun x wr => x = .int .i64 0 ∧ wr = W.alloc (.cells #[.int .i64 8, .int .i64 n, .int .i64 e, .string s, .slice a 0 cap] 46)) (fun _ _ => 0)
  case atStart => exact ⟨rfl, rfl⟩
  case round =>
    obtain ⟨rfl, rfl⟩ := hrel
    go_wp2
    refine bodyPost_ret (results_none rfl _ _ _) rfl ?_
    exact ⟨⟨_, rfl⟩, ⟨_, HW.out⟩, HA.out⟩
end Go.Proofs.YtnfbjcpoealkoaaGreatDoor.json
/-
  impl's table of JSON's words as a row of this seat lists it: what its block holds.
-/
namespace Go.Proofs.YtnfbjcpoealkoaaGreatDoor.jsonTab
open Go.Lib Go.RowKit
set_option maxRecDepth 100000

def cells : Array Value := #[.string ⟨#[110, 117, 108, 108]⟩, .string ⟨#[102, 97, 108, 115, 101]⟩, .string ⟨#[116, 114, 117, 101]⟩]
/-- The table lies where the program's text lays it. -/
structure Tab (w : World) : Prop where
  block : ∃ t fr, w.heap[2]? = some (.cells cells t fr)
theorem Tab.lt {w : World} (h : Tab w) : 2 < w.heap.size := by
  obtain ⟨t, fr, h⟩ := h
  exact (Array.getElem?_eq_some_iff.1 h).1
theorem Tab.below {w w' : World} (h : Tab w) (hb : Below w.heap.size w w') : Tab w' := by
  have hl := h.lt
  obtain ⟨t, fr, h⟩ := h
  exact ⟨t, fr, by rw [hb.block _ hl]; exact h⟩
theorem Tab.at0 {w : World} (h : Tab w) : w.cell? ⟨2, 0, none⟩ = some (.string ⟨#[110, 117, 108, 108]⟩) := by
  obtain ⟨t, fr, h⟩ := h
  exact cell_of_row w _ 0 _ _ fr h
theorem Tab.at1 {w : World} (h : Tab w) : w.cell? ⟨2, 1, none⟩ = some (.string ⟨#[102, 97, 108, 115, 101]⟩) := by
  obtain ⟨t, fr, h⟩ := h
  exact cell_of_row w _ 1 _ _ fr h
theorem Tab.at2 {w : World} (h : Tab w) : w.cell? ⟨2, 2, none⟩ = some (.string ⟨#[116, 114, 117, 101]⟩) := by
  obtain ⟨t, fr, h⟩ := h
  exact cell_of_row w _ 2 _ _ fr h

theorem word_of {fuel : Nat} {w : World} {base : Nat} {sp : Nat → Bool} {held : Bool} {enc : TypeId × Value → Unit} {cs : List Value} {p : List MemPlace} {s : List UInt8}
    (h : DataW.trod enc Tryz.prog w base sp held fuel 9 cs = some (.lit (.string s), p)) : cs = [.string ⟨s.toArray⟩] := by
  obtain ⟨b, rfl, hx, _⟩ := DataW.trod_string Tryz.underlying9 h
  have e : s = b.data.toList := by injection hx with e _; injection e with e; injection e
  subst e
  rfl
theorem three {l : List Value} (h : l.length = 3) {x y z : Value} (h0 : (l.drop 0).take 1 = [x]) (h1 : (l.drop 1).take 1 = [y]) (h2 : (l.drop 2).take 1 = [z]) : l = [x, y, z] := by
  match l, h with
  | [x0, x1, x2], _ =>
    simp at h0 h1 h2
    simp [h0, h1, h2]

theorem of_laid {l : List (String × DataW Unit)} {w : World} (hL : laidMet Tryz.prog l w) (h1 : ("loop.example/g00421/impl.jsonWords", Rows.laid_loop_example_g00421_impl_jsonWords) ∈ l) : Tab w := by
  obtain ⟨g, t, cs, fuel, p, hg, hty, hvar, hd⟩ := laidMet.reads hL h1
  obtain rfl := Option.some.inj ((show Tryz.prog.globalNamed "loop.example/g00421/impl.jsonWords" = some 2 by kernel_rfl).symm.trans hg)
  obtain rfl := Option.some.inj ((show (Tryz.prog.globals[2]?).map (·.type) = some 193 by kernel_rfl).symm.trans hty)
  have hc : Tryz.prog.cellsOf 9 = 1 := by kernel_rfl
  have hct : Tryz.prog.cellsOf 193 = 3 := by kernel_rfl
  have hlen : cs.toList.length = 3 := by
    obtain ⟨xs, m, _, _, hlen, _⟩ := DataW.trod_array Tryz.underlying193 hd
    rw [hlen, hct]
  have el : ∀ (i : Nat) (hi : i < 3) (s : List UInt8), ([DataW.lit (.string [110, 117, 108, 108]), .lit (.string [102, 97, 108, 115, 101]), .lit (.string [116, 114, 117, 101])] : List (DataW Unit))[i]? = some (.lit (.string s)) →
      (cs.toList.drop (i * 1)).take 1 = [.string ⟨s.toArray⟩] := by
    intro i hi s hab
    obtain ⟨fuel', d, q, hdi, he⟩ := array_elem Tryz.underlying193 hd i hi
    rw [hab] at hdi
    obtain rfl := Option.some.inj hdi
    rw [hc] at he
    exact word_of he
  have hcs : cs.toList = cells.toList := three hlen (el 0 (by omega) _ rfl) (el 1 (by omega) _ rfl) (el 2 (by omega) _ rfl)
  have hcs' : cs = cells := Array.toList_inj.1 hcs
  subst hcs'
  unfold World.var? at hvar
  rw [show Tryz.prog.globalNamed "loop.example/g00421/impl.jsonWords" = some 2 by kernel_rfl, Option.bind_some] at hvar
  split at hvar
  · next cs' t fr hh =>
    obtain rfl := Option.some.inj hvar
    exact ⟨t, fr, hh⟩
  · cases hvar
end Go.Proofs.YtnfbjcpoealkoaaGreatDoor.jsonTab
/-
  What impl.NumText returns, at every value. The tables of the library are as its text lays them.
-/
namespace Go.Proofs.YtnfbjcpoealkoaaGreatDoor.numtext
open Go.ChangeShapes Go.WideShapes Go.ChangeAt Go.RowKit
open Go.Proofs.YtnfbjcpoealkoaaGreatDoor.val Go.Proofs.YtnfbjcpoealkoaaGreatDoor.num
set_option maxRecDepth 100000

theorem impl_numtext {w : World} {t : LT} (h : In w w.heap.size t) (hz : t.nodes ≤ 2000000) (hT : Tab w) :
    Calls Tryz.prog 162 #[.agg #[.int .i64 t.k, .int .i64 t.n, .int .i64 t.e, .string t.s, t.row]] w fun r w'' => r = .returned (.string (numText t)) ∧ Below w.heap.size w w'' := by
  cases hi : isNum t with
  | false => exact impl_no h hz hi
  | true =>
    have CI := fun W hW => impl_is h hz W hW
    rw [hi] at CI
    have hk : (t.k = 3 ∨ t.k = 4) ∧ numOk t = true := by
      unfold isNum at hi
      rw [Bool.and_eq_true, Bool.or_eq_true, decide_eq_true_eq, decide_eq_true_eq] at hi
      exact hi
    obtain ⟨hk, hv⟩ := hk
    have hR := numText_yes hk hv
    generalize numText t = R at *
    have hIn : InI t.n ∧ InI t.e := by cases h; exact ⟨by assumption, by assumption⟩
    obtain ⟨k, n, e, s, a, cap, kids⟩ := t
    obtain ⟨hn', he'⟩ := hIn
    rcases hk with hk | hk
    · obtain rfl : k = 3 := hk
      obtain rfl := int_fields hv
      exact impl_int hn' hR w hT CI
    · obtain rfl : k = 4 := hk
      obtain ⟨e1, e2, e3⟩ := dec_fields hv
      by_cases hp : 0 < e
      · exact impl_high hn' he' hp (by rw [hR]; exact congrArg (fun l => ByteArray.mk (List.toArray l)) (text_high hp)) w hT CI
      · obtain ⟨K, rfl⟩ : ∃ K : Nat, e = -(K : Int) := ⟨(-e).toNat, by omega⟩
        have ht := text_low (n := n) (K := K) (by omega)
        exact impl_low hn' (by omega) (by omega) (by rw [hR]; exact congrArg (fun l => ByteArray.mk (List.toArray l)) ht) w hT CI
end Go.Proofs.YtnfbjcpoealkoaaGreatDoor.numtext
