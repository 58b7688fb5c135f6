/-
  An argument of the law's type Value, read as data, is a tree that lies in memory.
-/
import Derived.Test.YtghcgkpeimpghaaDoorValT
import Derived.ChangeArms
import Derived.DataReads
namespace Go.Proofs.YtghcgkpeimpghaaDoor.val
open Go.ChangeShapes Go.WideShapes Go.ChangeAt Go.RowKit
set_option maxRecDepth 100000

instance : Inhabited LT := ⟨.mk 0 0 0 ⟨#[]⟩ none 0 []⟩
theorem inI_of {n : Int} (h : (Lit.int .i64 n).wf = true) : InI n := by
  unfold InI
  simpa [Lit.wf, IntKind.min, IntKind.max, IntKind.signed, IntKind.bits] using h
theorem add_at (p : Addr) (j : Nat) : p.add (j + 1) = ⟨p.block, p.off + (j + 1), none⟩ := by unfold Addr.add; simp
theorem five {l : List Value} (h : l.length = 5) : ∃ c0 c1 c2 c3 c4, l = [c0, c1, c2, c3, c4] := by
  match l, h with
  | [c0, c1, c2, c3, c4], _ => exact ⟨c0, c1, c2, c3, c4, rfl⟩
theorem cells5 : Tryd.prog.cellsOf 24 = 5 := by kernel_rfl
theorem cells1i : Tryd.prog.cellsOf 3 = 1 := by kernel_rfl
theorem cells1s : Tryd.prog.cellsOf 9 = 1 := by kernel_rfl
theorem cells1l : Tryd.prog.cellsOf 22 = 1 := by kernel_rfl

theorem open_val {H : Type} {enc : TypeId × Value → H} {W : World} : ∀ (fuel : Nat) (cs : List Value) (x : DataW H × List MemPlace), DataW.trod enc Tryd.prog W 0 (fun _ => true) true fuel 24 cs = some x →
    ∃ t : LT, cs = [.int .i64 t.k, .int .i64 t.n, .int .i64 t.e, .string t.s, t.row] ∧ In W W.heap.size t := by
  intro fuel
  induction fuel using Nat.strongRecOn with
  | ind fuel ih =>
    intro cs x h
    obtain ⟨xs, n, rfl, hx, hlen, hxl, hf⟩ := DataW.trod_struct Tryd.underlying24 h
    rw [cells5] at hlen
    obtain ⟨c0, c1, c2, c3, c4, rfl⟩ := five hlen
    have hxl5 : xs.length = 5 := hxl
    have g : ∀ i (hi : i < 5), xs[i]? = some (xs[i]'(by omega)) := fun i hi => List.getElem?_eq_getElem (by omega)
    have h0 := (hf 0 _ rfl).trans (g 0 (by omega))
    have h1 := (hf 1 _ rfl).trans (g 1 (by omega))
    have h2 := (hf 2 _ rfl).trans (g 2 (by omega))
    have h3 := (hf 3 _ rfl).trans (g 3 (by omega))
    have h4 := (hf 4 _ rfl).trans (g 4 (by omega))
    have q0 : DataW.trod enc Tryd.prog W 0 (fun _ => true) true n 3 ([c0, c1, c2, c3, c4].take (Tryd.prog.cellsOf 3)) = _ := h0
    have q1 : DataW.trod enc Tryd.prog W 0 (fun _ => true) true n 3 ([c1, c2, c3, c4].take (Tryd.prog.cellsOf 3)) = _ := h1
    have q2 : DataW.trod enc Tryd.prog W 0 (fun _ => true) true n 3 ([c2, c3, c4].take (Tryd.prog.cellsOf 3)) = _ := h2
    have q3 : DataW.trod enc Tryd.prog W 0 (fun _ => true) true n 9 ([c3, c4].take (Tryd.prog.cellsOf 9)) = _ := h3
    have q4 : DataW.trod enc Tryd.prog W 0 (fun _ => true) true n 22 ([c4].take (Tryd.prog.cellsOf 22)) = _ := h4
    rw [cells1i] at q0 q1 q2
    rw [cells1s] at q3
    rw [cells1l] at q4
    simp only [List.take_succ_cons, List.take_zero] at q0 q1 q2 q3 q4
    obtain ⟨k, e0, _, w0⟩ := DataW.trod_int Tryd.underlying3 q0
    obtain ⟨m, e1, _, w1⟩ := DataW.trod_int Tryd.underlying3 q1
    obtain ⟨e, e2, _, w2⟩ := DataW.trod_int Tryd.underlying3 q2
    obtain ⟨s, e3, _, w3⟩ := DataW.trod_string Tryd.underlying9 q3
    injection e0 with e0
    injection e1 with e1
    injection e2 with e2
    injection e3 with e3
    subst e0; subst e1; subst e2; subst e3
    have hs : s.size ≤ 9223372036854775807 := by unfold maxLen at w3; exact w3
    rcases DataW.trod_slice Tryd.underlying22 q4 with ⟨e4, _⟩ | ⟨a, len, cap, elems, rest, n2, hn2, e4, _, _, hlc, hcm, hel, hall, _, _⟩
    · injection e4 with e4
      subst e4
      exact ⟨.mk k m e s none 0 [], rfl, .mk (inI_of w0) (inI_of w1) (inI_of w2) hs (by simp) (fun i hi => by simp at hi) (fun i hi => by simp at hi)⟩
    · injection e4 with e4
      subst e4
      have key : ∀ i, i < len → ∃ t : LT, At5 W (a.add (i * 5)) t ∧ (a.add (i * 5)).block < W.heap.size ∧ In W W.heap.size t := by
        intro i hi
        have h5 := hall i hi
        rw [List.getElem?_eq_getElem (by omega), cells5] at h5
        obtain ⟨cs', hc', ht'⟩ := Option.bind_eq_some_iff.1 h5
        obtain ⟨t, rfl, ht⟩ := ih n2 (by omega) cs' _ ht'
        obtain ⟨_, _, hat⟩ := World.cells?_some hc'
        have a0 := hat 0 (by omega)
        have a1 := hat 1 (by omega)
        have a2 := hat 2 (by omega)
        have a3 := hat 3 (by omega)
        have a4 := hat 4 (by omega)
        rw [show (a.add (i * 5)).add 0 = a.add (i * 5) by unfold Addr.add; simp] at a0
        rw [add_at _ 0] at a1
        rw [add_at _ 1] at a2
        rw [add_at _ 2] at a3
        rw [add_at _ 3] at a4
        exact ⟨t, ⟨a0, a1, a2, a3, a4⟩, World.block_lt_of_cell? W _ a0, ht⟩
      obtain ⟨T, hT⟩ := Go.Deep.choose_lt key
      have hl : ((List.range len).map T).length = len := by simp
      have hg : ∀ i (hi : i < ((List.range len).map T).length), ((List.range len).map T)[i] = T i := fun i hi => by simp
      refine ⟨.mk k m e s (some a) cap ((List.range len).map T), ?_, .mk (inI_of w0) (inI_of w1) (inI_of w2) hs (by rw [hl]; unfold maxLen at hcm; exact ⟨hlc, hcm⟩) (fun i hi => ⟨a, rfl, ?_, ?_⟩) (fun i hi => ?_)⟩
      · show _ = [Value.int .i64 k, .int .i64 m, .int .i64 e, .string s, .slice (some a) ((List.range len).map T).length cap]
        rw [hl]
      · have := (hT i (by omega)).2.1
        rw [add_block] at this
        exact this
      · rw [hg i hi]; exact (hT i (by omega)).1
      · rw [hg i hi]; exact (hT i (by omega)).2.2

end Go.Proofs.YtghcgkpeimpghaaDoor.val
