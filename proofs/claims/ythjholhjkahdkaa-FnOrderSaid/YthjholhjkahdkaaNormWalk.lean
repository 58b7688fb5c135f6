/-
  What impl.Norm and spec.Norm return.
-/
import Derived.Test.YthjholhjkahdkaaValOkNum
import Derived.Test.YthjholhjkahdkaaSpecNumOk
namespace Go.Proofs.Ythjholhjkahdkaa.num
open Go.ChangeShapes Go.WideShapes Go.ChangeAt Go.RowKit
open Go.Proofs.Ythjholhjkahdkaa.val
set_option maxRecDepth 100000

def normV (p : Int × Int × Int × Bool) : Value := .tuple #[.agg #[.int .i64 p.1, .int .i64 p.2.1, .int .i64 p.2.2.1, .string ⟨#[]⟩, .slice none 0 0], .bool p.2.2.2]
def decT (n e : Int) : LT := .mk 4 n e ⟨#[]⟩ none 0 []
theorem dec_in (n e : Int) (hn : InI n) (he : InI e) (W : World) : In W W.heap.size (decT n e) := .mk (by unfold InI; decide) hn he (by decide) (by simp) (fun i hi => by simp at hi) (fun i hi => by simp at hi)
theorem dec_num (n e : Int) : numOk (decT n e) = decOk n e := by
  unfold decT
  rw [num_dec', decide_eq_true ⟨rfl, rfl⟩, Bool.true_and]
theorem impl_dec (n e : Int) (hn : InI n) (he : InI e) (W : World) : Calls Try.prog 33 #[.agg #[.int .i64 4, .int .i64 n, .int .i64 e, .string ⟨#[]⟩, .slice none 0 0]] W fun r w' => r = .returned (.bool (decOk n e)) ∧ Below W.heap.size W w' := by
  have := value_num W (decT n e) (dec_in n e hn he W) (by show 1 + 0 ≤ 2000000; omega) (.inr rfl)
  rw [dec_num] at this
  exact this
theorem spec_dec (n e : Int) (W : World) : Calls Try.prog 28 #[.agg #[.int .i64 4, .int .i64 n, .int .i64 e, .string ⟨#[]⟩, .slice none 0 0]] W fun r w' => r = .returned (.bool (decOk n e)) ∧ Below W.heap.size W w' := by
  have := spec_value_num (decT n e) (.inr rfl) W
  rw [dec_num] at this
  exact this
/-- What Norm's loop keeps. -/
structure StripAt (n e m f : Int) : Prop where
  ne : m ≠ 0
  isIn : InI m
  room : Room m f
  eq : strip m f = strip n e
theorem StripAt.start {n e : Int} (h0 : n ≠ 0) (hn : InI n) (h1 : -1000 ≤ e) (h2 : e ≤ 1000) : StripAt n e n e := ⟨h0, hn, room_start hn h1 h2, rfl⟩
theorem StripAt.step {n e m f : Int} (h : StripAt n e m f) (hm : m.tmod 10 = 0) : StripAt n e (m.tdiv 10) (f + 1) := ⟨div_ne h.ne hm, div_in h.isIn, room_step h.room h.ne hm, by rw [← h.eq, strip_yes h.ne hm]⟩
theorem StripAt.fin {n e m f : Int} (h : StripAt n e m f) (hm : m.tmod 10 ≠ 0) : strip n e = (m, f) := by rw [← h.eq, strip_no hm]
theorem norm_at {n e m f : Int} (h0 : n ≠ 0) (h1 : -1000 ≤ e) (h2 : e ≤ 1000) (h : StripAt n e m f) (hm : m.tmod 10 ≠ 0) : norm n e = normAt m f := by
  unfold norm
  rw [if_neg (by omega), if_neg h0, h.fin hm]

end Go.Proofs.Ythjholhjkahdkaa.num
