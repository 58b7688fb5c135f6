/-
  What spec.l03Size returns: the order of two numbers without their signs.
-/
import Derived.Test.YtlkfaehfkapfnaaPartsNeg
import Derived.Test.YtlkfaehfkapfnaaPartsZero
import Derived.Test.YtlkfaehfkapfnaaSpecCmp
namespace Go.Proofs.Ytlkfaehfkapfnaa.num
open Go.ChangeShapes Go.WideShapes Go.ChangeAt Go.RowKit
open Go.Proofs.Ytlkfaehfkapfnaa.val
set_option maxRecDepth 100000

/-- The digits and the power of a number. -/
structure PartsIs (n e : Int) (D : List UInt8) (f : Int) : Prop where
  ex : (n = 0 ∧ D = []) ∨ ∃ m, m % 10 ≠ 0 ∧ PartAt n.natAbs e m f ∧ D = dg m
  lo : -20 ≤ f
  hi : f ≤ 60
  len : D.length ≤ 20
theorem parts_any (t : LT) (hn : InI t.n) (he1 : -20 ≤ t.e) (he2 : t.e ≤ 20) (w : World) : Calls Try.prog 78 #[.agg #[.int .i64 t.k, .int .i64 t.n, .int .i64 t.e, .string t.s, t.row]] w fun r w' => (∃ D f, PartsIs t.n t.e D f ∧ r = .returned (.tuple #[.string (str D), .int .i64 f])) ∧ Below w.heap.size w w' := by
  obtain ⟨k, n, e, s, a, cap, kids⟩ := t
  have hN : n.natAbs ≤ 9223372036854775808 := by have h := hn; unfold InI LT.n at h; simp only at h; omega
  have key : ∀ (r : Ending) (w' : World), PartRet n.natAbs e r ∧ Below w.heap.size w w' → (∃ D f, PartsIs n e D f ∧ r = .returned (.tuple #[.string (str D), .int .i64 f])) ∧ Below w.heap.size w w' := by
    rintro r w' ⟨⟨m, f, h1, h2, h3⟩, hb⟩
    have hle := h2.le
    have he1' : -20 ≤ e := he1
    have he2' : e ≤ 20 := he2
    exact ⟨⟨dg m, f, ⟨.inr ⟨m, h1, h2, rfl⟩, by omega, by omega, dg_len_le h2.pos (Nat.le_trans h2.small hN)⟩, h3⟩, hb⟩
  rcases Int.lt_trichotomy n 0 with h | h | h
  · exact (parts_neg k n e s a kids.length cap hn h he1 he2 w).mono key
  · subst h
    refine (parts_zero k e s a kids.length cap he1 he2 w).mono ?_
    rintro r w' ⟨h1, hb⟩
    have he1' : -20 ≤ e := he1
    have he2' : e ≤ 20 := he2
    exact ⟨⟨[], e + 1, ⟨.inl ⟨rfl, rfl⟩, by omega, by omega, by simp⟩, h1⟩, hb⟩
  · exact (parts_pos k n e s a kids.length cap hn h he1 he2 w).mono key

def sizeR (D : List UInt8) (e : Int) (E : List UInt8) (f : Int) : Int := if D = [] ∨ E = [] then cmpI D.length E.length else if cmpI (D.length + e) (E.length + f) ≠ 0 then cmpI (D.length + e) (E.length + f) else cmpS (str D) (str E)
def absV (n e : Int) : Int := ((n.natAbs * 10 ^ (e + 60).toNat : Nat) : Int)
theorem parts_some {n e : Int} {D : List UInt8} {f : Int} (h : PartsIs n e D f) (h0 : n ≠ 0) (he : -60 ≤ e) : ∃ m, m % 10 ≠ 0 ∧ D = dg m ∧ D ≠ [] ∧ ((m * 10 ^ (f + 60).toNat : Nat) : Int) = absV n e := by
  rcases h.ex with ⟨h1, _⟩ | ⟨m, h1, h2, h3⟩
  · exact absurd h1 h0
  · refine ⟨m, h1, h3, ?_, ?_⟩
    · rw [h3]; intro h4; have := dg_len_pos m; rw [h4] at this; simp at this
    · unfold absV; rw [h2.fin he]
theorem parts_none {n e : Int} {D : List UInt8} {f : Int} (h : PartsIs n e D f) (h0 : n = 0) : D = [] := by
  rcases h.ex with ⟨_, h1⟩ | ⟨m, _, h2, _⟩
  · exact h1
  · exfalso
    have := h2.pos
    have := h2.small
    omega
theorem absV_pos {n e : Int} (h : n ≠ 0) : 0 < absV n e := by
  unfold absV
  have := Nat.mul_pos (show 0 < n.natAbs by omega) (pow_pos10 (e + 60).toNat)
  omega
theorem absV_zero (e : Int) : absV 0 e = 0 := by unfold absV; simp
theorem sizeR_eq {n e n' e' : Int} {D E : List UInt8} {f f' : Int} (h : PartsIs n e D f) (h' : PartsIs n' e' E f') (he : -60 ≤ e) (he' : -60 ≤ e') : sizeR D f E f' = cmpI (absV n e) (absV n' e') := by
  unfold sizeR
  by_cases h0 : n = 0
  · have hD := parts_none h h0
    rw [if_pos (.inl hD), hD, h0, absV_zero]
    by_cases h0' : n' = 0
    · rw [parts_none h' h0', h0', absV_zero]; rfl
    · obtain ⟨m, _, _, h3, _⟩ := parts_some h' h0' he'
      have hl : 0 < E.length := List.length_pos_iff.2 h3
      rw [cmpI_lt (absV_pos h0'), cmpI_lt (by simp only [List.length_nil]; omega)]
  · obtain ⟨m, hm, h2, h3, h4⟩ := parts_some h h0 he
    by_cases h0' : n' = 0
    · have hE := parts_none h' h0'
      have hl : 0 < D.length := List.length_pos_iff.2 h3
      rw [if_pos (.inr hE), hE, h0', absV_zero, cmpI_gt (absV_pos h0), cmpI_gt (by simp only [List.length_nil]; omega)]
    · obtain ⟨m', hm', h2', h3', h4'⟩ := parts_some h' h0' he'
      rw [if_neg (fun h => h.elim h3 h3'), h2, h2', ← h4, ← h4']
      have hlo := h.lo
      have hlo' := h'.lo
      exact size_eq hm hm' (by omega) (by omega)

theorem isE_false {l : List UInt8} (h : ¬ l = []) : l.isEmpty = false := by cases l with | nil => exact absurd rfl h | cons _ _ => rfl
set_option maxHeartbeats 2000000 in
theorem size_any (t u : LT) (ht : InI t.n) (hu : InI u.n) (h1 : -20 ≤ t.e) (h2 : t.e ≤ 20) (h3 : -20 ≤ u.e) (h4 : u.e ≤ 20) (w : World) : Calls Try.prog 59 #[.agg #[.int .i64 t.k, .int .i64 t.n, .int .i64 t.e, .string t.s, t.row], .agg #[.int .i64 u.k, .int .i64 u.n, .int .i64 u.e, .string u.s, u.row]] w fun r w' => r = .returned (.int .i64 (cmpI (absV t.n t.e) (absV u.n u.e))) ∧ Below w.heap.size w w' := by
  have HB := Lib.hid (((Below.refl w.heap.size w).alloc (Nat.le_refl _) (.cells #[.int .i64 t.k, .int .i64 t.n, .int .i64 t.e, .string t.s, t.row] 29)).alloc (by simp) (.cells #[.int .i64 u.k, .int .i64 u.n, .int .i64 u.e, .string u.s, u.row] 29))
  have HX := Lib.hid (Box2.new w t u 29)
  have hrt : t.row = .slice t.a t.kids.length t.cap := rfl
  have hru : u.row = .slice u.a u.kids.length u.cap := rfl
  have CT := Lib.hid (fun W => parts_any t ht h1 h2 W)
  have CU := Lib.hid (fun W => parts_any u hu h3 h4 W)
  have HR : Hid (∀ D f E f', PartsIs t.n t.e D f → PartsIs u.n u.e E f' → sizeR D f E f' = cmpI (absV t.n t.e) (absV u.n u.e)) := fun D f E f' ha hb => sizeR_eq ha hb (by omega) (by omega)
  have CL := Lib.hid lessS
  have CX := Lib.hid textsS
  generalize cmpI (absV t.n t.e) (absV u.n u.e) = C at *
  simp only [hrt, hru] at CT CU HB HX ⊢
  clear ht hu h1 h2 h3 h4 hrt hru
  go_enter Try.func59, Try.ntmps59
  go_wp2_with fail
  with_reducible refine (CT.out _).mono ?_
  rintro r w1 ⟨⟨D, f, hD, rfl⟩, hb⟩
  replace HB := Lib.hid (below_of2 HB.out hb)
  replace HX : Hid (Box2 w1 w.heap.size t u) := ⟨HX.out.b1.behind hb, HX.out.b2.behind hb⟩
  clear hb
  obtain ⟨⟨p0, p1, p2, p3, p4⟩, ⟨q0, q1, q2, q3, q4⟩⟩ := HX.out
  unfold LT.row at p4 q4
  go_wp2_with fail
  with_reducible refine (CU.out _).mono ?_
  rintro r w2 ⟨⟨E, f', hE, rfl⟩, hb⟩
  replace HB := Lib.hid (below_of2 HB.out hb)
  clear hb p0 p1 p2 p3 p4 q0 q1 q2 q3 q4 CT CU HX
  have HV := Lib.hid (HR.out D f E f' hD hE)
  have hl1 := hD.len
  have hl2 := hE.len
  have ha1 := hD.lo
  have ha2 := hD.hi
  have hb1 := hE.lo
  have hb2 := hE.hi
  clear hD hE HR
  obtain ⟨S, hS⟩ : ∃ S, S = str D := ⟨_, rfl⟩
  obtain ⟨T, hT⟩ : ∃ T, T = str E := ⟨_, rfl⟩
  have hSz : S.size = D.length := by rw [hS]; rfl
  have hTz : T.size = E.length := by rw [hT]; rfl
  have hSl : S.toList = D := by rw [hS, str_list]
  have hTl : T.toList = E := by rw [hT, str_list]
  rw [← hS, ← hT]
  unfold sizeR at HV
  rw [← hS, ← hT, ← hSz, ← hTz, ← hSl, ← hTl] at HV
  rw [← hSz] at hl1
  rw [← hTz] at hl2
  clear hS hT hSz hTz hSl hTl
  by_cases hA : S.toList = []
  · have HV2 := Lib.hid (HV.out)
    rw [if_pos (.inl hA)] at HV2
    clear HV
    go_wp2_with fail
    with_reducible refine (CL.out _ _ _).mono ?_
    rintro r w3 ⟨rfl, rfl⟩
    go_wp2
    go_ret
    exact ⟨by rw [← HV2.out]; rfl, HB.out⟩
  · by_cases hB : T.toList = []
    · have HV2 := Lib.hid (HV.out)
      rw [if_pos (.inr hB)] at HV2
      clear HV
      go_wp2_with fail
      with_reducible refine (CL.out _ _ _).mono ?_
      rintro r w3 ⟨rfl, rfl⟩
      go_wp2
      go_ret
      exact ⟨by rw [← HV2.out]; rfl, HB.out⟩
    · have HV2 := Lib.hid (HV.out)
      rw [if_neg (fun h => h.elim hA hB)] at HV2
      clear HV
      obtain ⟨X, hX⟩ : ∃ X, cmpI ((S.size : Int) + f) ((T.size : Int) + f') = X := ⟨_, rfl⟩
      rw [hX] at HV2
      have CL2 : Hid (∀ W : World, Calls Try.prog 39 #[.int .i64 ((S.size : Int) + f), .int .i64 ((T.size : Int) + f')] W fun e w' => e = .returned (.int .i64 X) ∧ w' = W) := fun W => by rw [← hX]; exact lessS _ _ W
      clear hX CL
      have hA' := isE_false hA
      have hB' := isE_false hB
      by_cases hc : X = 0
      · subst hc
        rw [if_neg (by simp)] at HV2
        go_wp2_with fail
        with_reducible refine (CL2.out _).mono ?_
        rintro r w3 ⟨rfl, rfl⟩
        go_wp2_with fail
        with_reducible refine (CX.out _ _ _).mono ?_
        rintro r w4 ⟨rfl, rfl⟩
        go_wp2
        go_ret
        exact ⟨by rw [← HV2.out]; rfl, HB.out⟩
      · rw [if_pos hc] at HV2
        go_wp2_with fail
        with_reducible refine (CL2.out _).mono ?_
        rintro r w3 ⟨rfl, rfl⟩
        go_wp2
        go_ret
        exact ⟨by rw [← HV2.out]; rfl, HB.out⟩

end Go.Proofs.Ytlkfaehfkapfnaa.num
