/-
  What the reader's getShortHead and impl.GetHead do: the head at a place if it is the shortest form.
-/
import Derived.Test.YtnaghafmpncdkaaDoorGetHeadImpl
import Derived.Test.YtnaghafmpncdkaaDoorPutHeadImpl
import Derived.Deep.RegionHeld3
namespace Go.Proofs.YtnaghafmpncdkaaDoor.head
open Go.ChangeShapes Go.WideShapes Go.ChangeAt Go.RowKit
set_option maxRecDepth 100000
variable {T : TypeId} {xs : List Value}

theorem Hd.behind {W w' : World} {N : Nat} {m n : Int} {o : Bool} (h : Hd W N m n o) (hb : Below W.heap.size W w') : Hd w' N m n o := (hb.block N (Array.getElem?_eq_some_iff.1 h).1).trans h
theorem RdRet.more {W w' : World} {b : Nat} {s : ByteArray} {i : Int} {bad : Bool} (h : RdRet T xs W w' b s i bad) (o : Obj) : RdRet T xs W (w'.alloc o) b s i bad :=
  ⟨h.rd.alloc o, ⟨h.only.os, h.only.tape, h.only.output, by have := h.only.size; simp; omega, fun k hk hn => (Below.heap_alloc _ _ _ (Nat.lt_of_lt_of_le hk h.only.size)).trans (h.only.block k hk hn)⟩⟩
theorem RdRet.behind {W w' w2 : World} {b : Nat} {s : ByteArray} {i : Int} {bad : Bool} (h : RdRet T xs W w' b s i bad) (hb : Below w'.heap.size w' w2) : RdRet T xs W w2 b s i bad :=
  ⟨h.rd.behind hb h.rd.lt, ⟨hb.os.trans h.only.os, hb.tape.trans h.only.tape, hb.output.trans h.only.output, Nat.le_trans h.only.size hb.size, fun k hk hn => (hb.block k (Nat.lt_of_lt_of_le hk h.only.size)).trans (h.only.block k hk hn)⟩⟩
/-- What getHead tells, with Q. -/
structure HRet (T : TypeId) (xs : List Value) (W w' : World) (b : Nat) (s : ByteArray) (i : Int) (Q : Nat → Nat → Bool → Int → Bool → Prop) (m n : Nat) (o : Bool) (j : Int) (bad : Bool) : Prop where
  ret : RdRet T xs W w' b s j bad
  m_lt : m < 8
  n_lt : n < 18446744073709551616
  far : wrap64 (j - i) = j - i
  q : Q m n o j bad
/-- What getShortHead tells. -/
structure SRet (T : TypeId) (xs : List Value) (W w' : World) (b : Nat) (s : ByteArray) (i : Int) (Q : Nat → Nat → Bool → Int → Bool → Prop) (e : Ending) : Prop where
  ex : ∃ m n o j bad, e = .returned (hd m n o) ∧ RdRet T xs W w' b s j (bad || o || decide (j - i ≠ (headL m n).length)) ∧ Q m n o j bad
theorem put_size (m n : Nat) (h : m < 8) : (putHead m n).size = (headL m n).length := by
  unfold putHead
  rw [if_pos ⟨by omega, by omega⟩, Int.toNat_natCast]
  rfl
set_option maxHeartbeats 4000000 in
theorem short_any (s : ByteArray) (i : Int) (b : Nat) (bad0 : Bool) (W : World) (h : Rd T xs W b s i bad0) (Q : Nat → Nat → Bool → Int → Bool → Prop)
    (C : ∀ W, Rd T xs W b s i bad0 → Calls Tryd.prog 80 #[.pointer (some ⟨b, 0, none⟩)] W fun e w' => ∃ m n o j bad, e = .returned (hd m n o) ∧ HRet T xs W w' b s i Q m n o j bad) :
    Calls Tryd.prog 79 #[.pointer (some ⟨b, 0, none⟩)] W fun e w' => SRet T xs W w' b s i Q e := by
  have hlt := h.lt
  have hA := h.alloc (.cells #[.int .i64 0, .int .u64 0, .bool false] 87)
  have c1 := hA.c1
  have HC := Lib.hid (C _ hA)
  have HH := Lib.hid (Hd.new W 0 0 false)
  clear C h hA
  go_enter Tryd.func79, Tryd.ntmps79
  go_wp2_with fail
  with_reducible refine HC.out.mono ?_
  rintro r w1 ⟨m, n, o, j, bad, rfl, hr⟩
  unfold hd
  have hz1 := hr.ret.only.size
  have hN : W.heap.size < w1.heap.size := by simp at hz1; omega
  have HA := Lib.hid (hr.ret.rd.alloc (.cells #[.int .i64 (m : Int), .int .u64 (n : Int), .bool o] 87))
  have HK := Lib.hid (Hd.new w1 (m : Int) (n : Int) o)
  have HN := Lib.hid (Hd.behind (HH.out.only hr.ret.only (by omega)) ((Below.refl _ w1).alloc (Nat.le_refl _) (.cells #[.int .i64 (m : Int), .int .u64 (n : Int), .bool o] 87)))
  have HR := Lib.hid ((hr.ret.out hlt).more (.cells #[.int .i64 (m : Int), .int .u64 (n : Int), .bool o] 87))
  have HF := Lib.hid (And.intro hr.m_lt (And.intro hr.n_lt hr.far))
  have HQ := Lib.hid hr.q
  clear hr HC HH c1 hz1
  go_wp2_with fail
  generalize w1.alloc (.cells #[.int .i64 (m : Int), .int .u64 (n : Int), .bool o] 87) = WA at *
  generalize w1.heap.size = N2 at *
  have a1 := HA.out.c1
  have a2 := HA.out.c2
  have af := HA.out.fr 2
  obtain ⟨e0, e1, e2, e3⟩ := HK.out.cells
  obtain ⟨n0, n1, n2, n3⟩ := HN.out.cells
  cases o with
  | true =>
    have hr3 := HR.out.trans HA.out.spoil
    have hh3 := HN.out.only (set_only WA b 2 (.bool true)) (by omega)
    have HE := Lib.hid (put3_end hr3 hh3 (Nat.le_refl _) hlt (m : Int) (n : Int) true)
    clear hr3 hh3
    go_region
    all_goals go_wp2
    all_goals
      obtain ⟨k0, k1, k2, _⟩ := (Hd.drew HE.out.hd).cells
      unfold put3 at k0 k1 k2 HE
      refine bodyPost_ret (v := .agg #[.int .i64 (m : Int), .int .u64 (n : Int), .bool true]) (by simp [results, Tryd.results79, go_sem, k0, k1, k2]) rfl ?_
      exact ⟨⟨m, n, true, j, bad, rfl, by have := HE.out.ret.drew; simpa using this, HQ.out⟩⟩
  | false =>
    have CP := Lib.hid (fun W => impl_any (m : Int) n HF.out.2.1 W)
    have hps := put_size m n HF.out.1
    have hle := headL_le m n
    have hwr : IntKind.i64.wrap (j - i) = j - i := by have := HF.out.2.2; rw [IntKind.wrap_i64]; unfold wrap64 at this; omega
    generalize putHead (m : Int) n = PH at *
    go_region_held3 (fun w' => w'.cell? ⟨b, 1, none⟩ = some (.int .i64 j) ∧ w'.cell? ⟨N2, 0, none⟩ = some (.int .i64 (m : Int)) ∧ w'.cell? ⟨N2, 1, none⟩ = some (.int .u64 (n : Int)) ∧ w'.cell? ⟨N2, 2, none⟩ = some (.bool false)) (go_keep)
      (first | (go_at_call 103; with_reducible refine (CP.out _).mono ?_; rintro r w2 ⟨rfl, hb2⟩
                have g1 := (HA.out.drew.behind hb2 HA.out.lt).c1
                obtain ⟨g2, g3, g4, g5⟩ := (Hd.behind (Hd.drew HK.out) hb2).cells))
    all_goals
      have HR2 := HR.out.drew.behind hb2
      have HN2 := Hd.behind (Hd.drew HN.out) hb2
      obtain ⟨p0, p1, p2, p3⟩ := HN2.cells
      have pf := HR2.rd.fr 2
      have pc := HR2.rd.c2
      have HS := HR2.trans HR2.rd.spoil
      have HNS := HN2.only (set_only w2 b 2 (.bool true)) (by omega)
      by_cases hq : j - i = ((headL m n).length : Int)
      · have he : (j - i != ((headL m n).length : Int)) = false := by simp [hq]
        have HE := Lib.hid (put3_end HR2 HN2 (Nat.le_refl _) hlt (m : Int) (n : Int) false)
        have HT : Hid (bad = (bad || false || decide (j - i ≠ ((headL m n).length : Int)))) := by unfold Hid; simp [hq]
        clear HR2 HN2 HS HNS hb2 HA HK HN HR CP n0 n1 n2 n3 e0 e1 e2 e3 a1 a2 af hq
        go_wp2
        all_goals first
          | (exfalso; rename_i hx; rw [he] at hx; cases hx; done)
          | (obtain ⟨k0, k1, k2, _⟩ := HE.out.hd.cells
             unfold put3 at k0 k1 k2 HE
             refine bodyPost_ret (v := .agg #[.int .i64 (m : Int), .int .u64 (n : Int), .bool false]) (by simp [results, Tryd.results79, go_sem, k0, k1, k2]) rfl ?_
             exact ⟨⟨m, n, false, j, bad, rfl, by rw [← HT.out]; exact HE.out.ret, HQ.out⟩⟩)
      · have he : (j - i != ((headL m n).length : Int)) = true := by simp [hq]
        have HE := Lib.hid (put3_end HS HNS (Nat.le_refl _) hlt (m : Int) (n : Int) false)
        have HT : Hid (true = (bad || false || decide (j - i ≠ ((headL m n).length : Int)))) := by unfold Hid; simp [hq]
        clear HR2 HN2 HS HNS hb2 HA HK HN HR CP n0 n1 n2 n3 e0 e1 e2 e3 a1 a2 af hq
        go_wp2
        all_goals first
          | (exfalso; rename_i hx; rw [he] at hx; cases hx; done)
          | (obtain ⟨k0, k1, k2, _⟩ := HE.out.hd.cells
             unfold put3 at k0 k1 k2 HE
             refine bodyPost_ret (v := .agg #[.int .i64 (m : Int), .int .u64 (n : Int), .bool false]) (by simp [results, Tryd.results79, go_sem, k0, k1, k2]) rfl ?_
             exact ⟨⟨m, n, false, j, bad, rfl, by rw [← HT.out]; exact HE.out.ret, HQ.out⟩⟩)

end Go.Proofs.YtnaghafmpncdkaaDoor.head
