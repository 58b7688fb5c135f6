/-
  What the reader's getShortHead and impl.GetHead do: the head at a place if it is the shortest form.
-/
import Derived.Test.YtnaghafmpncdkaaDoorGetCborJ26
import Derived.Test.YtnaghafmpncdkaaDoorGetCborJ27
import Derived.Deep.RegionHeld3
import Derived.Test.YtnaghafmpncdkaaDoorGetCborJ6
namespace Go.Proofs.YtnaghafmpncdkaaDoor.head
open Go.ChangeShapes Go.WideShapes Go.ChangeAt Go.RowKit
set_option maxRecDepth 100000
variable {T : TypeId} {xs : List Value}

theorem Hd.behind {W w' : World} {N : Nat} {m n : Int} {o : Bool} (h : Hd W N m n o) (hb : Below W.heap.size W w') : Hd w' N m n o := (hb.block N (Array.getElem?_eq_some_iff.1 h).1).trans h
theorem RdRet.more {W w' : World} {b : Nat} {s : ByteArray} {i : Int} {bad : Bool} (h : RdRet T xs W w' b s i bad) (o : Obj) : RdRet T xs W (w'.alloc o) b s i bad :=
  ⟨h.rd.alloc o, ⟨h.only.os, h.only.tape, h.only.output, by have := h.only.size; simp; omega, fun k hk hn => (Below.heap_alloc _ _ _ (Nat.lt_of_lt_of_le hk h.only.size)).trans (h.only.block k hk hn)⟩⟩
theorem RdRet.behind {W w' w2 : World} {b : Nat} {s : ByteArray} {i : Int} {bad : Bool} (h : RdRet T xs W w' b s i bad) (hb : Below w'.heap.size w' w2) : RdRet T xs W w2 b s i bad :=
  ⟨h.rd.behind hb h.rd.lt, ⟨hb.os.trans h.only.os, hb.tape.trans h.only.tape, hb.output.trans h.only.output, Nat.le_trans h.only.size hb.size, fun k hk hn => (hb.block k (Nat.lt_of_lt_of_le hk h.only.size)).trans (h.only.block k hk hn)⟩⟩
/-- What getHead tells, with Q. -/
structure HRet (T : TypeId) (xs : List Value) (W w' : World) (b : Nat) (s : ByteArray) (i : Int) (Q : Nat → Nat → Bool → Int → Bool → Prop) (m n : Nat) (o : Bool) (j : Int) (bad : Bool) : Prop where
  ret : RdRet T xs W w' b s j bad
  m_lt : m < 8
  n_lt : n < 18446744073709551616
  far : wrap64 (j - i) = j - i
  q : Q m n o j bad
/-- What getShortHead tells. -/
structure SRet (T : TypeId) (xs : List Value) (W w' : World) (b : Nat) (s : ByteArray) (i : Int) (Q : Nat → Nat → Bool → Int → Bool → Prop) (e : Ending) : Prop where
  ex : ∃ m n o j bad, e = .returned (hd m n o) ∧ RdRet T xs W w' b s j (bad || o || decide (j - i ≠ (headL m n).length)) ∧ Q m n o j bad
theorem put_size (m n : Nat) (h : m < 8) : (putHead m n).size = (headL m n).length := by
  unfold putHead
  rw [if_pos ⟨by omega, by omega⟩, Int.toNat_natCast]
  rfl
set_option maxHeartbeats 4000000 in
theorem short_any (s : ByteArray) (i : Int) (b : Nat) (bad0 : Bool) (W : World) (h : Rd T xs W b s i bad0) (Q : Nat → Nat → Bool → Int → Bool → Prop)
    (C : ∀ W, Rd T xs W b s i bad0 → Calls Tryd.prog 80 #[.pointer (some ⟨b, 0, none⟩)] W fun e w' => ∃ m n o j bad, e = .returned (hd m n o) ∧ HRet T xs W w' b s i Q m n o j bad) :
    Calls Tryd.prog 79 #[.pointer (some ⟨b, 0, none⟩)] W fun e w' => SRet T xs W w' b s i Q e := by
  have hlt := h.lt
  have hA := h.alloc (.cells #[.int .i64 0, .int .u64 0, .bool false] 87)
  have c1 := hA.c1
  have HC := Lib.hid (C _ hA)
  have HH := Lib.hid (Hd.new W 0 0 false)
  clear C h hA
  go_enter Tryd.func79, Tryd.ntmps79
  go_wp2_with fail
  with_reducible refine HC.out.mono ?_
  rintro r w1 ⟨m, n, o, j, bad, rfl, hr⟩
  unfold hd
  have hz1 := hr.ret.only.size
  have hN : W.heap.size < w1.heap.size := by simp at hz1; omega
  have HA := Lib.hid (hr.ret.rd.alloc (.cells #[.int .i64 (m : Int), .int .u64 (n : Int), .bool o] 87))
  have HK := Lib.hid (Hd.new w1 (m : Int) (n : Int) o)
  have HN := Lib.hid (Hd.behind (HH.out.only hr.ret.only (by omega)) ((Below.refl _ w1).alloc (Nat.le_refl _) (.cells #[.int .i64 (m : Int), .int .u64 (n : Int), .bool o] 87)))
  have HR := Lib.hid ((hr.ret.out hlt).more (.cells #[.int .i64 (m : Int), .int .u64 (n : Int), .bool o] 87))
  have HF := Lib.hid (And.intro hr.m_lt (And.intro hr.n_lt hr.far))
  have HQ := Lib.hid hr.q
  clear hr HC HH c1 hz1
  go_wp2_with fail
  generalize w1.alloc (.cells #[.int .i64 (m : Int), .int .u64 (n : Int), .bool o] 87) = WA at *
  generalize w1.heap.size = N2 at *
  have a1 := HA.out.c1
  have a2 := HA.out.c2
  have af := HA.out.fr 2
  obtain ⟨e0, e1, e2, e3⟩ := HK.out.cells
  obtain ⟨n0, n1, n2, n3⟩ := HN.out.cells
  cases o with
  | true =>
    have hr3 := HR.out.trans HA.out.spoil
    have hh3 := HN.out.only (set_only WA b 2 (.bool true)) (by omega)
    have HE := Lib.hid (put3_end hr3 hh3 (Nat.le_refl _) hlt (m : Int) (n : Int) true)
    clear hr3 hh3
    go_region
    all_goals go_wp2
    all_goals
      obtain ⟨k0, k1, k2, _⟩ := (Hd.drew HE.out.hd).cells
      unfold put3 at k0 k1 k2 HE
      refine bodyPost_ret (v := .agg #[.int .i64 (m : Int), .int .u64 (n : Int), .bool true]) (by simp [results, Tryd.results79, go_sem, k0, k1, k2]) rfl ?_
      exact ⟨⟨m, n, true, j, bad, rfl, by have := HE.out.ret.drew; simpa using this, HQ.out⟩⟩
  | false =>
    have CP := Lib.hid (fun W => impl_any (m : Int) n HF.out.2.1 W)
    have hps := put_size m n HF.out.1
    have hle := headL_le m n
    have hwr : IntKind.i64.wrap (j - i) = j - i := by have := HF.out.2.2; rw [IntKind.wrap_i64]; unfold wrap64 at this; omega
    generalize putHead (m : Int) n = PH at *
    go_region_held3 (fun w' => w'.cell? ⟨b, 1, none⟩ = some (.int .i64 j) ∧ w'.cell? ⟨N2, 0, none⟩ = some (.int .i64 (m : Int)) ∧ w'.cell? ⟨N2, 1, none⟩ = some (.int .u64 (n : Int)) ∧ w'.cell? ⟨N2, 2, none⟩ = some (.bool false)) (go_keep)
      (first | (go_at_call 103; with_reducible refine (CP.out _).mono ?_; rintro r w2 ⟨rfl, hb2⟩
                have g1 := (HA.out.drew.behind hb2 HA.out.lt).c1
                obtain ⟨g2, g3, g4, g5⟩ := (Hd.behind (Hd.drew HK.out) hb2).cells))
    all_goals
      have HR2 := HR.out.drew.behind hb2
      have HN2 := Hd.behind (Hd.drew HN.out) hb2
      obtain ⟨p0, p1, p2, p3⟩ := HN2.cells
      have pf := HR2.rd.fr 2
      have pc := HR2.rd.c2
      have HS := HR2.trans HR2.rd.spoil
      have HNS := HN2.only (set_only w2 b 2 (.bool true)) (by omega)
      by_cases hq : j - i = ((headL m n).length : Int)
      · have he : (j - i != ((headL m n).length : Int)) = false := by simp [hq]
        have HE := Lib.hid (put3_end HR2 HN2 (Nat.le_refl _) hlt (m : Int) (n : Int) false)
        have HT : Hid (bad = (bad || false || decide (j - i ≠ ((headL m n).length : Int)))) := by unfold Hid; simp [hq]
        clear HR2 HN2 HS HNS hb2 HA HK HN HR CP n0 n1 n2 n3 e0 e1 e2 e3 a1 a2 af hq
        go_wp2
        all_goals first
          | (exfalso; rename_i hx; rw [he] at hx; cases hx; done)
          | (obtain ⟨k0, k1, k2, _⟩ := HE.out.hd.cells
             unfold put3 at k0 k1 k2 HE
             refine bodyPost_ret (v := .agg #[.int .i64 (m : Int), .int .u64 (n : Int), .bool false]) (by simp [results, Tryd.results79, go_sem, k0, k1, k2]) rfl ?_
             exact ⟨⟨m, n, false, j, bad, rfl, by rw [← HT.out]; exact HE.out.ret, HQ.out⟩⟩)
      · have he : (j - i != ((headL m n).length : Int)) = true := by simp [hq]
        have HE := Lib.hid (put3_end HS HNS (Nat.le_refl _) hlt (m : Int) (n : Int) false)
        have HT : Hid (true = (bad || false || decide (j - i ≠ ((headL m n).length : Int)))) := by unfold Hid; simp [hq]
        clear HR2 HN2 HS HNS hb2 HA HK HN HR CP n0 n1 n2 n3 e0 e1 e2 e3 a1 a2 af hq
        go_wp2
        all_goals first
          | (exfalso; rename_i hx; rw [he] at hx; cases hx; done)
          | (obtain ⟨k0, k1, k2, _⟩ := HE.out.hd.cells
             unfold put3 at k0 k1 k2 HE
             refine bodyPost_ret (v := .agg #[.int .i64 (m : Int), .int .u64 (n : Int), .bool false]) (by simp [results, Tryd.results79, go_sem, k0, k1, k2]) rfl ?_
             exact ⟨⟨m, n, false, j, bad, rfl, by rw [← HT.out]; exact HE.out.ret, HQ.out⟩⟩)

end Go.Proofs.YtnaghafmpncdkaaDoor.head
/-
  Plain: what reading a value in CBOR at a place of a text is to tell: that the bytes read are the value's own, and that whatever value stands there is the one read.
-/
namespace Go.Proofs.YtnaghafmpncdkaaDoor.cbor
open Go.RowKit
open Go.Proofs.YtnaghafmpncdkaaDoor.val Go.Proofs.YtnaghafmpncdkaaDoor.head
set_option maxRecDepth 100000

/-- The text from a place on. -/
def D (s : ByteArray) (i : Nat) : List UInt8 := s.data.toList.drop i
theorem D_len (s : ByteArray) (i : Nat) : (D s i).length = s.size - i := by unfold D; simp
theorem D_add {s : ByteArray} {i : Nat} {a r : List UInt8} (h : D s i = a ++ r) : D s (i + a.length) = r := by
  unfold D at *
  rw [← List.drop_drop, h, List.drop_left]
theorem D_le {s : ByteArray} {i : Nat} {a r : List UInt8} (h : D s i = a ++ r) (hi : i ≤ s.size) : i + a.length ≤ s.size := by
  have := congrArg List.length h
  rw [D_len, List.length_append] at this
  omega
theorem D_place {s : ByteArray} {i j : Nat} {a : List UInt8} (h : D s i = a ++ D s j) (hi : i ≤ s.size) (hj : j ≤ s.size) : j = i + a.length := by
  have := congrArg List.length h
  rw [D_len, List.length_append, D_len] at this
  omega
theorem no_bytes {s : ByteArray} (h : s.size = 0) : s = ⟨#[]⟩ := by
  apply ByteArray.ext
  apply Array.toList_inj.1
  exact List.eq_nil_of_length_eq_zero (by simpa using h)
/-- How many values with their heads there may be. -/
abbrev Lim : Nat := 1200

/-- The first head of a value's form, and what is behind it. -/
def lead : VT → Nat × Nat × List UInt8
  | .mk k n e s kids =>
    if k = 0 then (7, 22, []) else if k = 1 then (7, 20, []) else if k = 2 then (7, 21, []) else
    if k = 3 then (if n < 0 then (1, (-1 - n).toNat, []) else (0, n.toNat, [])) else
    if k = 4 then (6, 4, headL 4 2 ++ (intL e ++ intL n)) else
    if k = 5 then (3, s.size, s.data.toList) else
    if k = 6 then (2, s.size, s.data.toList) else
    if k = 7 then (4, kids.length, cborTL kids) else if k = 8 then (5, kids.length / 2, cborTL kids) else (6, n.toNat, cborTL kids)
theorem lead_eq (v : VT) : cborT v = headL (lead v).1 (lead v).2.1 ++ (lead v).2.2 := by
  obtain ⟨k, n, e, s, kids⟩ := v
  rw [cborT, lead]
  (repeat' split) <;> simp_all [intL]
  intro hx
  omega
theorem lead_lt {v : VT} (h : FitV v) : (lead v).1 < 8 ∧ (lead v).2.1 < 18446744073709551616 := by
  obtain ⟨k, n, e, s, kids⟩ := v
  rw [FitV] at h
  obtain ⟨h, _⟩ := h
  rw [lead]
  generalize kids.length = m at *
  cases h with
  | word hk hs => rcases hk with rfl | rfl | rfl <;> simp
  | int hn hs =>
    unfold InI at hn
    simp only [show ¬ (3 : Int) = 0 by decide, show ¬ (3 : Int) = 1 by decide, show ¬ (3 : Int) = 2 by decide, if_false, if_true]
    split <;> exact ⟨by simp, by simp only; omega⟩
  | dec => exact ⟨by simp, by simp⟩
  | text hs => exact ⟨by simp, by simp; omega⟩
  | bytes hs => exact ⟨by simp, by simp; omega⟩
  | list hs hm => exact ⟨by simp, by simp; omega⟩
  | map hs hm => exact ⟨by simp, by simp; omega⟩
  | tag h0 h1 => exact ⟨by simp, by simp; omega⟩
/-- A value that stands at a place: its head stands there, the rest behind it. -/
theorem lead_at {s : ByteArray} {i : Nat} {v : VT} {r : List UInt8} (hf : FitV v) (h : D s i = cborT v ++ r) : HeadAt s i (lead v).1 (lead v).2.1 ∧ D s (i + (1 + many s i)) = (lead v).2.2 ++ r := by
  have hl := lead_lt hf
  rw [lead_eq, List.append_assoc] at h
  have hh := head_at hl.1 hl.2 h
  refine ⟨hh, ?_⟩
  rw [hh.len]
  exact D_add h

/-- What reading tells: from i with c heads begun, to j with c' begun. -/
structure Got (s : ByteArray) (i c : Nat) (v : VT) (j c' : Nat) (bad : Bool) : Prop where
  snd : bad = false → FitV v → D s i = cborT v ++ D s j
  cmp : ∀ v0 r0, FitV v0 → D s i = cborT v0 ++ r0 → c + heads v0 ≤ Lim → bad = false ∧ v = v0 ∧ j = i + (cborT v0).length ∧ c' = c + heads v0
/-- The same behind the head of major m with number n. -/
structure Body (s : ByteArray) (m n : Nat) (i c : Nat) (v : VT) (j c' : Nat) (bad : Bool) : Prop where
  snd : bad = false → FitV v → headL m n ++ D s i = cborT v ++ D s j
  cmp : ∀ v0 r0, FitV v0 → (lead v0).1 = m → (lead v0).2.1 = n → D s i = (lead v0).2.2 ++ r0 → c + heads v0 ≤ Lim + 1 → bad = false ∧ v = v0 ∧ j = i + (lead v0).2.2.length ∧ c' + 1 = c + heads v0
theorem heads_pos (v : VT) : 1 ≤ heads v := by
  obtain ⟨k, n, e, s, kids⟩ := v
  rw [heads]
  split <;> omega
/-- No head stands there, or it can't be begun: no value does. -/
theorem got_none {s : ByteArray} {i c : Nat} (v : VT) (j c' : Nat) (h : ¬ (anyOk s i ∧ short s i) ∨ Lim ≤ c) : Got s i c v j c' true :=
  ⟨fun h => by simp at h, fun v0 r0 hf hd hc => by
    have hp := heads_pos v0
    rcases h with h | h
    · have := (lead_at hf hd).1
      exact (h ⟨this.ok, this.short⟩).elim
    · unfold Lim at *; omega⟩
theorem got_body {s : ByteArray} {i c : Nat} {v : VT} {j c' : Nat} {bad : Bool} (ho : anyOk s i) (hs : short s i) (h : Body s (maj s i) (num s i) (i + (1 + many s i)) (c + 1) v j c' bad) : Got s i c v j c' bad := by
  refine ⟨fun hb hf => ?_, fun v0 r0 hf hd hc => ?_⟩
  · rw [← h.snd hb hf]
    exact head_take ho hs
  · obtain ⟨hh, hd2⟩ := lead_at hf hd
    obtain ⟨h1, h2, h3, h4⟩ := h.cmp v0 r0 hf hh.maj.symm hh.num.symm hd2 (by omega)
    refine ⟨h1, h2, ?_, by omega⟩
    rw [h3, lead_eq, List.length_append, ← hh.len]
    omega

/-! Many values, one behind the other. -/
structure Many (s : ByteArray) (i c : Nat) (done : List VT) (j c' : Nat) (bad : Bool) : Prop where
  snd : bad = false → FitVL done → D s i = cborTL done ++ D s j
  cmp : ∀ l0 r0, FitVL l0 → D s i = cborTL l0 ++ r0 → c + headsL l0 ≤ Lim → done.length ≤ l0.length → bad = false ∧ done = l0.take done.length ∧ j = i + (cborTL done).length ∧ c' = c + headsL done
theorem Many.start (s : ByteArray) (i c : Nat) : Many s i c [] i c false :=
  ⟨fun _ _ => rfl, fun l0 r0 _ _ _ _ => ⟨rfl, rfl, rfl, rfl⟩⟩
theorem Many.step {s : ByteArray} {i c : Nat} {done : List VT} {j c' : Nat} {v : VT} {j2 c2 : Nat} {bad : Bool} (h : Many s i c done j c' false) (g : Got s j c' v j2 c2 bad) : Many s i c (done ++ [v]) j2 c2 bad := by
  refine ⟨fun hb hf => ?_, fun l0 r0 hf hd hc hl => ?_⟩
  · rw [fitVL_append, FitVL] at hf
    rw [h.snd rfl hf.1, g.snd hb hf.2.1, cborTL_append, cborTL, cborTL, List.append_nil, List.append_assoc]
  · rw [List.length_append, List.length_singleton] at hl
    obtain ⟨_, h2, h3, h4⟩ := h.cmp l0 r0 hf hd hc (by omega)
    have hsp : l0 = done ++ l0[done.length] :: l0.drop (done.length + 1) := by
      rw [List.getElem_cons_drop]
      have e := List.take_append_drop done.length l0
      rw [← h2] at e
      exact e.symm
    generalize l0[done.length] = v0 at hsp
    generalize l0.drop (done.length + 1) = l1 at hsp
    subst hsp
    rw [fitVL_append, FitVL] at hf
    rw [cborTL_append, cborTL, List.append_assoc, List.append_assoc] at hd
    rw [headsL_append, headsL] at hc
    have hd2 := D_add hd
    rw [← h3] at hd2
    obtain ⟨g1, g2, g3, g4⟩ := g.cmp v0 _ hf.2.1 hd2 (by omega)
    subst g2
    refine ⟨g1, ?_, ?_, ?_⟩
    · rw [List.length_append, List.length_singleton, List.take_length_add_append]
      rfl
    · rw [g3, h3, cborTL_append, cborTL, cborTL, List.append_nil, List.length_append]; omega
    · rw [g4, h4, headsL_append, headsL, headsL]; omega
/-- All of them read. -/
theorem Many.all {s : ByteArray} {i c : Nat} {done : List VT} {j c' : Nat} {bad : Bool} (h : Many s i c done j c' bad) {l0 : List VT} {r0 : List UInt8} (hf : FitVL l0) (hd : D s i = cborTL l0 ++ r0) (hc : c + headsL l0 ≤ Lim) (hl : done.length = l0.length) : bad = false ∧ done = l0 ∧ j = i + (cborTL l0).length ∧ c' = c + headsL l0 := by
  obtain ⟨h1, h2, h3, h4⟩ := h.cmp l0 r0 hf hd hc (by omega)
  rw [hl, List.take_length] at h2
  subst h2
  exact ⟨h1, rfl, h3, h4⟩
end Go.Proofs.YtnaghafmpncdkaaDoor.cbor
/-
  Plain: what reading behind a head is to tell, by its major type.
-/
namespace Go.Proofs.YtnaghafmpncdkaaDoor.cbor
open Go.RowKit
open Go.Proofs.YtnaghafmpncdkaaDoor.val Go.Proofs.YtnaghafmpncdkaaDoor.head
set_option maxRecDepth 100000

/-- The values with one form, by their heads. -/
inductive View : VT → Prop
  | word (k : Int) (N : Nat) (h : (k = 0 ∧ N = 22) ∨ (k = 1 ∧ N = 20) ∨ (k = 2 ∧ N = 21)) : View (.mk k 0 0 ⟨#[]⟩ [])
  | int (n : Int) (h : InI n) : View (.mk 3 n 0 ⟨#[]⟩ [])
  | dec (n e : Int) (h : InI n) (h2 : InI e) : View (.mk 4 n e ⟨#[]⟩ [])
  | text (s : ByteArray) (h : s.size ≤ 2000) : View (.mk 5 0 0 s [])
  | bytes (s : ByteArray) (h : s.size ≤ 2000) : View (.mk 6 0 0 s [])
  | list (l : List VT) (h : l.length ≤ 300) (hf : FitVL l) : View (.mk 7 0 0 ⟨#[]⟩ l)
  | map (l : List VT) (h : l.length ≤ 600) (h2 : l.length % 2 = 0) (hf : FitVL l) : View (.mk 8 0 0 ⟨#[]⟩ l)
  | tag (n : Int) (t : VT) (h0 : 0 ≤ n) (h1 : n ≤ 1000000) (h4 : n ≠ 4) (hf : FitV t) : View (.mk 9 n 0 ⟨#[]⟩ [t])
theorem view {v : VT} (h : FitV v) : View v := by
  obtain ⟨k, n, e, s, kids⟩ := v
  rw [FitV] at h
  obtain ⟨h, hl⟩ := h
  generalize hm : kids.length = m at h
  cases h with
  | word hk hs =>
    obtain rfl := List.eq_nil_of_length_eq_zero hm
    obtain rfl := no_bytes hs
    rcases hk with rfl | rfl | rfl
    · exact .word 0 22 (.inl ⟨rfl, rfl⟩)
    · exact .word 1 20 (.inr (.inl ⟨rfl, rfl⟩))
    · exact .word 2 21 (.inr (.inr ⟨rfl, rfl⟩))
  | int hn hs =>
    obtain rfl := List.eq_nil_of_length_eq_zero hm
    obtain rfl := no_bytes hs
    exact .int _ hn
  | dec hn he hs =>
    obtain rfl := List.eq_nil_of_length_eq_zero hm
    obtain rfl := no_bytes hs
    exact .dec _ _ hn he
  | text hs =>
    obtain rfl := List.eq_nil_of_length_eq_zero hm
    exact .text _ hs
  | bytes hs =>
    obtain rfl := List.eq_nil_of_length_eq_zero hm
    exact .bytes _ hs
  | list hs h3 =>
    obtain rfl := no_bytes hs
    subst hm
    exact .list _ h3 hl
  | map hs h3 h2 =>
    obtain rfl := no_bytes hs
    subst hm
    exact .map _ h3 h2 hl
  | tag h0 h1 h4 hs =>
    obtain rfl := no_bytes hs
    match kids, hm, hl with
    | [t], _, hl =>
      rw [FitVL] at hl
      exact .tag _ _ h0 h1 h4 hl.1
theorem lead3 (n e : Int) (s : ByteArray) (l : List VT) : lead (.mk 3 n e s l) = if n < 0 then (1, (-1 - n).toNat, []) else (0, n.toNat, []) := rfl
theorem lead4 (n e : Int) (s : ByteArray) (l : List VT) : lead (.mk 4 n e s l) = (6, 4, headL 4 2 ++ (intL e ++ intL n)) := rfl
theorem lead5 (n e : Int) (s : ByteArray) (l : List VT) : lead (.mk 5 n e s l) = (3, s.size, s.data.toList) := rfl
theorem lead6 (n e : Int) (s : ByteArray) (l : List VT) : lead (.mk 6 n e s l) = (2, s.size, s.data.toList) := rfl
theorem lead7 (n e : Int) (s : ByteArray) (l : List VT) : lead (.mk 7 n e s l) = (4, l.length, cborTL l) := rfl
theorem lead8 (n e : Int) (s : ByteArray) (l : List VT) : lead (.mk 8 n e s l) = (5, l.length / 2, cborTL l) := rfl
theorem lead9 (n e : Int) (s : ByteArray) (l : List VT) : lead (.mk 9 n e s l) = (6, n.toNat, cborTL l) := rfl
theorem leadw {k : Int} {N : Nat} (h : (k = 0 ∧ N = 22) ∨ (k = 1 ∧ N = 20) ∨ (k = 2 ∧ N = 21)) (n e : Int) (s : ByteArray) (l : List VT) : lead (.mk k n e s l) = (7, N, []) := by
  rcases h with ⟨rfl, rfl⟩ | ⟨rfl, rfl⟩ | ⟨rfl, rfl⟩ <;> rfl
theorem cborw {k : Int} {N : Nat} (h : (k = 0 ∧ N = 22) ∨ (k = 1 ∧ N = 20) ∨ (k = 2 ∧ N = 21)) (n e : Int) (s : ByteArray) (l : List VT) : cborT (.mk k n e s l) = headL 7 N := by
  rcases h with ⟨rfl, rfl⟩ | ⟨rfl, rfl⟩ | ⟨rfl, rfl⟩ <;> rw [cborT] <;> rfl
theorem heads_leaf {k : Int} (h : k ≠ 4) (n e : Int) (s : ByteArray) : heads (.mk k n e s []) = 1 := by
  rw [heads, if_neg h, headsL]

theorem body_none {s : ByteArray} {m n i c : Nat} (v : VT) (j c' : Nat) (h : ∀ v0 r0, View v0 → (lead v0).1 = m → (lead v0).2.1 = n → D s i = (lead v0).2.2 ++ r0 → c + heads v0 ≤ Lim + 1 → False) : Body s m n i c v j c' true :=
  ⟨fun h => by simp at h, fun v0 r0 hf h1 h2 h3 h4 => (h v0 r0 (view hf) h1 h2 h3 h4).elim⟩
theorem body_nat {s : ByteArray} {n i c : Nat} (hn : n ≤ 9223372036854775807) : Body s 0 n i c (.mk 3 n 0 ⟨#[]⟩ []) i c false := by
  refine ⟨fun _ _ => ?_, fun v0 r0 hf h1 h2 hd hc => ?_⟩
  · rw [cborT]
    simp only [show ¬ (3 : Int) = 0 by decide, show ¬ (3 : Int) = 1 by decide, show ¬ (3 : Int) = 2 by decide, if_false, if_true]
    unfold intL
    rw [if_neg (by omega), Int.toNat_natCast]
  · cases view hf with
    | word k N h => rw [leadw h] at h1; simp at h1
    | int z h =>
      rw [lead3] at h1 h2 ⊢
      split at h1
      · simp at h1
      · rw [if_neg ‹_›] at h2 ⊢
        simp only at h2
        refine ⟨rfl, by congr 1; omega, by simp, ?_⟩
        rw [heads_leaf (by decide)]
    | dec => rw [lead4] at h1; simp at h1
    | text => rw [lead5] at h1; simp at h1
    | bytes => rw [lead6] at h1; simp at h1
    | list => rw [lead7] at h1; simp at h1
    | map => rw [lead8] at h1; simp at h1
    | tag => rw [lead9] at h1; simp at h1
theorem body_nat_no {s : ByteArray} {n i c : Nat} (hn : 9223372036854775807 < n) (v : VT) (j c' : Nat) : Body s 0 n i c v j c' true := by
  refine body_none v j c' fun v0 r0 hf h1 h2 _ _ => ?_
  cases hf with
  | word k N h => rw [leadw h] at h1; simp at h1
  | int z h =>
    unfold InI at h
    rw [lead3] at h1 h2
    split at h1
    · simp at h1
    · rw [if_neg ‹_›] at h2; simp only at h2; omega
  | dec => rw [lead4] at h1; simp at h1
  | text => rw [lead5] at h1; simp at h1
  | bytes => rw [lead6] at h1; simp at h1
  | list => rw [lead7] at h1; simp at h1
  | map => rw [lead8] at h1; simp at h1
  | tag => rw [lead9] at h1; simp at h1
theorem body_neg {s : ByteArray} {n i c : Nat} (hn : n ≤ 9223372036854775807) : Body s 1 n i c (.mk 3 (-1 - n) 0 ⟨#[]⟩ []) i c false := by
  refine ⟨fun _ _ => ?_, fun v0 r0 hf h1 h2 hd hc => ?_⟩
  · rw [cborT]
    simp only [show ¬ (3 : Int) = 0 by decide, show ¬ (3 : Int) = 1 by decide, show ¬ (3 : Int) = 2 by decide, if_false, if_true]
    unfold intL
    rw [if_pos (by omega), show (-1 - (-1 - (n : Int))).toNat = n by omega]
  · cases view hf with
    | word k N h => rw [leadw h] at h1; simp at h1
    | int z h =>
      rw [lead3] at h1 h2 ⊢
      split at h1
      · rw [if_pos ‹_›] at h2 ⊢
        simp only at h2
        refine ⟨rfl, by congr 1; omega, by simp, ?_⟩
        rw [heads_leaf (by decide)]
      · simp at h1
    | dec => rw [lead4] at h1; simp at h1
    | text => rw [lead5] at h1; simp at h1
    | bytes => rw [lead6] at h1; simp at h1
    | list => rw [lead7] at h1; simp at h1
    | map => rw [lead8] at h1; simp at h1
    | tag => rw [lead9] at h1; simp at h1
theorem body_neg_no {s : ByteArray} {n i c : Nat} (hn : 9223372036854775807 < n) (v : VT) (j c' : Nat) : Body s 1 n i c v j c' true := by
  refine body_none v j c' fun v0 r0 hf h1 h2 _ _ => ?_
  cases hf with
  | word k N h => rw [leadw h] at h1; simp at h1
  | int z h =>
    unfold InI at h
    rw [lead3] at h1 h2
    split at h1
    · rw [if_pos ‹_›] at h2; simp only at h2; omega
    · simp at h1
  | dec => rw [lead4] at h1; simp at h1
  | text => rw [lead5] at h1; simp at h1
  | bytes => rw [lead6] at h1; simp at h1
  | list => rw [lead7] at h1; simp at h1
  | map => rw [lead8] at h1; simp at h1
  | tag => rw [lead9] at h1; simp at h1
/-- The bytes from a place on. -/
theorem part_eq {s : ByteArray} {i n : Nat} (h : i + n ≤ s.size) : (s.extract i (i + n)).data.toList = (D s i).take n := by
  rw [ByteArray.data_extract, Array.toList_extract, List.extract_eq_take_drop]
  unfold D
  congr 1
  omega
theorem part_size {s : ByteArray} {i n : Nat} (h : i + n ≤ s.size) : (s.extract i (i + n)).size = n := by
  rw [ByteArray.size_extract]; omega
theorem part_is {s t : ByteArray} {i n : Nat} {r : List UInt8} (hn : t.size = n) (hd : D s i = t.data.toList ++ r) (hi : i ≤ s.size) : i + n ≤ s.size ∧ s.extract i (i + n) = t := by
  have hl : t.data.toList.length = n := by simpa using hn
  have h1 := D_le hd hi
  rw [hl] at h1
  refine ⟨h1, ?_⟩
  apply ByteArray.ext
  apply Array.toList_inj.1
  rw [part_eq h1, hd, ← hl, List.take_left]
theorem body_bytes {s : ByteArray} {n i c : Nat} (hi : i + n ≤ s.size) : Body s 2 n i c (.mk 6 0 0 (s.extract i (i + n)) []) (i + n) c false := by
  refine ⟨fun _ _ => ?_, fun v0 r0 hf h1 h2 hd hc => ?_⟩
  · rw [cborT]
    simp only [show ¬ (6 : Int) = 0 by decide, show ¬ (6 : Int) = 1 by decide, show ¬ (6 : Int) = 2 by decide, show ¬ (6 : Int) = 3 by decide, show ¬ (6 : Int) = 4 by decide, show ¬ (6 : Int) = 5 by decide, if_false, if_true]
    rw [part_size hi, part_eq hi, List.append_assoc]
    congr 1
    unfold D
    rw [← List.drop_drop, List.take_append_drop]
  · cases view hf with
    | word k N h => rw [leadw h] at h1; simp at h1
    | int z h => rw [lead3] at h1; split at h1 <;> simp at h1
    | dec => rw [lead4] at h1; simp at h1
    | text => rw [lead5] at h1; simp at h1
    | bytes t h =>
      rw [lead6] at h2 hd ⊢
      obtain ⟨_, h4⟩ := part_is h2 hd (by omega)
      refine ⟨rfl, by rw [h4], by simp only [Array.length_toList]; rw [← h2]; rfl, ?_⟩
      rw [heads_leaf (by decide)]
    | list => rw [lead7] at h1; simp at h1
    | map => rw [lead8] at h1; simp at h1
    | tag => rw [lead9] at h1; simp at h1
theorem body_text {s : ByteArray} {n i c : Nat} (hi : i + n ≤ s.size) : Body s 3 n i c (.mk 5 0 0 (s.extract i (i + n)) []) (i + n) c false := by
  refine ⟨fun _ _ => ?_, fun v0 r0 hf h1 h2 hd hc => ?_⟩
  · rw [cborT]
    simp only [show ¬ (5 : Int) = 0 by decide, show ¬ (5 : Int) = 1 by decide, show ¬ (5 : Int) = 2 by decide, show ¬ (5 : Int) = 3 by decide, show ¬ (5 : Int) = 4 by decide, if_false, if_true]
    rw [part_size hi, part_eq hi, List.append_assoc]
    congr 1
    unfold D
    rw [← List.drop_drop, List.take_append_drop]
  · cases view hf with
    | word k N h => rw [leadw h] at h1; simp at h1
    | int z h => rw [lead3] at h1; split at h1 <;> simp at h1
    | dec => rw [lead4] at h1; simp at h1
    | text t h =>
      rw [lead5] at h2 hd ⊢
      obtain ⟨_, h4⟩ := part_is h2 hd (by omega)
      refine ⟨rfl, by rw [h4], by simp only [Array.length_toList]; rw [← h2]; rfl, ?_⟩
      rw [heads_leaf (by decide)]
    | bytes => rw [lead6] at h1; simp at h1
    | list => rw [lead7] at h1; simp at h1
    | map => rw [lead8] at h1; simp at h1
    | tag => rw [lead9] at h1; simp at h1
/-- There are not so many bytes. -/
theorem body_cut {s : ByteArray} {m n i c : Nat} (hm : m = 2 ∨ m = 3) (hi : i ≤ s.size) (hn : s.size - i < n) (v : VT) (j c' : Nat) : Body s m n i c v j c' true := by
  refine body_none v j c' fun v0 r0 hf h1 h2 hd _ => ?_
  have key : ∀ t : ByteArray, t.size = n → D s i = t.data.toList ++ r0 → False := fun t h3 h4 => by
    have := (part_is h3 h4 hi).1
    omega
  cases hf with
  | word k N h => rw [leadw h] at h1; simp at h1; omega
  | int z h => rw [lead3] at h1; split at h1 <;> simp at h1 <;> omega
  | dec => rw [lead4] at h1; simp at h1; omega
  | text t h => rw [lead5] at h2 hd; exact key t h2 hd
  | bytes t h => rw [lead6] at h2 hd; exact key t h2 hd
  | list => rw [lead7] at h1; simp at h1; omega
  | map => rw [lead8] at h1; simp at h1; omega
  | tag => rw [lead9] at h1; simp at h1; omega
end Go.Proofs.YtnaghafmpncdkaaDoor.cbor
