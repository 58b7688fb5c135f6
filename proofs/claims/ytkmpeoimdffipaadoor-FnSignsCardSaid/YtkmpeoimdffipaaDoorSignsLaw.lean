/-
  For the law FnSigns: laws.sameInts of equal lists; a text's signs give the text back, a sign's bytes the sign. For texts of at most 1048576 bytes.
-/
import Derived.Test.YtkmpeoimdffipaaDoorIntS
import Derived.Test.YtkmpeoimdffipaaDoorQuotePlain
namespace Go.Proofs.YtkmpeoimdffipaaDoor.signsLaw
open Go.ChangeShapes Go.WideShapes Go.ChangeAt Go.RowKit
open Go.Proofs.YtkmpeoimdffipaaDoor.sign Go.Proofs.YtkmpeoimdffipaaDoor.ints
set_option maxRecDepth 100000

set_option maxHeartbeats 1000000 in
theorem same_true (v1 v2 : Value) (l : List Int) (w : World) (a1 a2 : Option Addr) (c1 c2 g1 g2 : Nat) (h1 : ReadI w v1 l a1 c1 g1) (h2 : ReadI w v2 l a2 c2 g2) (hl : l.length ≤ 1048576) :
    Calls Tryd.prog 23 #[v1, v2] w fun e w' => e = .returned (.bool true) ∧ ∃ n, w' = w.drewN n := by
  obtain ⟨rfl, ha1, hc1⟩ := h1
  obtain ⟨rfl, ha2, hc2⟩ := h2
  have HC1 := Lib.hid hc1
  have HC2 := Lib.hid hc2
  have HA1 := Lib.hid ha1
  have HA2 := Lib.hid ha2
  clear hc1 hc2 ha1 ha2
  go_enter Tryd.func23, Tryd.ntmps23
  go_wp2
  go_loopw [5] (fun i wr => ∃ k m : Nat, k ≤ l.length ∧ i = .int .i64 k ∧ wr = w.drewN m) (fun i _ => l.length - (intOf i).toNat)
  case atStart => exact ⟨0, 0, Nat.zero_le _, rfl, rfl⟩
  case round =>
    obtain ⟨k, m, hk, rfl, rfl⟩ := hrel
    by_cases hlt : k < l.length
    · have hk0 : (0 : Int) ≤ (k : Int) := by omega
      have hk1 : (k : Int) < (l.length : Int) := by omega
      obtain rfl := HA1.out (by omega)
      obtain rfl := HA2.out (by omega)
      obtain ⟨x, hx1, hx2⟩ : ∃ x, w.cell? ⟨g1, k, none⟩ = some (.int .i64 x) ∧ w.cell? ⟨g2, k, none⟩ = some (.int .i64 x) := ⟨_, HC1.out k hlt, HC2.out k hlt⟩
      go_wp2
      go_quiet (fail)
      go_wp2
      go_roundw
      case rel => exact ⟨k + 1, _, by omega, by go_num, rfl⟩
      case measure => simp [intOf]; omega
    · go_wp2
      go_ret
      exact ⟨rfl, _, rfl⟩


/-- Signs joined. -/
def joined (l : List Int) : List UInt8 := l.flatMap fun n => (putSign n).data.toList
theorem joined_snoc (l : List Int) (n : Int) : joined (l ++ [n]) = joined l ++ (putSign n).data.toList := by simp [joined]
theorem joined_from (s : ByteArray) : ∀ (f pos : Nat), okFrom s f pos = true → s.size ≤ pos + f → pos ≤ s.size → joined (runesFrom s f pos) = s.data.toList.drop pos
  | 0, pos, _, hf, hp => by
    have : pos = s.size := by omega
    subst this
    rw [runesFrom_end s 0 s.size (by omega)]
    simp [joined]
  | f + 1, pos, hok, hf, hp => by
    by_cases hlt : pos < s.size
    · by_cases hb : Utf8.decode s pos = (65533, 1)
      · rw [okFrom_bad s f pos hlt hb] at hok; cases hok
      · obtain ⟨N, M, hd⟩ : ∃ N M, Utf8.decode s pos = (N, M) := ⟨_, _, rfl⟩
        have hm := decode_bound s pos
        have hfit := decode_fits s pos hlt
        have hbytes := quote.decode_bytes s pos N M hlt hd hb
        rw [okFrom_step s f pos hlt hb] at hok
        rw [runesFrom_step s f pos hlt]
        rw [hd] at hm hfit hok ⊢
        simp only at hm hfit hok ⊢
        have ih := joined_from s f (pos + M) (by simpa using hok) (by omega) hfit
        have e : joined ((N : Int) :: runesFrom s f (pos + M)) = (putSign N).data.toList ++ joined (runesFrom s f (pos + M)) := by simp [joined]
        rw [e, ih, hbytes, Lib.extract_data, show pos + M - pos = M by omega]
        rw [← List.drop_drop, List.take_append_drop]
    · have : pos = s.size := by omega
      subst this
      rw [runesFrom_end s (f + 1) s.size (by omega)]
      simp [joined]
theorem joined_all (s : ByteArray) (h : textOk s = true) : joined (signsOf s) = s.data.toList := by
  have e : signsOf s = runesOf s := by unfold signsOf; rw [h]; rfl
  rw [e]
  exact joined_from s s.size 0 h (by omega) (by omega)

end Go.Proofs.YtkmpeoimdffipaaDoor.signsLaw
