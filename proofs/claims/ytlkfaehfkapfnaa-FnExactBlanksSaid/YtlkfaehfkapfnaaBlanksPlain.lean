/-
  Plain: the bytes of a text but the blanks outside of its strings; how that goes on byte by byte.
-/
import Derived.Test.YtlkfaehfkapfnaaOwn
import Derived.Lib.Hide
namespace Go.Proofs.Ytlkfaehfkapfnaa.blanks

def isBl (b : UInt8) : Bool := b.toNat == 32 || b.toNat == 10 || b.toNat == 13 || b.toNat == 9
/-- Whether one is in a string behind a byte; whether the next byte is escaped; what is kept of it. -/
def nq (q h : Bool) (b : UInt8) : Bool := if h then q else if b.toNat = 34 then !q else q
def nh (q h : Bool) (b : UInt8) : Bool := if h then false else if b.toNat = 34 then false else q && b.toNat == 92
def em (q : Bool) (b : UInt8) : List UInt8 := if q || !isBl b then [b] else []
def run : Bool → Bool → List UInt8 → List UInt8
  | _, _, [] => []
  | q, h, b :: l => em q b ++ run (nq q h b) (nh q h b) l

theorem drop_cons (s : ByteArray) (k : Nat) (h : k < s.size) : s.data.toList.drop k = s[k] :: s.data.toList.drop (k + 1) := by
  rw [List.drop_eq_getElem_cons (by simpa using h)]; rfl

/-- The bytes l are what is kept of the first k. -/
structure St (s : ByteArray) (R : List UInt8) (k : Nat) (q h : Bool) (l : List UInt8) : Prop where
  eq : l ++ run q h (s.data.toList.drop k) = R
  len : l.length ≤ k
  le : k ≤ s.size
section
variable {s : ByteArray} {R l : List UInt8} {k : Nat} {q h : Bool}
theorem St.start (s : ByteArray) : St s (run false false s.data.toList) 0 false false [] := ⟨by simp, by simp, by omega⟩
theorem St.step (H : St s R k q h l) (hk : k < s.size) : St s R (k + 1) (nq q h s[k]) (nh q h s[k]) (l ++ em q s[k]) := by
  refine ⟨?_, ?_, hk⟩
  · rw [← H.eq, drop_cons s k hk, run, List.append_assoc]
  · have := H.len
    have : (em q s[k]).length ≤ 1 := by unfold em; split <;> simp
    rw [List.length_append]; omega
theorem St.fin (H : St s R k q h l) (hk : ¬ k < s.size) : l = R := by
  have := H.eq
  rw [List.drop_eq_nil_of_le (by simp; omega), run, List.append_nil] at this
  exact this
theorem St.atEnd (H : St s R k q h l) (hk : ¬ k < s.size) (q' h' : Bool) : St s R k q' h' l := by
  refine ⟨?_, H.len, H.le⟩
  rw [List.drop_eq_nil_of_le (by simp; omega), run, List.append_nil]
  exact H.fin hk
theorem St.skip (H : St s R k false false l) (hk : k < s.size) (hb : isBl s[k] = true) : St s R (k + 1) false false l := by
  have h34 : s[k].toNat ≠ 34 := by intro e; rw [isBl, e] at hb; simp at hb
  have := H.step hk
  simpa [nq, nh, em, hb, h34] using this
theorem St.esc (H : St s R k true true l) (hk : k < s.size) : St s R (k + 1) true false (l ++ [s[k]]) := by
  have := H.step hk
  simpa [nq, nh, em] using this
theorem St.shut (H : St s R k true false l) (hk : k < s.size) (hb : s[k].toNat = 34) : St s R (k + 1) false false (l ++ [s[k]]) := by
  have := H.step hk
  simpa [nq, nh, em, hb] using this
theorem St.back (H : St s R k true false l) (hk : k < s.size) (hb : s[k].toNat = 92) : St s R (k + 1) true true (l ++ [s[k]]) := by
  have := H.step hk
  simpa [nq, nh, em, hb] using this
theorem St.inner (H : St s R k true false l) (hk : k < s.size) (h1 : s[k].toNat ≠ 34) (h2 : s[k].toNat ≠ 92) : St s R (k + 1) true false (l ++ [s[k]]) := by
  have e : (s[k].toNat == 92) = false := beq_eq_false_iff_ne.2 h2
  have := H.step hk
  simpa [nq, nh, em, h1, e] using this
theorem St.begins (H : St s R k false false l) (hk : k < s.size) (hb : s[k].toNat = 34) : St s R (k + 1) true false (l ++ [s[k]]) := by
  have e : isBl s[k] = false := by rw [isBl, hb]; rfl
  have := H.step hk
  simpa [nq, nh, em, hb, e] using this
theorem St.outer (H : St s R k false false l) (hk : k < s.size) (hb : isBl s[k] = false) (h1 : s[k].toNat ≠ 34) : St s R (k + 1) false false (l ++ [s[k]]) := by
  have := H.step hk
  simpa [nq, nh, em, hb, h1] using this
end
end Go.Proofs.Ytlkfaehfkapfnaa.blanks
