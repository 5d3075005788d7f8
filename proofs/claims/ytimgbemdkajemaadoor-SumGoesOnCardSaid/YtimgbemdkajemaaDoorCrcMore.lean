/- Plain mathematics: how a sum goes on; the sum of what is sealed is one for all. -/
import Derived.Test.YtimgbemdkajemaaDoorCrc
namespace Go.Proofs.YtimgbemdkajemaaDoor
namespace Crc
theorem step_inj {r s : BitVec 32} {x : Bool} (h : step r x = step s x) : r = s := by
  have := T_inj h
  have h2 := congrArg (fun y => y ^^^ one x) this
  simpa [BitVec.xor_assoc] using h2
theorem feed_inj : ∀ (l : List Bool) {r s : BitVec 32}, feed r l = feed s l → r = s
  | [], _, _, h => h
  | x :: l, _, _, h => step_inj (feed_inj l (r := step _ x) (s := step _ x) h)
/-- bits as a number, the first one the least -/
def pk : List Bool → Nat
  | [] => 0
  | x :: l => x.toNat + 2 * pk l
theorem pk_lt (l : List Bool) : pk l < 2 ^ l.length := by
  induction l with
  | nil => decide
  | cons x l ih =>
    have : x.toNat ≤ 1 := by cases x <;> decide
    simp only [pk, List.length_cons, Nat.pow_succ]
    omega
theorem pk_bit (l : List Bool) : ∀ i, (pk l).testBit i = l.getD i false := by
  induction l with
  | nil => intro i; simp [pk]
  | cons x l ih =>
    intro i
    cases i with
    | zero =>
      rw [Nat.testBit_zero]
      cases x <;> simp [pk] <;> omega
    | succ i =>
      rw [Nat.testBit_succ]
      have : (pk (x :: l)) / 2 = pk l := by cases x <;> simp [pk] <;> omega
      rw [this, ih]; simp
theorem pk_inj {u v : List Bool} (hl : u.length = v.length) (h : pk u = pk v) : u = v := by
  apply List.ext_getElem hl
  intro i h1 h2
  have := pk_bit u i
  rw [h, pk_bit v i] at this
  rw [List.getD_eq_getElem?_getD, List.getD_eq_getElem?_getD, List.getElem?_eq_getElem h1, List.getElem?_eq_getElem h2] at this
  exact this.symm
theorem feed_pack (r : BitVec 32) (u : List Bool) (h : u.length ≤ 32) : feed r u = Tn u.length (r ^^^ BitVec.ofNat 32 (pk u)) := by
  have hlt : pk u < 2 ^ 32 := Nat.lt_of_lt_of_le (pk_lt u) (Nat.pow_le_pow_right (by omega) h)
  rw [Tn_feed]
  have z : BitVec.ofNat 32 (pk u) >>> u.length = 0#32 := by
    apply BitVec.eq_of_toNat_eq
    rw [BitVec.toNat_ushiftRight, BitVec.toNat_ofNat, Nat.mod_eq_of_lt hlt, Nat.shiftRight_eq_div_pow, Nat.div_eq_of_lt (pk_lt u)]; rfl
  rw [z, BitVec.xor_zero]
  congr 1
  apply List.ext_getElem (by simp)
  intro i h1 h2
  simp only [List.getElem_map, List.getElem_range]
  rw [BitVec.getLsbD_ofNat, pk_bit, List.getD_eq_getElem?_getD, List.getElem?_eq_getElem h1]
  have : i < 32 := by omega
  simp [this]
theorem feed_tail_inj {r : BitVec 32} {u v : List Bool} (hl : u.length = v.length) (h32 : u.length ≤ 32) (h : feed r u = feed r v) : u = v := by
  rw [feed_pack r u h32, feed_pack r v (by omega), hl] at h
  have h1 := Tn_inj _ h
  have h2 := congrArg (fun y => r ^^^ y) h1
  simp only [← BitVec.xor_assoc, BitVec.xor_self, BitVec.zero_xor] at h2
  have h3 := congrArg BitVec.toNat h2
  have hu : pk u < 2 ^ 32 := Nat.lt_of_lt_of_le (pk_lt u) (Nat.pow_le_pow_right (by omega) h32)
  have hv : pk v < 2 ^ 32 := Nat.lt_of_lt_of_le (pk_lt v) (Nat.pow_le_pow_right (by omega) (by omega))
  rw [BitVec.toNat_ofNat, BitVec.toNat_ofNat, Nat.mod_eq_of_lt hu, Nat.mod_eq_of_lt hv] at h3
  exact pk_inj hl h3
theorem bitsOf_length (b : Nat) : (bitsOf b).length = 8 := by simp [bitsOf]
theorem bits_length (l : List UInt8) : (bits l).length = 8 * l.length := by
  induction l with
  | nil => rfl
  | cons b l ih =>
    show (bitsOf b.toNat ++ bits l).length = _
    rw [List.length_append, bitsOf_length, ih, List.length_cons]; omega
theorem bits_append (a b : List UInt8) : bits (a ++ b) = bits a ++ bits b := by simp [bits]
theorem bitsOf_inj {a b : UInt8} (h : bitsOf a.toNat = bitsOf b.toNat) : a = b := by
  apply UInt8.toNat_inj.1
  apply Nat.eq_of_testBit_eq
  intro i
  by_cases hi : i < 8
  · have := congrArg (fun l => l[i]?) h
    simpa [bitsOf, hi] using this
  · have ha := Nat.testBit_lt_two_pow (Nat.lt_of_lt_of_le a.toNat_lt (Nat.pow_le_pow_right (by omega) (by omega : 8 ≤ i)))
    have hb := Nat.testBit_lt_two_pow (Nat.lt_of_lt_of_le b.toNat_lt (Nat.pow_le_pow_right (by omega) (by omega : 8 ≤ i)))
    rw [ha, hb]
theorem bits_inj : ∀ {a b : List UInt8}, a.length = b.length → bits a = bits b → a = b
  | [], [], _, _ => rfl
  | [], _ :: _, h, _ => by simp at h
  | _ :: _, [], h, _ => by simp at h
  | x :: a, y :: b, hl, h => by
    have h' : bitsOf x.toNat ++ bits a = bitsOf y.toNat ++ bits b := h
    obtain ⟨h1, h2⟩ := List.append_inj h' (by rw [bitsOf_length, bitsOf_length])
    rw [bitsOf_inj h1, bits_inj (by simpa using hl) h2]
theorem reg_ff (l : List UInt8) : reg 4294967295 l = (feed (4294967295#32) (bits l)).toNat := reg_feed l 4294967295#32
theorem crc_eq_iff {a b : List UInt8} : crc a = crc b ↔ feed (4294967295#32) (bits a) = feed (4294967295#32) (bits b) := by
  unfold crc
  rw [reg_ff, reg_ff]
  have h1 := (feed (4294967295#32) (bits a)).isLt
  have h2 := (feed (4294967295#32) (bits b)).isLt
  constructor
  · intro h; apply BitVec.eq_of_toNat_eq; omega
  · intro h; rw [h]
/-- behind two texts the same: one sum just if they had -/
theorem crc_goes_on (a b c : List UInt8) : crc (a ++ c) = crc (b ++ c) ↔ crc a = crc b := by
  rw [crc_eq_iff, crc_eq_iff, bits_append, bits_append, feed_append, feed_append]
  exact ⟨fun h => feed_inj _ h, fun h => by rw [h]⟩
/-- behind one text two of one length, of at most four bytes: one sum just if they are one -/
theorem crc_tail (a p q : List UInt8) (hl : p.length = q.length) (h4 : p.length ≤ 4) : crc (a ++ p) = crc (a ++ q) ↔ p = q := by
  rw [crc_eq_iff, bits_append, bits_append, feed_append, feed_append]
  constructor
  · intro h
    exact bits_inj hl (feed_tail_inj (by rw [bits_length, bits_length, hl]) (by rw [bits_length]; omega) h)
  · rintro rfl; rfl
def le4' (s : Nat) : List UInt8 := [UInt8.ofNat s, UInt8.ofNat (s / 256), UInt8.ofNat (s / 65536), UInt8.ofNat (s / 16777216)]
theorem bits_le4 (s : Nat) : bits (le4' s) = (List.range 32).map s.testBit := by
  have e : ∀ k, (UInt8.ofNat (s / 2 ^ (8 * k))).toNat.testBit = fun i => decide (i < 8) && s.testBit (8 * k + i) := by
    intro k
    funext i
    rw [UInt8.toNat_ofNat', Nat.testBit_mod_two_pow, Nat.testBit_div_two_pow, Nat.add_comm]
  have e0 := e 0
  have e1 := e 1
  have e2 := e 2
  have e3 := e 3
  simp only [Nat.mul_zero, Nat.pow_zero, Nat.div_one, Nat.zero_add] at e0
  have p1 : (2 : Nat) ^ (8 * 1) = 256 := by decide
  have p2 : (2 : Nat) ^ (8 * 2) = 65536 := by decide
  have p3 : (2 : Nat) ^ (8 * 3) = 16777216 := by decide
  rw [p1] at e1
  rw [p2] at e2
  rw [p3] at e3
  show bitsOf _ ++ (bitsOf _ ++ (bitsOf _ ++ (bitsOf _ ++ []))) = _
  unfold bitsOf
  rw [e0, e1, e2, e3]
  rfl
theorem crc_sealed (l : List UInt8) : crc (l ++ le4' (crc l)) = crc ([] ++ le4' (crc [])) := by
  have key : ∀ l, feed (4294967295#32) (bits (l ++ le4' (crc l))) = Tn 32 (4294967295#32) := by
    intro l
    have hR : crc l = 4294967295 - (feed (4294967295#32) (bits l)).toNat := by unfold crc; rw [reg_ff]
    rw [bits_append, feed_append]
    generalize feed (4294967295#32) (bits l) = R at hR ⊢
    have hlt := R.isLt
    have hb : bits (le4' (crc l)) = (List.range 32).map (BitVec.ofNat 32 (crc l)).getLsbD := by
      rw [bits_le4]
      apply List.map_congr_left
      intro i hi
      have : i < 32 := by simpa using hi
      rw [BitVec.getLsbD_ofNat]; simp [this]
    have hf := Tn_feed 32 R (BitVec.ofNat 32 (crc l))
    have z : BitVec.ofNat 32 (crc l) >>> 32 = 0#32 := by
      apply BitVec.eq_of_toNat_eq
      rw [BitVec.toNat_ushiftRight, Nat.shiftRight_eq_div_pow, Nat.div_eq_of_lt (BitVec.isLt _)]; rfl
    rw [z, BitVec.xor_zero, ← hb] at hf
    rw [← hf]
    congr 1
    have e : BitVec.ofNat 32 (crc l) = ~~~R := by
      apply BitVec.eq_of_toNat_eq
      rw [BitVec.toNat_not, BitVec.toNat_ofNat, hR]
      omega
    rw [e]
    apply BitVec.eq_of_getLsbD_eq
    intro i hi
    rw [BitVec.getLsbD_xor, BitVec.getLsbD_not]
    have h1 : (4294967295#32).getLsbD i = true := by revert i; decide
    rw [h1, decide_eq_true hi]
    cases R.getLsbD i <;> rfl
  rw [crc_eq_iff, key, key]
/-- what of that length is opened: what is sealed alone -/
theorem crc_one_for_all (l : List UInt8) (o : Nat) : crc (l ++ le4' o) = crc ([] ++ le4' (crc [])) ↔ le4' o = le4' (crc l) := by
  rw [← crc_sealed l, crc_tail l (le4' o) (le4' (crc l)) rfl (by simp [le4'])]
end Crc
end Go.Proofs.YtimgbemdkajemaaDoor
