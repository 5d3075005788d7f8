/- The walk of the law SumFar. -/
import Derived.Test.YtimgbemdkajemaaDoorLawOne
import Derived.Test.YtimgbemdkajemaaDoorLawSeals
import Derived.Test.YtimgbemdkajemaaDoorCrcFar
import Derived.BigQuiet
import Derived.Deep.QuietTactic
namespace Go.Proofs.YtimgbemdkajemaaDoor
open Go.RowKit Crc
theorem mask24 (n : Int) : ∃ A : Nat, A < 16777216 ∧ bits .and .i64 n 16777215 = (A : Int) := by
  refine ⟨((BitVec.ofInt 64 n) &&& (BitVec.ofInt 64 16777215)).toNat, ?_, ?_⟩
  · rw [BitVec.toNat_and]
    exact Nat.lt_of_le_of_lt Nat.and_le_right (by decide)
  · have hlt : ((BitVec.ofInt 64 n) &&& (BitVec.ofInt 64 16777215)).toNat < 16777216 := by
      rw [BitVec.toNat_and]
      exact Nat.lt_of_le_of_lt Nat.and_le_right (by decide)
    show IntKind.i64.wrap ((((BitVec.ofInt 64 n) &&& (BitVec.ofInt 64 16777215)).toNat : Nat) : Int) = _
    generalize ((BitVec.ofInt 64 n) &&& (BitVec.ofInt 64 16777215)).toNat = A at hlt ⊢
    exact IntWalk.i64_in _ (by omega)
def TurnRel (w : World) (v : Value) (n t K : Nat) (i : Value) (wr : World) : Prop :=
  ∃ (k : Nat) (lc : List UInt8), (k ≤ t ∧ K + k ≤ n) ∧ i = .int .i64 k ∧ Hid (lc.length = n ∧ OwnBytes w.heap.size wr v lc ∧ Below w.heap.size w wr)
theorem TurnRel.next {w wr : World} {g c n k j t z K : Nat} {lc : List UInt8} (hz : z < 256)
    (h : lc.length = n ∧ OwnBytes w.heap.size wr (.slice (some ⟨g, 0, none⟩) n c) lc ∧ Below w.heap.size w wr) (hk : k < t) (hk2 : K + k < n) :
    TurnRel w (.slice (some ⟨g, 0, none⟩) n c) n t K (.int .i64 ((k + 1 : Nat) : Int)) (wr.setCell ⟨g, j, none⟩ (.int .u8 (z : Int))).drew := by
  rw [byte_small z hz]
  have hb : Below w.heap.size w (wr.setCell ⟨g, j, none⟩ (byteV (UInt8.ofNat z))) := h.2.2.setCell (p := ⟨g, j, none⟩) (h.2.1.own g rfl) _
  exact ⟨k + 1, lc.set j (UInt8.ofNat z), ⟨by omega, by omega⟩, rfl, by rw [List.length_set]; exact h.1, (h.2.1.set h.1 _).kept (Below.refl _ _).drew (Nat.le_refl _), hb.drew⟩
/-- at which places two rows are unlike -/
def dif (xs ys : List UInt8) (p : Nat) : Bool := ((xs.getD (p / 8) 0).toNat ^^^ (ys.getD (p / 8) 0).toNat).testBit (p % 8)
theorem dif_at (xs ys : List UInt8) (k j : Nat) (hj : j < 8) : dif xs ys (8 * k + j) = ((xs.getD k 0).toNat ^^^ (ys.getD k 0).toNat).testBit j := by
  unfold dif
  have h1 : (8 * k + j) / 8 = k := by omega
  have h2 : (8 * k + j) % 8 = j := by omega
  rw [h1, h2]
theorem F_bounds (D : Nat → Bool) (p : Nat) : -1 ≤ F D p ∧ F D p ≤ p ∧ -1 ≤ La D p ∧ La D p ≤ p ∧ M D p ≤ p := by
  induction p with
  | zero => exact ⟨Int.le_refl _, show (-1 : Int) ≤ ((0 : Nat) : Int) by decide, Int.le_refl _, show (-1 : Int) ≤ ((0 : Nat) : Int) by decide, Nat.le_refl _⟩
  | succ p ih =>
    obtain ⟨h1, h2, h3, h4, h5⟩ := ih
    simp only [F, La, M]
    cases D p
    · simp; omega
    · simp only [if_true]
      split <;> omega
theorem exits {k K n t : Nat} (h : ¬ (k < t ∧ K + k < n)) : decide (k < t) = false ∨ (k < t ∧ decide ((K : Int) + (k : Int) < (n : Int)) = false ∧ decide (K + k < n) = false) := by
  by_cases h1 : k < t
  · exact .inr ⟨h1, decide_eq_false (by omega), decide_eq_false (by omega)⟩
  · exact .inl (decide_eq_false h1)
theorem skip (D : Nat → Bool) (p m : Nat) (h : ∀ j, j < m → D (p + j) = false) : F D (p + m) = F D p ∧ La D (p + m) = La D p ∧ M D (p + m) = M D p := by
  induction m with
  | zero => exact ⟨rfl, rfl, rfl⟩
  | succ m ih =>
    obtain ⟨h1, h2, h3⟩ := ih (fun j hj => h j (by omega))
    have hd := h m (by omega)
    have e : p + (m + 1) = (p + m) + 1 := rfl
    rw [e]
    refine ⟨?_, ?_, ?_⟩
    · simp [F, hd, h1]
    · simp [La, hd, h2]
    · simp [M, hd, h3]
theorem bits_range (l : List UInt8) : Crc.bits l = (List.range (8 * l.length)).map fun p => (l.getD (p / 8) 0).toNat.testBit (p % 8) := by
  induction l with
  | nil => rfl
  | cons b l ih =>
    show bitsOf b.toNat ++ Crc.bits l = _
    have e : 8 * (b :: l).length = 8 + 8 * l.length := by simp; omega
    rw [e, List.range_add, List.map_append, ih]
    congr 1
    rw [List.map_map]
    apply List.map_congr_left
    intro p _
    have h1 : (8 + p) / 8 = p / 8 + 1 := by omega
    have h2 : (8 + p) % 8 = p % 8 := by omega
    simp [h1, h2]
theorem dif_bit (xs ys : List UInt8) (p : Nat) : dif xs ys p = ((xs.getD (p / 8) 0).toNat.testBit (p % 8) ^^ (ys.getD (p / 8) 0).toNat.testBit (p % 8)) := by
  unfold dif; rw [Nat.testBit_xor]
theorem unlike {N : Nat} {D E : Nat → Bool} (h : (List.range N).map D ≠ (List.range N).map E) : ∃ p, p < N ∧ (D p ^^ E p) = true := by
  by_cases hx : ∃ p, p < N ∧ (D p ^^ E p) = true
  · exact hx
  · exfalso
    apply h
    apply List.map_congr_left
    intro p hp
    have hp' : p < N := by simpa using hp
    cases hd : D p <;> cases he : E p
    · rfl
    · exact absurd ⟨p, hp', by rw [hd, he]; rfl⟩ hx
    · exact absurd ⟨p, hp', by rw [hd, he]; rfl⟩ hx
    · rfl
theorem sealed_far (l c : List UInt8) (n : Nat) (hl : l.length = n) (hc : c.length = n) (hn : n ≤ 65536) (hne : l ≠ c) :
    4 ≤ M (dif (sealed l) (sealed c)) (8 * (n + 4)) ∧ 32 ≤ La (dif (sealed l) (sealed c)) (8 * (n + 4)) - F (dif (sealed l) (sealed c)) (8 * (n + 4)) := by
  have e1 : (sealed l).length = n + 4 := by rw [sealed_length, hl]
  have e2 : (sealed c).length = n + 4 := by rw [sealed_length, hc]
  have hbits : Crc.bits (sealed l) ≠ Crc.bits (sealed c) := fun hb =>
    hne (List.append_inj (show l ++ le4 (crc l) = c ++ le4 (crc c) from bits_inj (e1.trans e2.symm) hb) (hl.trans hc.symm)).1
  have h1 : crc (sealed l) = crc (sealed c) := (crc_sealed l).trans (crc_sealed c).symm
  rw [crc_eq_iff] at h1
  have hD := dif_bit (sealed l) (sealed c)
  obtain ⟨A, hA⟩ : ∃ A : Nat → Bool, (fun p => ((sealed l).getD (p / 8) 0).toNat.testBit (p % 8)) = A := ⟨_, rfl⟩
  obtain ⟨B, hB⟩ : ∃ B : Nat → Bool, (fun p => ((sealed c).getD (p / 8) 0).toNat.testBit (p % 8)) = B := ⟨_, rfl⟩
  rw [bits_range, bits_range, e1, e2, hA, hB] at h1 hbits
  have hDAB : ∀ p, dif (sealed l) (sealed c) p = (A p ^^ B p) := fun p => by rw [hD p, ← hA, ← hB]
  clear hD hA hB
  generalize dif (sealed l) (sealed c) = D at hDAB ⊢
  have hN : 8 * (n + 4) ≤ 524320 := by omega
  generalize 8 * (n + 4) = N at h1 hbits hN ⊢
  rw [feed_range, feed_range, ← xor_eq_zero, G_xor, BitVec.xor_self] at h1
  have hz : G D 0#32 N = 0#32 := (G_congr 0#32 N (fun p _ => hDAB p)).trans h1
  obtain ⟨p, hp, hx⟩ := unlike hbits
  exact far D N hN hz ⟨p, hp, by rw [hDAB]; exact hx⟩
def FarRel (D : Nat → Bool) (n4 : Nat) (w3 : World) (t12 t13 t14 t15 : Value) (wr : World) : Prop :=
  ∃ k : Nat, k ≤ n4 ∧ t15 = .int .i64 k ∧ t12 = .int .i64 (F D (8 * k)) ∧ t13 = .int .i64 (La D (8 * k)) ∧ t14 = .int .i64 (M D (8 * k) : Nat) ∧ Hid (Below w3.heap.size w3 wr)
def FarRel2 (D : Nat → Bool) (k : Nat) (w3 : World) (t12 t13 t14 t16 : Value) (wr : World) : Prop :=
  ∃ j : Nat, j ≤ 8 ∧ t16 = .int .i64 j ∧ t12 = .int .i64 (F D (8 * k + j)) ∧ t13 = .int .i64 (La D (8 * k + j)) ∧ t14 = .int .i64 (M D (8 * k + j) : Nat) ∧ Hid (Below w3.heap.size w3 wr)
def FarRel0 (f la : Int) (m : Nat) (w3 : World) (t12 t13 t14 t16 : Value) (wr : World) : Prop :=
  t16 = .int .i64 0 ∧ t12 = .int .i64 f ∧ t13 = .int .i64 la ∧ t14 = .int .i64 m ∧ Hid (Below w3.heap.size w3 wr)
set_option maxHeartbeats 4000000 in
theorem sumFar_any (v vt : Value) (l t : List UInt8) (at_ : Int) (w : World) (hT : Tabs w) (hp : BytesAt w v l) (hpt : BytesAt w vt t) :
    Calls Tryd.prog 7 #[v, vt, .int .i64 at_] w fun e w' => e = .returned (.bool true) ∧ Below w.heap.size w w' := by
  have HT := Lib.hid hT
  have HP := Lib.hid hp
  have HPT := Lib.hid hpt
  obtain ⟨a, cap, rfl, hlen, hcb⟩ := hp.form
  obtain ⟨b, capt, rfl, hlent, hct⟩ := hpt.form
  unfold maxLen at hlen hlent
  have HCB := Lib.hid hcb
  have HCT := Lib.hid hct
  clear hT hp hpt hcb hct
  by_cases hbig : 65536 < l.length
  · go_enter Tryd.func7, Tryd.ntmps7
    go_wp2_with (go_at_call 8; refine (awake_any _ HT.out).mono ?_; rintro e w1 ⟨rfl, hb⟩; have HB := Lib.hid hb; clear hb)
    go_ret
    exact ⟨rfl, HB.out⟩
  by_cases hnil : l.length = 0
  · go_enter Tryd.func7, Tryd.ntmps7
    go_wp2_with (go_at_call 8; refine (awake_any _ HT.out).mono ?_; rintro e w1 ⟨rfl, hb⟩; have HB := Lib.hid hb; clear hb)
    go_ret
    exact ⟨rfl, HB.out⟩
  obtain ⟨n, hn⟩ : ∃ n, l.length = n := ⟨_, rfl⟩
  have HN := Lib.hid hn
  rw [hn] at hlen hbig hnil HP HCB ⊢
  have hpos : 1 ≤ n := by omega
  have hzero : ((n : Int) == 0) = false := by simp; omega
  obtain ⟨A, hA, hand⟩ := mask24 at_
  have hK : A % n < n := Nat.mod_lt _ (by omega)
  obtain ⟨K, hKe⟩ : ∃ K : Nat, A % n = K := ⟨_, rfl⟩
  rw [hKe] at hK
  have hrem : (A : Int) % (n : Int) = (K : Int) := by rw [← hKe]; rfl
  clear hKe hn hnil
  have hbd0 : decide ((65536 : Int) < (n : Int)) = false := decide_eq_false (by omega)
  go_enter Tryd.func7, Tryd.ntmps7
  go_wp2_with (first | (at_builtin; refine wpList_append_bytes rfl (.tmp 26) (.tmp 27) rfl w.heap.size _ _ _ l rfl rfl (own_empty w) (HP.out.below ((Below.refl _ _).alloc (Nat.le_refl _) _) (Nat.le_refl _)) (by rw [HN.out]; simp; omega) (by simp) ?_; intro v1 w1 hown1 hgrow1; have HO1 : Hid (OwnBytes w.heap.size w1 v1 l) := hown1; have HB1 : Hid (Below w.heap.size w w1) := ((Below.refl _ _).alloc (Nat.le_refl _) _).grown hgrow1 (by simp) (own_empty w).own; clear hown1 hgrow1; obtain ⟨g, c1, rfl⟩ := Go.Joins.ownsRow_form HO1.out (by rw [HN.out]; omega); rw [HN.out] at HO1))
  rw [hrem, HN.out]
  have H1 : Hid (TurnRel w (.slice (some ⟨g, 0, none⟩) n c1) n t.length K (.int .i64 0) w1) := ⟨0, l, ⟨Nat.zero_le _, by omega⟩, rfl, HN.out, HO1.out, HB1.out⟩
  clear hand hrem hzero HO1 HB1
  go_loopw [9] (fun i wr => TurnRel w (.slice (some ⟨g, 0, none⟩) n c1) n t.length K i wr) (fun i _ => t.length - (intOf i).toNat)
  case atStart => exact H1.out
  case round =>
    obtain ⟨k, lc, ⟨hk, hkn⟩, rfl, HL⟩ := hrel
    by_cases hgo : k < t.length ∧ K + k < n
    · obtain ⟨hgo, hgo2⟩ := hgo
      obtain ⟨hc, hf⟩ := HL.out.2.1.cell HL.out.1 hgo2
      obtain ⟨bt, off, rfl, hbt, hct⟩ := HCT.out (by omega)
      have ht := hct k hgo
      rw [← HL.out.2.2.cell (p := ⟨bt, off + k, none⟩) hbt] at ht
      obtain ⟨X, hX⟩ : ∃ X : Nat, (lc.getD (K + k) 0).toNat = X := ⟨_, rfl⟩
      have hX8 : X < 256 := by rw [← hX]; exact (lc.getD (K + k) 0).toNat_lt
      obtain ⟨Y, hY⟩ : ∃ Y : Nat, (t.getD k 0).toNat = Y := ⟨_, rfl⟩
      have hY8 : Y < 256 := by rw [← hY]; exact (t.getD k 0).toNat_lt
      rw [hX] at hc
      rw [hY] at ht
      clear hX hY hct
      have hxor : bits .xor .u8 (X : Int) (Y : Int) = ((X ^^^ Y : Nat) : Int) := u8_xor_nat X Y hX8 hY8
      have hZ : X ^^^ Y < 256 := Nat.xor_lt_two_pow (n := 8) hX8 hY8
      generalize X ^^^ Y = Z at hxor hZ
      have HR := Lib.hid (TurnRel.next (j := K + k) hZ HL.out hgo hgo2)
      go_wp2
      go_region
      go_wp2
      go_roundw
      case rel => exact HR.out
      case measure => simp [intOf]; omega
    · have HO : Hid (OwnBytes w.heap.size wr (.slice (some ⟨g, 0, none⟩) n c1) lc) := HL.out.2.1
      have HB : Hid (Below w.heap.size w wr) := HL.out.2.2
      have HC : Hid (lc.length = n) := HL.out.1
      clear HL
      have hsb := string_bytes (HP.out.below HB.out (Nat.le_refl _))
      have hsc := string_bytes HO.out.bytesAt
      obtain ⟨wo, rfl⟩ : ∃ wo : World, wo = wr := ⟨_, rfl⟩
      by_cases hEq : l = lc
      · subst hEq
        generalize (⟨l.toArray⟩ : ByteArray) = sl at hsb hsc
        rcases exits hgo with h1 | ⟨h1, h2, h3⟩
        all_goals clear hgo
        all_goals
          go_wp2_with (go_at_call 8; refine (awake_any _ (HT.out.below HB.out (Nat.le_refl _))).mono ?_; rintro e w9 ⟨rfl, hb⟩; have HB9 : Hid (Below w.heap.size w w9) := HB.out.trans (hb.mono HB.out.size); clear hb)
          go_ret
          exact ⟨rfl, HB9.out⟩
      · have hne := strs_ne hEq
        have HE := Lib.hid hEq
        clear hEq
        generalize (⟨l.toArray⟩ : ByteArray) = sl at hsb hne
        generalize (⟨lc.toArray⟩ : ByteArray) = sc at hsc hne
        rcases exits hgo with h1 | ⟨h1, h2, h3⟩
        all_goals clear hgo
        all_goals
          go_wp2_with fail
          refine (seal_any _ l _ (HT.out.below HB.out (Nat.le_refl _)) (HP.out.below HB.out (Nat.le_refl _)) (by rw [HN.out]; omega)).mono ?_
          rintro e w2 ⟨v2, rfl, hown, hb⟩
          have HB2 : Hid (Below w.heap.size w w2) := HB.out.trans (hb.mono HB.out.size)
          have HO2 : Hid (OwnBytes w.heap.size w2 (.slice (some ⟨g, 0, none⟩) n c1) lc) := HO.out.kept hb (Nat.le_refl _)
          obtain ⟨gx, cx, rfl⟩ := Go.Joins.ownsRow_form hown (by simp [sealed, le4])
          rw [sealed_length, HN.out] at hown ⊢
          have HX2 : Hid (OwnBytes wo.heap.size w2 (.slice (some ⟨gx, 0, none⟩) (n + 4) cx) (sealed l)) := hown
          clear hown hb HO HB hsb hsc hne
          go_wp2_with fail
          refine (seal_any _ lc _ (HT.out.below HB2.out (Nat.le_refl _)) HO2.out.bytesAt (by rw [HC.out]; omega)).mono ?_
          rintro e w3 ⟨v3, rfl, hown, hb⟩
          have HB3 : Hid (Below w.heap.size w w3) := HB2.out.trans (hb.mono HB2.out.size)
          have HX3 : Hid (OwnBytes wo.heap.size w3 (.slice (some ⟨gx, 0, none⟩) (n + 4) cx) (sealed l)) := HX2.out.kept hb (Nat.le_refl _)
          obtain ⟨gy, cy, rfl⟩ := Go.Joins.ownsRow_form hown (by simp [sealed, le4])
          rw [sealed_length, HC.out] at hown ⊢
          have HY3 : Hid (OwnBytes w2.heap.size w3 (.slice (some ⟨gy, 0, none⟩) (n + 4) cy) (sealed lc)) := hown
          clear hown hb HX2 HO2 HB2
          have HGX : Hid (gx < w3.heap.size) := (World.ownsRow.lt HX3.out gx rfl).2
          have HGY : Hid (gy < w3.heap.size) := (World.ownsRow.lt HY3.out gy rfl).2
          have HFAR := Lib.hid (sealed_far l lc n HN.out HC.out (by omega) HE.out)
          have HDA := Lib.hid (fun k j hj => dif_at (sealed l) (sealed lc) k j hj)
          generalize dif (sealed l) (sealed lc) = D at HFAR HDA
          go_wp2
          go_loopw [12, 13, 14, 15] (fun a b c d wr => FarRel D (n + 4) w3 a b c d wr) (fun _ _ _ d _ => n + 4 - (intOf d).toNat)
          case atStart => exact ⟨0, Nat.zero_le _, rfl, rfl, rfl, rfl, Below.refl _ _⟩
          case round =>
            obtain ⟨i, hi, rfl, rfl, rfl, rfl, HL⟩ := hrel
            by_cases hlt : i < n + 4
            · obtain ⟨X, hX⟩ : ∃ X : Nat, ((sealed l).getD i 0).toNat = X := ⟨_, rfl⟩
              have hX8 : X < 256 := by rw [← hX]; exact ((sealed l).getD i 0).toNat_lt
              obtain ⟨Y, hY⟩ : ∃ Y : Nat, ((sealed lc).getD i 0).toNat = Y := ⟨_, rfl⟩
              have hY8 : Y < 256 := by rw [← hY]; exact ((sealed lc).getD i 0).toNat_lt
              have HCX : Hid (∀ W, Below w3.heap.size w3 W → W.cell? ⟨gx, i, none⟩ = some (.int .u8 (X : Int))) := fun W hW => by
                rw [hW.cell (p := ⟨gx, i, none⟩) HGX.out, ← hX]; exact (HX3.out.cell (by rw [sealed_length, HN.out]) hlt).1
              have HCY : Hid (∀ W, Below w3.heap.size w3 W → W.cell? ⟨gy, i, none⟩ = some (.int .u8 (Y : Int))) := fun W hW => by
                rw [hW.cell (p := ⟨gy, i, none⟩) HGY.out, ← hY]; exact (HY3.out.cell (by rw [sealed_length, HC.out]) hlt).1
              have HD : Hid (∀ j, j < 8 → D (8 * i + j) = (X ^^^ Y).testBit j) := fun j hj => by
                have := HDA.out i j hj; rw [hX, hY] at this; exact this
              clear hX hY
              have hi1 : (0 : Int) ≤ (i : Int) := by omega
              have hid : decide ((i : Int) < (n : Int) + 4) = true := decide_eq_true (by omega)
              have hi2 : (i : Int) < ((n + 4 : Nat) : Int) := by omega
              obtain ⟨wo2, rfl⟩ : ∃ wo2 : World, wo2 = wr := ⟨_, rfl⟩
              by_cases hXY : X = Y
              · have HS : Hid (F D (8 * (i + 1)) = F D (8 * i) ∧ La D (8 * (i + 1)) = La D (8 * i) ∧ M D (8 * (i + 1)) = M D (8 * i)) :=
                  skip D (8 * i) 8 (fun j hj => by rw [HD.out j hj, hXY, Nat.xor_self]; simp)
                subst hXY
                generalize F D (8 * i) = fv at HS ⊢
                generalize La D (8 * i) = lv at HS ⊢
                generalize M D (8 * i) = mv at HS ⊢
                go_wp2
                go_loopw [12, 13, 14, 16] (fun a b c d wr => FarRel0 fv lv mv w3 a b c d wr) (fun _ _ _ _ _ => 0)
                case atStart => exact ⟨rfl, rfl, rfl, rfl, HL.out⟩
                case round =>
                  obtain ⟨rfl, rfl, rfl, rfl, HL2⟩ := hrel
                  have hcx := HCX.out _ HL2.out
                  have hcy := HCY.out _ HL2.out
                  go_wp2_with fail
                  go_quiet (fail)
                  go_wp2
                  go_roundw
                  case rel => exact ⟨i + 1, by omega, by go_num, by rw [HS.out.1], by rw [HS.out.2.1], by rw [HS.out.2.2], HL2.out.trans (Go.Joins.below_draws _ _ _)⟩
                  case measure => simp [intOf]; omega
              · have hxyn : ((X : Int) != (Y : Int)) = true := by simp; omega
                have hxor : bits .xor .u8 (X : Int) (Y : Int) = ((X ^^^ Y : Nat) : Int) := u8_xor_nat X Y hX8 hY8
                have hZ : X ^^^ Y < 256 := Nat.xor_lt_two_pow (n := 8) hX8 hY8
                generalize X ^^^ Y = Z at hxor hZ HD
                have HXY := Lib.hid hXY
                clear hXY
                have H2 : Hid (FarRel2 D i w3 (.int .i64 (F D (8 * i))) (.int .i64 (La D (8 * i))) (.int .i64 (M D (8 * i) : Nat)) (.int .i64 0) wo2) := ⟨0, Nat.zero_le _, rfl, rfl, rfl, rfl, HL.out⟩
                go_wp2
                go_loopw [12, 13, 14, 16] (fun a b c d wr => FarRel2 D i w3 a b c d wr) (fun _ _ _ d _ => 8 - (intOf d).toNat)
                case atStart => exact H2.out
                case round =>
                  obtain ⟨j, hj, rfl, rfl, rfl, rfl, HL2⟩ := hrel
                  have hcx := HCX.out _ HL2.out
                  have hcy := HCY.out _ HL2.out
                  by_cases hj8 : j < 8
                  · have hj8i : (j : Int) < 8 := by omega
                    have hj8d : decide ((j : Int) < 8) = true := decide_eq_true hj8i
                    have hbd := F_bounds D (8 * i + j)
                    have hcx2 : ∀ m, (wr.drewN m).cell? ⟨gx, i, none⟩ = some (.int .u8 (X : Int)) := fun m => HCX.out _ (HL2.out.trans (Go.Joins.below_draws _ _ m))
                    have hcy2 : ∀ m, (wr.drewN m).cell? ⟨gy, i, none⟩ = some (.int .u8 (Y : Int)) := fun m => HCY.out _ (HL2.out.trans (Go.Joins.below_draws _ _ m))
                    obtain ⟨q, hq⟩ : ∃ q : Nat, Z / 2 ^ j = q := ⟨_, rfl⟩
                    have hsh : binOp .shr 5 (.int .u8 (Z : Int)) (.int .i64 (j : Int)) = pure (.int .u8 (q : Int)) := by
                      show Op.shift .shr .u8 Z .i64 j = _
                      rw [shift_shr .u8 .i64 Z j (by omega) (by simp [IntKind.bits]; omega), ← hq]
                      simp
                    have hq8 : q < 256 := by rw [← hq]; exact Nat.lt_of_le_of_lt (Nat.div_le_self _ _) hZ
                    have hand : bits .and .u8 (q : Int) 1 = ((q % 2 : Nat) : Int) := by
                      have := u8_and_nat q 1 hq8 (by decide); rw [nat_mask1] at this; exact this
                    have HDj : Hid (D (8 * i + j) = decide (q % 2 = 1)) := by
                      show _ = _
                      rw [HD.out j hj8, Nat.testBit_eq_decide_div_mod_eq, hq]
                    clear hq
                    have hq2 : q % 2 < 2 := Nat.mod_lt _ (by omega)
                    generalize q % 2 = r at hand HDj hq2
                    have hFs : Hid (F D (8 * i + (j + 1)) = if D (8 * i + j) then (if F D (8 * i + j) < 0 then ((8 * i + j : Nat) : Int) else F D (8 * i + j)) else F D (8 * i + j)) := rfl
                    have hLs : Hid (La D (8 * i + (j + 1)) = if D (8 * i + j) then ((8 * i + j : Nat) : Int) else La D (8 * i + j)) := rfl
                    have hMs : Hid (M D (8 * i + (j + 1)) = M D (8 * i + j) + (if D (8 * i + j) then 1 else 0)) := rfl
                    rw [HDj.out] at hFs hLs hMs
                    generalize F D (8 * i + j) = fv at hFs hbd ⊢
                    generalize La D (8 * i + j) = lv at hLs hbd ⊢
                    generalize M D (8 * i + j) = mv at hMs hbd ⊢
                    obtain ⟨hb1, hb2, hb3, hb4, hb5⟩ := hbd
                    rcases (by omega : r = 1 ∨ r = 0) with rfl | rfl
                    · by_cases hneg : fv < 0
                      · have HF : Hid (F D (8 * i + (j + 1)) = ((8 * i + j : Nat) : Int)) := by show _ = _; rw [hFs.out, if_pos (by simp), if_pos hneg]
                        have HLa : Hid (La D (8 * i + (j + 1)) = ((8 * i + j : Nat) : Int)) := by show _ = _; rw [hLs.out, if_pos (by simp)]
                        have HM : Hid (M D (8 * i + (j + 1)) = mv + 1) := by show _ = _; rw [hMs.out, if_pos (by simp)]
                        clear hFs hLs hMs
                        go_wp2_with fail
                        go_quiet (fail)
                        go_wp2_with fail
                        go_quiet (fail)
                        go_wp2
                        go_roundw
                        case rel => exact ⟨j + 1, by omega, by go_num, by rw [HF.out]; go_num, by rw [HLa.out]; go_num, by rw [HM.out]; go_num, HL2.out.trans (Go.Joins.below_draws _ _ _)⟩
                        case measure => simp [intOf]; omega
                      · have HF : Hid (F D (8 * i + (j + 1)) = fv) := by show _ = _; rw [hFs.out, if_pos (by simp), if_neg hneg]
                        have HLa : Hid (La D (8 * i + (j + 1)) = ((8 * i + j : Nat) : Int)) := by show _ = _; rw [hLs.out, if_pos (by simp)]
                        have HM : Hid (M D (8 * i + (j + 1)) = mv + 1) := by show _ = _; rw [hMs.out, if_pos (by simp)]
                        clear hFs hLs hMs
                        go_wp2_with fail
                        go_quiet (fail)
                        go_wp2_with fail
                        go_quiet (fail)
                        go_wp2
                        go_roundw
                        case rel => exact ⟨j + 1, by omega, by go_num, by rw [HF.out], by rw [HLa.out]; go_num, by rw [HM.out]; go_num, HL2.out.trans (Go.Joins.below_draws _ _ _)⟩
                        case measure => simp [intOf]; omega
                    · have HF : Hid (F D (8 * i + (j + 1)) = fv) := by show _ = _; rw [hFs.out, if_neg (by simp)]
                      have HLa : Hid (La D (8 * i + (j + 1)) = lv) := by show _ = _; rw [hLs.out, if_neg (by simp)]
                      have HM : Hid (M D (8 * i + (j + 1)) = mv) := by show _ = _; rw [hMs.out, if_neg (by simp)]; rfl
                      clear hFs hLs hMs
                      go_wp2_with fail
                      go_quiet (fail)
                      go_wp2_with fail
                      go_quiet (fail)
                      go_wp2
                      go_roundw
                      case rel => exact ⟨j + 1, by omega, by go_num, by rw [HF.out], by rw [HLa.out], by rw [HM.out], HL2.out.trans (Go.Joins.below_draws _ _ _)⟩
                      case measure => simp [intOf]; omega
                  · obtain rfl : j = 8 := by omega
                    have HLL := Lib.hid HL2.out
                    have hj8d : decide (((8 : Nat) : Int) < 8) = false := by decide
                    go_wp2_with fail
                    go_quiet (fail)
                    go_wp2
                    go_roundw
                    case rel => exact ⟨i + 1, by omega, by go_num, rfl, rfl, rfl, HLL.out.trans (Go.Joins.below_draws _ _ _)⟩
                    case measure => simp [intOf]; omega
            · obtain rfl : i = n + 4 := by omega
              have hbd := F_bounds D (8 * (n + 4))
              have hfar := HFAR.out
              have HLL : Hid (Below w.heap.size w wr) := HB3.out.trans (HL.out.mono HB3.out.size)
              generalize F D (8 * (n + 4)) = fv at hbd hfar ⊢
              generalize La D (8 * (n + 4)) = lv at hbd hfar ⊢
              generalize M D (8 * (n + 4)) = mv at hbd hfar ⊢
              obtain ⟨hb1, hb2, hb3, hb4, hb5⟩ := hbd
              obtain ⟨hf1, hf2⟩ := hfar
              have hf1' : decide ((4 : Int) ≤ (mv : Int)) = true := decide_eq_true (by omega)
              have hf2' : decide ((32 : Int) ≤ lv - fv) = true := decide_eq_true hf2
              go_wp2_with (go_at_call 8; refine (awake_any _ (HT.out.below HLL.out (Nat.le_refl _))).mono ?_; rintro e w9 ⟨rfl, hb⟩; have HB9 : Hid (Below w.heap.size w w9) := HLL.out.trans (hb.mono HLL.out.size); clear hb)
              go_ret
              exact ⟨rfl, HB9.out⟩
end Go.Proofs.YtimgbemdkajemaaDoor
