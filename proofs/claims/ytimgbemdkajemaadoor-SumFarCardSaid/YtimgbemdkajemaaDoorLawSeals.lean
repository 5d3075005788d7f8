/- The walk of the law SumSeals. -/
import Derived.Test.YtimgbemdkajemaaDoorRefOpen
import Derived.Lib.ConvBytes
namespace Go.Proofs.YtimgbemdkajemaaDoor
open Go.RowKit Crc
theorem conv_to_bytes (w : World) (l : List UInt8) (hl : l.length ≤ maxLen) : ∃ v W, (convert 9 23 (.string ⟨l.toArray⟩)).run Tryd.prog w = .ok v W ∧ BytesAt W v l ∧ Below w.heap.size w W := by
  refine ⟨_, _, Lib.run_convert_string_bytes w 9 23 5 ⟨l.toArray⟩ Tryd.underlying9 Tryd.underlying23 Tryd.underlying5, ?_, ?_⟩
  · have hs : (⟨l.toArray⟩ : ByteArray).size = l.length := by simp [ByteArray.size]
    rw [hs]
    refine BytesAt.mk' w.heap.size 0 _ ⟨hl, grownCap_ge _ _ _ _⟩ (fun _ => by rw [Lib.bytesWorld_size]; omega) fun j hj => ?_
    rw [Nat.zero_add, Lib.bytesWorld_cell w 5 ⟨l.toArray⟩ j (by rw [hs]; exact hj)]
  · exact ⟨rfl, rfl, rfl, by rw [Lib.bytesWorld_size]; omega, fun k hk => Lib.bytesWorld_at_old w 5 _ k hk⟩
/-- what is opened -/
def openTo (l : List UInt8) : Option (List UInt8) := if 4 ≤ l.length ∧ l = sealed (l.take (l.length - 4)) then some (l.take (l.length - 4)) else none
theorem split4 (l : List UInt8) (h : 4 ≤ l.length) : ∃ y0 y1 y2 y3, l = l.take (l.length - 4) ++ [y0, y1, y2, y3] := by
  have hd : (l.drop (l.length - 4)).length = 4 := by simp; omega
  match hx : l.drop (l.length - 4), hd with
  | [y0, y1, y2, y3], _ => exact ⟨y0, y1, y2, y3, by rw [← hx, List.take_append_drop]⟩
theorem open_all (v : Value) (l : List UInt8) (w : World) (hT : Tabs w) (hp : BytesAt w v l) (hsmall : l.length ≤ 70000) :
    (∀ m, openTo l = some m → Calls Tryd.prog 13 #[v] w (Opens w m) ∧ Calls Tryd.prog 14 #[v] w (Opens w m)) ∧ (openTo l = none → Calls Tryd.prog 13 #[v] w (Refuses w) ∧ Calls Tryd.prog 14 #[v] w (Refuses w)) := by
  by_cases h4 : 4 ≤ l.length
  · obtain ⟨y0, y1, y2, y3, hl⟩ := split4 l h4
    generalize hm : l.take (l.length - 4) = m at hl
    have hml : m.length ≤ 70000 := by rw [← hm]; simp; omega
    have hp' : BytesAt w v (m ++ [y0, y1, y2, y3]) := by rw [← hl]; exact hp
    have hiff : l = sealed m ↔ [y0, y1, y2, y3] = le4 (crc m) := by
      constructor
      · intro h; exact List.append_cancel_left (show m ++ [y0, y1, y2, y3] = m ++ le4 (crc m) by rw [← hl]; exact h)
      · intro h; rw [hl, h]; rfl
    unfold openTo
    rw [hm]
    constructor
    · intro m' h
      by_cases hs : l = sealed m
      · rw [if_pos ⟨h4, hs⟩] at h
        cases h
        have ht : true = decide ([y0, y1, y2, y3] = le4 (crc m)) := (decide_eq_true (hiff.1 hs)).symm
        exact ⟨(open_long v m y0 y1 y2 y3 w hT hp' hml true ht).mono fun _ _ h => h.1 rfl, (refOpen_long v m y0 y1 y2 y3 w hp' hml true ht).mono fun _ _ h => h.1 rfl⟩
      · rw [if_neg (fun h => hs h.2)] at h; cases h
    · intro h
      by_cases hs : l = sealed m
      · rw [if_pos ⟨h4, hs⟩] at h; cases h
      · have hf : false = decide ([y0, y1, y2, y3] = le4 (crc m)) := (decide_eq_false (fun e => hs (hiff.2 e))).symm
        exact ⟨(open_long v m y0 y1 y2 y3 w hT hp' hml false hf).mono fun _ _ h => h.2 rfl, (refOpen_long v m y0 y1 y2 y3 w hp' hml false hf).mono fun _ _ h => h.2 rfl⟩
  · constructor
    · intro m h
      unfold openTo at h
      rw [if_neg (fun h => h4 h.1)] at h; cases h
    · intro _
      exact ⟨open_short v l w hp (by omega), refOpen_short v l w hp (by omega)⟩
theorem openTo_small {l m : List UInt8} (h : openTo l = some m) : m.length ≤ l.length := by
  unfold openTo at h
  split at h
  · cases h; simp
  · cases h
/-- the loops over what was answered: each byte is turned, in the call's own memory -/
def IncRel (w : World) (base : Nat) (vx : Value) (n : Nat) (v2 : Value) (lv : List UInt8) (i : Value) (wr : World) : Prop :=
  ∃ (k : Nat) (lx : List UInt8), k ≤ n ∧ i = .int .i64 k ∧ Hid (lx.length = n ∧ OwnBytes w.heap.size wr vx lx ∧ OwnBytes base wr v2 lv ∧ Below w.heap.size w wr)
def IncRel2 (w : World) (v2 : Value) (n : Nat) (i : Value) (wr : World) : Prop :=
  ∃ (k : Nat) (lx : List UInt8), k ≤ n ∧ i = .int .i64 k ∧ Hid (lx.length = n ∧ OwnBytes w.heap.size wr v2 lx ∧ Below w.heap.size w wr)
theorem OwnBytes.set {base : Nat} {w : World} {g n cap k : Nat} {l : List UInt8} (h : OwnBytes base w (.slice (some ⟨g, 0, none⟩) n cap) l) (hn : l.length = n) (b : UInt8) :
    OwnBytes base (w.setCell ⟨g, k, none⟩ (byteV b)) (.slice (some ⟨g, 0, none⟩) n cap) (l.set k b) := by
  subst hn
  have := (World.ownsRow.stored h k (byteV b)).1
  unfold OwnBytes
  rw [List.length_set, List.map_set]
  exact this
theorem OwnBytes.cell {base : Nat} {w : World} {g n cap k : Nat} {l : List UInt8} (h : OwnBytes base w (.slice (some ⟨g, 0, none⟩) n cap) l) (hn : l.length = n) (hk : k < n) :
    w.cell? ⟨g, k, none⟩ = some (.int .u8 ((l.getD k 0).toNat : Int)) ∧ w.frozen? ⟨g, k, none⟩ = false := by
  subst hn
  exact ⟨by rw [World.ownsRow.cellAt h k (by omega)]; exact getD_cell l k hk, World.ownsRow.frozenAt h k⟩
theorem IncRel.next {w wr : World} {base g c n k : Nat} {v2 : Value} {lv lx : List UInt8} (b : UInt8) (hg : g < base)
    (h : lx.length = n ∧ OwnBytes w.heap.size wr (.slice (some ⟨g, 0, none⟩) n c) lx ∧ OwnBytes base wr v2 lv ∧ Below w.heap.size w wr) (hk : k < n) :
    IncRel w base (.slice (some ⟨g, 0, none⟩) n c) n v2 lv (.int .i64 ((k + 1 : Nat) : Int)) (wr.setCell ⟨g, k, none⟩ (byteV b)) :=
  ⟨k + 1, lx.set k b, by omega, rfl, by rw [List.length_set]; exact h.1, h.2.1.set h.1 b, ownsRow_setCell_below h.2.2.1 (a := ⟨g, k, none⟩) hg _, h.2.2.2.setCell (p := ⟨g, k, none⟩) (h.2.1.own g rfl) _⟩
theorem IncRel2.next {w wr : World} {g c n k : Nat} {lx : List UInt8} (b : UInt8)
    (h : lx.length = n ∧ OwnBytes w.heap.size wr (.slice (some ⟨g, 0, none⟩) n c) lx ∧ Below w.heap.size w wr) (hk : k < n) :
    IncRel2 w (.slice (some ⟨g, 0, none⟩) n c) n (.int .i64 ((k + 1 : Nat) : Int)) (wr.setCell ⟨g, k, none⟩ (byteV b)) :=
  ⟨k + 1, lx.set k b, by omega, rfl, by rw [List.length_set]; exact h.1, h.2.1.set h.1 b, h.2.2.setCell (p := ⟨g, k, none⟩) (h.2.1.own g rfl) _⟩
set_option maxHeartbeats 2000000 in
theorem sumSeals_any (v : Value) (l : List UInt8) (w : World) (hT : Tabs w) (hp : BytesAt w v l) :
    Calls Tryd.prog 4 #[v] w fun e w' => e = .returned (.bool true) ∧ Below w.heap.size w w' := by
  have HT := Lib.hid hT
  have HP := Lib.hid hp
  obtain ⟨a, cap, rfl, hlen, _⟩ := hp.form
  unfold maxLen at hlen
  clear hT hp
  by_cases hbig : 20000 < l.length
  · go_enter Tryd.func4, Tryd.ntmps4
    go_wp2_with (go_at_call 8; refine (awake_any _ HT.out).mono ?_; rintro e w1 ⟨rfl, hb⟩; have HB := Lib.hid hb; clear hb)
    go_ret
    exact ⟨rfl, HB.out⟩
  · have hs0 := string_bytes HP.out
    obtain ⟨S, hS⟩ : ∃ S : ByteArray, (⟨l.toArray⟩ : ByteArray) = S := ⟨_, rfl⟩
    have HS := Lib.hid hS
    rw [hS] at hs0
    clear hS
    go_enter Tryd.func4, Tryd.ntmps4
    go_wp2_with fail
    refine (seal_any _ l _ HT.out HP.out (by omega)).mono ?_
    rintro e w1 ⟨v1, rfl, hown, hb⟩
    have HB1 := Lib.hid hb
    obtain ⟨g, c1, rfl⟩ := Go.Joins.ownsRow_form hown (by simp [sealed, le4])
    rw [sealed_length] at hown ⊢
    have HX1 : Hid (OwnBytes w.heap.size w1 (.slice (some ⟨g, 0, none⟩) (l.length + 4) c1) (sealed l)) := hown
    obtain ⟨v2, w2, hcv, hb2, hbel⟩ := conv_to_bytes w1 l (by unfold maxLen; omega)
    rw [HS.out] at hcv
    have HB2 : Hid (Below w.heap.size w w2) := HB1.out.trans (hbel.mono HB1.out.size)
    have HX2 : Hid (OwnBytes w.heap.size w2 (.slice (some ⟨g, 0, none⟩) (l.length + 4) c1) (sealed l)) := HX1.out.kept hbel (Nat.le_refl _)
    have HV2 := Lib.hid hb2
    have HG : Hid (g < w1.heap.size) := (World.ownsRow.lt HX1.out g rfl).2
    have HG2 : Hid (w1.heap.size ≤ w2.heap.size) := hbel.size
    clear hown hb hb2 hbel hs0
    go_wp2_with fail
    refine (refSeal_any _ l _ HV2.out (by omega)).mono ?_
    rintro e w3 ⟨v3, rfl, hown, hb⟩
    have HB3 : Hid (Below w.heap.size w w3) := HB2.out.trans (hb.mono HB2.out.size)
    have HX3 : Hid (OwnBytes w.heap.size w3 (.slice (some ⟨g, 0, none⟩) (l.length + 4) c1) (sealed l)) := HX2.out.kept hb (Nat.le_refl _)
    have HY3 : Hid (BytesAt w3 v3 (sealed l)) := hown.bytesAt
    have HG3 : Hid (g < w3.heap.size) := Nat.lt_of_lt_of_le HG.out (Nat.le_trans HG2.out hb.size)
    clear hown hb hcv HB1 HB2 HX1 HX2 HV2 HG HG2
    cases hopen : openTo l with
    | none =>
      have HO := Lib.hid hopen
      clear hopen
      go_wp2_with fail
      refine (((open_all _ l _ (HT.out.below HB3.out (Nat.le_refl _)) (HP.out.below HB3.out (Nat.le_refl _)) (by omega)).2 HO.out).1).mono ?_
      rintro e w4 ⟨rfl, hb⟩
      have HB4 : Hid (Below w.heap.size w w4) := HB3.out.trans (hb.mono HB3.out.size)
      have HX4 : Hid (OwnBytes w.heap.size w4 (.slice (some ⟨g, 0, none⟩) (l.length + 4) c1) (sealed l)) := HX3.out.kept hb (Nat.le_refl _)
      have HY4 : Hid (BytesAt w4 v3 (sealed l)) := HY3.out.below hb (Nat.le_refl _)
      have HG4 : Hid (g < w4.heap.size) := Nat.lt_of_lt_of_le HG3.out hb.size
      obtain ⟨v5, w5, hcv, hb5, hbel⟩ := conv_to_bytes w4 l (by unfold maxLen; omega)
      rw [HS.out] at hcv
      have HB5 : Hid (Below w.heap.size w w5) := HB4.out.trans (hbel.mono HB4.out.size)
      have HX5 : Hid (OwnBytes w.heap.size w5 (.slice (some ⟨g, 0, none⟩) (l.length + 4) c1) (sealed l)) := HX4.out.kept hbel (Nat.le_refl _)
      have HY5 : Hid (BytesAt w5 v3 (sealed l)) := HY4.out.below hbel (Nat.le_refl _)
      have HV5 := Lib.hid hb5
      clear hb hb5 hbel HB3 HX3 HY3 HB4 HX4 HY4
      go_wp2_with fail
      refine (((open_all _ l _ (HT.out.below HB5.out (Nat.le_refl _)) HV5.out (by omega)).2 HO.out).2).mono ?_
      rintro e w6 ⟨rfl, hb⟩
      have HB6 : Hid (Below w.heap.size w w6) := HB5.out.trans (hb.mono HB5.out.size)
      have HX6 : Hid (OwnBytes w.heap.size w6 (.slice (some ⟨g, 0, none⟩) (l.length + 4) c1) (sealed l)) := HX5.out.kept hb (Nat.le_refl _)
      have hx := string_bytes HX6.out.bytesAt
      have hy := string_bytes (HY5.out.below hb (Nat.le_refl _))
      have hn := string_bytes (W := w6) (v := .slice none 0 0) (l := []) (.inl ⟨rfl, rfl⟩)
      generalize (⟨(sealed l).toArray⟩ : ByteArray) = sx at hx hy
      have H0 : Hid (IncRel w w4.heap.size (.slice (some ⟨g, 0, none⟩) (l.length + 4) c1) (l.length + 4) (.slice none 0 0) [] (.int .i64 0) w6) := ⟨0, sealed l, by omega, rfl, sealed_length l, HX6.out, OwnBytes.nil _ _, HB6.out⟩
      clear hb hcv HB5 HX5 HY5 HV5
      go_wp2
      go_loopw [10] (fun i wr => IncRel w w4.heap.size (.slice (some ⟨g, 0, none⟩) (l.length + 4) c1) (l.length + 4) (.slice none 0 0) [] i wr) (fun i _ => l.length + 4 - (intOf i).toNat)
      case atStart => exact H0.out
      case round =>
        obtain ⟨k, lx, hk, rfl, HL⟩ := hrel
        by_cases hlt : k < l.length + 4
        · obtain ⟨hc, hf⟩ := HL.out.2.1.cell HL.out.1 hlt
          obtain ⟨X, hX⟩ : ∃ X : Nat, (lx.getD k 0).toNat = X := ⟨_, rfl⟩
          have hX8 : X < 256 := by rw [← hX]; exact (lx.getD k 0).toNat_lt
          rw [hX] at hc
          have HR := IncRel.next (UInt8.ofNat (X + 1)) HG4.out HL.out hlt
          rw [← byte_wrap] at HR
          have HR' := Lib.hid HR
          clear hX HR
          go_wp2
          go_roundw
          case rel => exact HR'.out
          case measure => simp [intOf]; omega
        · obtain rfl : k = l.length + 4 := by omega
          have H2 : Hid (IncRel2 w (.slice none 0 0) 0 (.int .i64 0) wr) := ⟨0, [], Nat.le_refl _, rfl, rfl, OwnBytes.nil _ _, HL.out.2.2.2⟩
          clear HL
          obtain ⟨wo, rfl⟩ : ∃ wo : World, wo = wr := ⟨_, rfl⟩
          go_wp2
          go_loopw [11] (fun i wr => IncRel2 w (.slice none 0 0) 0 i wr) (fun i _ => 0 - (intOf i).toNat)
          case atStart => exact H2.out
          case round =>
            obtain ⟨k, lx, hk, rfl, HL⟩ := hrel
            obtain rfl : k = 0 := by omega
            have HB := Lib.hid HL.out.2.2
            have hs := string_bytes (HP.out.below HB.out (Nat.le_refl _))
            rw [HS.out] at hs
            clear HL
            go_wp2_with (go_at_call 8; refine (awake_any _ (HT.out.below HB.out (Nat.le_refl _))).mono ?_; rintro e w9 ⟨rfl, hb⟩; have HB9 : Hid (Below w.heap.size w w9) := HB.out.trans (hb.mono HB.out.size); clear hb)
            go_ret
            exact ⟨rfl, HB9.out⟩
    | some m =>
      have HO := Lib.hid hopen
      have HMl : Hid (m.length ≤ l.length) := openTo_small hopen
      clear hopen
      go_wp2_with fail
      refine (((open_all _ l _ (HT.out.below HB3.out (Nat.le_refl _)) (HP.out.below HB3.out (Nat.le_refl _)) (by omega)).1 m HO.out).1).mono ?_
      rintro e w4 ⟨v6, rfl, hown, hb⟩
      have HB4 : Hid (Below w.heap.size w w4) := HB3.out.trans (hb.mono HB3.out.size)
      have HX4 : Hid (OwnBytes w.heap.size w4 (.slice (some ⟨g, 0, none⟩) (l.length + 4) c1) (sealed l)) := HX3.out.kept hb (Nat.le_refl _)
      have HY4 : Hid (BytesAt w4 v3 (sealed l)) := HY3.out.below hb (Nat.le_refl _)
      have HG4 : Hid (g < w3.heap.size) := HG3.out
      have HS6 : Hid (w.heap.size ≤ w3.heap.size) := HB3.out.size
      obtain ⟨a6, c6, rfl⟩ := hown.form
      have HV4 : Hid (OwnBytes w3.heap.size w4 (.slice a6 m.length c6) m) := hown
      clear hown
      obtain ⟨v5, w5, hcv, hb5, hbel⟩ := conv_to_bytes w4 l (by unfold maxLen; omega)
      rw [HS.out] at hcv
      have HB5 : Hid (Below w.heap.size w w5) := HB4.out.trans (hbel.mono HB4.out.size)
      have HX5 : Hid (OwnBytes w.heap.size w5 (.slice (some ⟨g, 0, none⟩) (l.length + 4) c1) (sealed l)) := HX4.out.kept hbel (Nat.le_refl _)
      have HY5 : Hid (BytesAt w5 v3 (sealed l)) := HY4.out.below hbel (Nat.le_refl _)
      have HV5 := Lib.hid hb5
      have HW5 : Hid (OwnBytes w3.heap.size w5 (.slice a6 m.length c6) m) := HV4.out.kept hbel (Nat.le_refl _)
      clear hb hb5 hbel HB3 HX3 HY3 HB4 HX4 HY4
      go_wp2_with fail
      refine (((open_all _ l _ (HT.out.below HB5.out (Nat.le_refl _)) HV5.out (by omega)).1 m HO.out).2).mono ?_
      rintro e w6 ⟨v8, rfl, hown, hb⟩
      have HB6 : Hid (Below w.heap.size w w6) := HB5.out.trans (hb.mono HB5.out.size)
      have HX6 : Hid (OwnBytes w.heap.size w6 (.slice (some ⟨g, 0, none⟩) (l.length + 4) c1) (sealed l)) := HX5.out.kept hb (Nat.le_refl _)
      have HV6 : Hid (OwnBytes w3.heap.size w6 (.slice a6 m.length c6) m) := HW5.out.kept hb (Nat.le_refl _)
      have hx := string_bytes HX6.out.bytesAt
      have hy := string_bytes (HY5.out.below hb (Nat.le_refl _))
      have hn1 := string_bytes HV6.out.bytesAt
      have hn2 := string_bytes hown.bytesAt
      generalize (⟨(sealed l).toArray⟩ : ByteArray) = sx at hx hy
      generalize (⟨m.toArray⟩ : ByteArray) = sm at hn1 hn2
      have H0 : Hid (IncRel w w3.heap.size (.slice (some ⟨g, 0, none⟩) (l.length + 4) c1) (l.length + 4) (.slice a6 m.length c6) m (.int .i64 0) w6) := ⟨0, sealed l, by omega, rfl, sealed_length l, HX6.out, HV6.out, HB6.out⟩
      have hml := HMl.out
      clear hb hown hcv HB5 HX5 HY5 HV5 HW5 HV4
      go_wp2
      go_loopw [10] (fun i wr => IncRel w w3.heap.size (.slice (some ⟨g, 0, none⟩) (l.length + 4) c1) (l.length + 4) (.slice a6 m.length c6) m i wr) (fun i _ => l.length + 4 - (intOf i).toNat)
      case atStart => exact H0.out
      case round =>
        obtain ⟨k, lx, hk, rfl, HL⟩ := hrel
        by_cases hlt : k < l.length + 4
        · obtain ⟨hc, hf⟩ := HL.out.2.1.cell HL.out.1 hlt
          obtain ⟨X, hX⟩ : ∃ X : Nat, (lx.getD k 0).toNat = X := ⟨_, rfl⟩
          have hX8 : X < 256 := by rw [← hX]; exact (lx.getD k 0).toNat_lt
          rw [hX] at hc
          have HR := IncRel.next (UInt8.ofNat (X + 1)) HG4.out HL.out hlt
          rw [← byte_wrap] at HR
          have HR' := Lib.hid HR
          clear hX HR
          go_wp2
          go_roundw
          case rel => exact HR'.out
          case measure => simp [intOf]; omega
        · obtain rfl : k = l.length + 4 := by omega
          have H2 : Hid (IncRel2 w (.slice a6 m.length c6) m.length (.int .i64 0) wr) := ⟨0, m, Nat.zero_le _, rfl, rfl, HL.out.2.2.1.base_le HS6.out, HL.out.2.2.2⟩
          clear HL
          obtain ⟨wo, rfl⟩ : ∃ wo : World, wo = wr := ⟨_, rfl⟩
          go_wp2
          go_loopw [11] (fun i wr => IncRel2 w (.slice a6 m.length c6) m.length i wr) (fun i _ => m.length - (intOf i).toNat)
          case atStart => exact H2.out
          case round =>
            obtain ⟨k, lx, hk, rfl, HL⟩ := hrel
            by_cases hlt2 : k < m.length
            · obtain ⟨g2, c2, hv2⟩ := Go.Joins.ownsRow_form HL.out.2.1 (by rw [HL.out.1]; omega)
              rw [HL.out.1] at hv2
              have hv2' := hv2
              simp only [Value.slice.injEq] at hv2'
              obtain ⟨rfl, _, rfl⟩ := hv2'
              clear hv2
              obtain ⟨hc, hf⟩ := HL.out.2.1.cell HL.out.1 hlt2
              obtain ⟨X, hX⟩ : ∃ X : Nat, (lx.getD k 0).toNat = X := ⟨_, rfl⟩
              have hX8 : X < 256 := by rw [← hX]; exact (lx.getD k 0).toNat_lt
              rw [hX] at hc
              have HR := IncRel2.next (UInt8.ofNat (X + 1)) HL.out hlt2
              rw [← byte_wrap] at HR
              have HR' := Lib.hid HR
              clear hX HR
              go_wp2
              go_roundw
              case rel => exact HR'.out
              case measure => simp [intOf]; omega
            · obtain rfl : k = m.length := by omega
              have HB := Lib.hid HL.out.2.2
              have hs := string_bytes (HP.out.below HB.out (Nat.le_refl _))
              rw [HS.out] at hs
              clear HL
              go_wp2_with (go_at_call 8; refine (awake_any _ (HT.out.below HB.out (Nat.le_refl _))).mono ?_; rintro e w9 ⟨rfl, hb⟩; have HB9 : Hid (Below w.heap.size w w9) := HB.out.trans (hb.mono HB.out.size); clear hb)
              go_ret
              exact ⟨rfl, HB9.out⟩
end Go.Proofs.YtimgbemdkajemaaDoor
