/- The walk of the law SumOneForAll. -/
import Derived.Test.YtimgbemdkajemaaDoorAwake
import Derived.Test.YtimgbemdkajemaaDoorCrcMore
namespace Go.Proofs.YtimgbemdkajemaaDoor
open Go.RowKit Crc
theorem open_sealed (v : Value) (l : List UInt8) (w : World) (hT : Tabs w) (hp : BytesAt w v (sealed l)) (hsmall : l.length ≤ 70000) :
    Calls Tryd.prog 13 #[v] w (Opens w l) :=
  (open_long v l _ _ _ _ w hT hp hsmall true (decide_eq_true rfl).symm).mono fun _ _ h => h.1 rfl
theorem crc_sealed_one (l : List UInt8) : crc (sealed l) = crc (sealed []) := crc_sealed l
theorem strs_ne {a b : List UInt8} (h : a ≠ b) : ((⟨a.toArray⟩ : ByteArray).toList == (⟨b.toArray⟩ : ByteArray).toList) = false := by
  rw [ByteArray.toList_eq, ByteArray.toList_eq]; simpa using h
theorem crc_le4 (l : List UInt8) (o : Nat) : crc (l ++ le4 o) = crc (sealed []) ↔ le4 o = le4 (crc l) := crc_one_for_all l o
set_option maxHeartbeats 2000000 in
theorem sumOne_any (v : Value) (l : List UInt8) (o : Nat) (ho : o < 4294967296) (w : World) (hT : Tabs w) (hp : BytesAt w v l) :
    Calls Tryd.prog 6 #[v, .int .u32 (o : Nat)] w fun e w' => e = .returned (.bool true) ∧ Below w.heap.size w w' := by
  have HT := Lib.hid hT
  have HP := Lib.hid hp
  obtain ⟨a, cap, rfl, hlen, _⟩ := hp.form
  unfold maxLen at hlen
  clear hT hp
  by_cases hbig : 20000 < l.length
  · go_enter Tryd.func6, Tryd.ntmps6
    go_wp2_with (go_at_call 8; refine (awake_any _ HT.out).mono ?_; rintro e w1 ⟨rfl, hb⟩; have HB := Lib.hid hb; clear hb)
    go_ret
    exact ⟨rfl, HB.out⟩
  · go_enter Tryd.func6, Tryd.ntmps6
    go_wp2_with fail
    refine (seal_any _ l _ HT.out HP.out (by omega)).mono ?_
    rintro e w1 ⟨v1, rfl, hown, hb⟩
    have HB1 := Lib.hid hb
    obtain ⟨a1, c1, rfl⟩ := hown.form
    rw [sealed_length] at hown ⊢
    have HX1 : Hid (BytesAt w1 (.slice a1 (l.length + 4) c1) (sealed l)) := hown.bytesAt
    clear hown hb
    go_wp2_with fail
    refine (open_sealed _ l _ (HT.out.below HB1.out (Nat.le_refl _)) HX1.out (by omega)).mono ?_
    rintro e w2 ⟨v2, rfl, hown, hb⟩
    have HB2 : Hid (Below w.heap.size w w2) := HB1.out.trans (hb.mono HB1.out.size)
    have HX2 : Hid (BytesAt w2 (.slice a1 (l.length + 4) c1) (sealed l)) := HX1.out.below hb (Nat.le_refl _)
    have hsy := string_bytes hown.bytesAt
    have hsb := string_bytes (HP.out.below HB2.out (Nat.le_refl _))
    clear hown hb HB1 HX1
    have HA2 : Hid (∀ t, PartsAt (w2.alloc (.cells #[.slice a1 (l.length + 4) c1] t)) (.slice (some ⟨w2.heap.size, 0, none⟩) 1 1) [sealed l]) := fun t => partsAt_one HX2.out
    have HE2 : Hid (∀ o, Below w2.heap.size w2 (w2.alloc o)) := fun o => Go.Joins.below_alloc1 w2 o
    go_wp2_with fail
    refine (of_any _ [sealed l] _ (HT.out.below (HB2.out.trans ((HE2.out _).mono HB2.out.size)) (Nat.le_refl _)) (HA2.out _)).mono ?_
    rintro e w3 ⟨rfl, hb⟩
    have HB3 : Hid (Below w.heap.size w w3) := (HB2.out.trans ((HE2.out _).mono HB2.out.size)).trans (hb.mono (by have := HB2.out.size; simp; omega))
    have HX3 : Hid (BytesAt w3 (.slice a1 (l.length + 4) c1) (sealed l)) := (HX2.out.below (HE2.out _) (Nat.le_refl _)).below hb (Nat.le_refl _)
    clear hb HB2 HX2 HA2 HE2 hsy hsb
    rw [List.flatten_singleton, crc_sealed_one]
    obtain ⟨C, hC⟩ : ∃ C, crc (sealed []) = C := ⟨_, rfl⟩
    have HC := Lib.hid hC
    rw [hC]
    clear hC
    go_wp2_with fail
    refine (seal_any _ [] _ (HT.out.below HB3.out (Nat.le_refl _)) (.inl ⟨rfl, rfl⟩) (by simp)).mono ?_
    rintro e w4 ⟨v4, rfl, hown, hb⟩
    have HB4 : Hid (Below w.heap.size w w4) := HB3.out.trans (hb.mono HB3.out.size)
    have HX4 : Hid (BytesAt w4 (.slice a1 (l.length + 4) c1) (sealed l)) := HX3.out.below hb (Nat.le_refl _)
    obtain ⟨a4, c4, rfl⟩ := hown.form
    have HA4 : Hid (∀ t, PartsAt (w4.alloc (.cells #[.slice a4 4 c4] t)) (.slice (some ⟨w4.heap.size, 0, none⟩) 1 1) [sealed []]) := fun t => partsAt_one hown.bytesAt
    have HE4 : Hid (∀ o, Below w4.heap.size w4 (w4.alloc o)) := fun o => Go.Joins.below_alloc1 w4 o
    have e4 : (sealed []).length = 4 := rfl
    rw [e4]
    clear hown hb HB3 HX3 e4
    go_wp2_with fail
    refine (of_any _ [sealed []] _ (HT.out.below (HB4.out.trans ((HE4.out _).mono HB4.out.size)) (Nat.le_refl _)) (HA4.out _)).mono ?_
    rintro e w5 ⟨rfl, hb⟩
    have HB5 : Hid (Below w.heap.size w w5) := (HB4.out.trans ((HE4.out _).mono HB4.out.size)).trans (hb.mono (by have := HB4.out.size; simp; omega))
    have HX5 : Hid (BytesAt w5 (.slice a1 (l.length + 4) c1) (sealed l)) := (HX4.out.below (HE4.out _) (Nat.le_refl _)).below hb (Nat.le_refl _)
    clear hb HB4 HX4 HA4 HE4
    rw [List.flatten_singleton, HC.out]
    go_wp2_with (first | (at_builtin; refine wpList_append_bytes rfl (.tmp 48) (.tmp 49) rfl w5.heap.size _ _ _ l rfl rfl (own_empty w5) ((HP.out.below HB5.out (Nat.le_refl _)).below ((Below.refl _ _).alloc (Nat.le_refl _) _) (Nat.le_refl _)) (by simp; omega) (by simp) ?_; intro v6 w6 hown6 hgrow6; have HO6 : Hid (OwnBytes w5.heap.size w6 v6 l) := hown6; have HB6 : Hid (Below w5.heap.size w5 w6) := ((Below.refl _ _).alloc (Nat.le_refl _) _).grown hgrow6 (by simp) (own_empty w5).own; clear hown6 hgrow6) | (at_builtin; refine wpList_append_bytes rfl (.tmp 50) (.tmp 62) rfl w5.heap.size _ _ _ (le4 o) rfl rfl (HO6.out.alloc _) (bytesAt_le4 _ _ o rfl rfl rfl (by omega)) (by simp [le4]; omega) (by have := HB6.out.size; simp; omega) ?_; intro v7 w7 hown7 hgrow7; have HO7 : Hid (OwnBytes w5.heap.size w7 v7 (l ++ le4 o)) := hown7; have HB7 : Hid (Below w5.heap.size w5 w7) := (HB6.out.alloc HB6.out.size _).grown hgrow7 (by have := HB6.out.size; simp; omega) HO6.out.own; clear hown7 hgrow7))
    obtain ⟨a7, c7, rfl⟩ := HO7.out.form
    have e7 : (l ++ le4 o).length = l.length + 4 := by simp [le4]
    rw [e7] at HO7 ⊢
    clear e7
    by_cases hE : le4 o = le4 (crc l)
    · refine (open_long _ l _ _ _ _ _ (HT.out.below (HB5.out.trans (HB7.out.mono HB5.out.size)) (Nat.le_refl _)) (show BytesAt w7 _ (l ++ [UInt8.ofNat o, UInt8.ofNat (o / 256), UInt8.ofNat (o / 65536), UInt8.ofNat (o / 16777216)]) from HO7.out.bytesAt) (by omega) true (decide_eq_true hE).symm).mono ?_
      intro e w8 hpost
      obtain ⟨v8, rfl, _, hb⟩ := hpost.1 rfl
      have HB8 : Hid (Below w.heap.size w w8) := (HB5.out.trans (HB7.out.mono HB5.out.size)).trans (hb.mono (Nat.le_trans HB5.out.size HB7.out.size))
      have HX8 : Hid (BytesAt w8 (.slice a1 (l.length + 4) c1) (sealed l)) := (HX5.out.below HB7.out (Nat.le_refl _)).below hb (Nat.le_refl _)
      have HZ8 : Hid (BytesAt w8 (.slice a7 (l.length + 4) c7) (l ++ le4 o)) := HO7.out.bytesAt.below hb (Nat.le_refl _)
      have hsz := string_bytes HZ8.out
      have hsx := string_bytes HX8.out
      have HK : Hid (crc (l ++ le4 o) = C) := by rw [(crc_le4 l o).2 hE, HC.out]; rfl
      have e8 : sealed l = l ++ le4 o := by unfold sealed; rw [hE]
      rw [e8] at hsx
      generalize (⟨(l ++ le4 o).toArray⟩ : ByteArray) = sz at hsz hsx
      clear e8
      have HA8 : Hid (∀ t, PartsAt (w8.alloc (.cells #[.slice a7 (l.length + 4) c7] t)) (.slice (some ⟨w8.heap.size, 0, none⟩) 1 1) [l ++ le4 o]) := fun t => partsAt_one HZ8.out
      have HE8 : Hid (∀ o, Below w8.heap.size w8 (w8.alloc o)) := fun o => Go.Joins.below_alloc1 w8 o
      have HE := Lib.hid hE
      clear hE hpost hb HB5 HX5 HO6 HB6 HO7 HB7 HX8 HZ8
      go_wp2_with fail
      refine (of_any _ [l ++ le4 o] _ (HT.out.below (HB8.out.trans ((HE8.out _).mono HB8.out.size)) (Nat.le_refl _)) (HA8.out _)).mono ?_
      rintro e w9 ⟨rfl, hb⟩
      have HB9 : Hid (Below w.heap.size w w9) := (HB8.out.trans ((HE8.out _).mono HB8.out.size)).trans (hb.mono (by have := HB8.out.size; simp; omega))
      clear hb HB8 HA8 HE8 hsz hsx
      rw [List.flatten_singleton]
      obtain ⟨K, hK⟩ : ∃ K, crc (l ++ le4 o) = K := ⟨_, rfl⟩
      rw [hK] at HK ⊢
      clear hK
      go_wp2_with fail
      refine (seal_any _ [] _ (HT.out.below HB9.out (Nat.le_refl _)) (.inl ⟨rfl, rfl⟩) (by simp)).mono ?_
      rintro e w10 ⟨v10, rfl, hown, hb⟩
      have HB10 : Hid (Below w.heap.size w w10) := HB9.out.trans (hb.mono HB9.out.size)
      obtain ⟨a10, c10, rfl⟩ := hown.form
      have HA10 : Hid (∀ t, PartsAt (w10.alloc (.cells #[.slice a10 4 c10] t)) (.slice (some ⟨w10.heap.size, 0, none⟩) 1 1) [sealed []]) := fun t => partsAt_one hown.bytesAt
      have HE10 : Hid (∀ o, Below w10.heap.size w10 (w10.alloc o)) := fun o => Go.Joins.below_alloc1 w10 o
      have e10 : (sealed []).length = 4 := rfl
      rw [e10]
      clear hown hb HB9 e10
      go_wp2_with fail
      refine (of_any _ [sealed []] _ (HT.out.below (HB10.out.trans ((HE10.out _).mono HB10.out.size)) (Nat.le_refl _)) (HA10.out _)).mono ?_
      rintro e w11 ⟨rfl, hb⟩
      have HB11 : Hid (Below w.heap.size w w11) := (HB10.out.trans ((HE10.out _).mono HB10.out.size)).trans (hb.mono (by have := HB10.out.size; simp; omega))
      clear hb HB10 HA10 HE10
      rw [List.flatten_singleton, HC.out]
      rw [HK.out]
      go_wp2_with fail
      refine (awake_any _ (HT.out.below HB11.out (Nat.le_refl _))).mono ?_
      rintro e w12 ⟨rfl, hb⟩
      have HB12 : Hid (Below w.heap.size w w12) := HB11.out.trans (hb.mono HB11.out.size)
      clear hb HB11
      go_wp2
      go_ret
      exact ⟨rfl, HB12.out⟩
    · refine (open_long _ l _ _ _ _ _ (HT.out.below (HB5.out.trans (HB7.out.mono HB5.out.size)) (Nat.le_refl _)) (show BytesAt w7 _ (l ++ [UInt8.ofNat o, UInt8.ofNat (o / 256), UInt8.ofNat (o / 65536), UInt8.ofNat (o / 16777216)]) from HO7.out.bytesAt) (by omega) false (decide_eq_false hE).symm).mono ?_
      intro e w8 hpost
      obtain ⟨rfl, hb⟩ := hpost.2 rfl
      have HB8 : Hid (Below w.heap.size w w8) := (HB5.out.trans (HB7.out.mono HB5.out.size)).trans (hb.mono (Nat.le_trans HB5.out.size HB7.out.size))
      have HX8 : Hid (BytesAt w8 (.slice a1 (l.length + 4) c1) (sealed l)) := (HX5.out.below HB7.out (Nat.le_refl _)).below hb (Nat.le_refl _)
      have HZ8 : Hid (BytesAt w8 (.slice a7 (l.length + 4) c7) (l ++ le4 o)) := HO7.out.bytesAt.below hb (Nat.le_refl _)
      have hsz := string_bytes HZ8.out
      have hsx := string_bytes HX8.out
      have HK : Hid (crc (l ++ le4 o) ≠ C) := fun h => hE ((crc_le4 l o).1 (by rw [h, HC.out]))
      have hne := strs_ne (a := l ++ le4 o) (b := sealed l) (fun h => hE (List.append_cancel_left h))
      generalize (⟨(l ++ le4 o).toArray⟩ : ByteArray) = sz at hsz hne
      generalize (⟨(sealed l).toArray⟩ : ByteArray) = sx at hsx hne
      have HA8 : Hid (∀ t, PartsAt (w8.alloc (.cells #[.slice a7 (l.length + 4) c7] t)) (.slice (some ⟨w8.heap.size, 0, none⟩) 1 1) [l ++ le4 o]) := fun t => partsAt_one HZ8.out
      have HE8 : Hid (∀ o, Below w8.heap.size w8 (w8.alloc o)) := fun o => Go.Joins.below_alloc1 w8 o
      have HE := Lib.hid hE
      clear hE hpost hb HB5 HX5 HO6 HB6 HO7 HB7 HX8 HZ8
      go_wp2_with fail
      refine (of_any _ [l ++ le4 o] _ (HT.out.below (HB8.out.trans ((HE8.out _).mono HB8.out.size)) (Nat.le_refl _)) (HA8.out _)).mono ?_
      rintro e w9 ⟨rfl, hb⟩
      have HB9 : Hid (Below w.heap.size w w9) := (HB8.out.trans ((HE8.out _).mono HB8.out.size)).trans (hb.mono (by have := HB8.out.size; simp; omega))
      clear hb HB8 HA8 HE8 hsz hsx
      rw [List.flatten_singleton]
      obtain ⟨K, hK⟩ : ∃ K, crc (l ++ le4 o) = K := ⟨_, rfl⟩
      rw [hK] at HK ⊢
      clear hK
      go_wp2_with fail
      refine (seal_any _ [] _ (HT.out.below HB9.out (Nat.le_refl _)) (.inl ⟨rfl, rfl⟩) (by simp)).mono ?_
      rintro e w10 ⟨v10, rfl, hown, hb⟩
      have HB10 : Hid (Below w.heap.size w w10) := HB9.out.trans (hb.mono HB9.out.size)
      obtain ⟨a10, c10, rfl⟩ := hown.form
      have HA10 : Hid (∀ t, PartsAt (w10.alloc (.cells #[.slice a10 4 c10] t)) (.slice (some ⟨w10.heap.size, 0, none⟩) 1 1) [sealed []]) := fun t => partsAt_one hown.bytesAt
      have HE10 : Hid (∀ o, Below w10.heap.size w10 (w10.alloc o)) := fun o => Go.Joins.below_alloc1 w10 o
      have e10 : (sealed []).length = 4 := rfl
      rw [e10]
      clear hown hb HB9 e10
      go_wp2_with fail
      refine (of_any _ [sealed []] _ (HT.out.below (HB10.out.trans ((HE10.out _).mono HB10.out.size)) (Nat.le_refl _)) (HA10.out _)).mono ?_
      rintro e w11 ⟨rfl, hb⟩
      have HB11 : Hid (Below w.heap.size w w11) := (HB10.out.trans ((HE10.out _).mono HB10.out.size)).trans (hb.mono (by have := HB10.out.size; simp; omega))
      clear hb HB10 HA10 HE10
      rw [List.flatten_singleton, HC.out]
      have hk : ((K : Int) == (C : Int)) = false := by have := HK.out; simp; omega
      go_wp2_with fail
      refine (awake_any _ (HT.out.below HB11.out (Nat.le_refl _))).mono ?_
      rintro e w12 ⟨rfl, hb⟩
      have HB12 : Hid (Below w.heap.size w w12) := HB11.out.trans (hb.mono HB11.out.size)
      clear hb HB11
      go_wp2
      go_ret
      exact ⟨rfl, HB12.out⟩
end Go.Proofs.YtimgbemdkajemaaDoor
