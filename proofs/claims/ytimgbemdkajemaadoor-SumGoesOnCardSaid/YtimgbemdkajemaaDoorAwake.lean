/- awake: the chapter's examples. -/
import Derived.Test.YtimgbemdkajemaaDoorOpen
import Derived.Lib.SlBytesConst
import Derived.Laws.BytesArg
import Derived.Shelf.Bytes.SlSmallAll
namespace Go.Proofs.YtimgbemdkajemaaDoor
open Go.RowKit Crc
theorem sealed_ab : sealed [97, 98] = [97, 98, 54, 41, 162, 226] := by decide +kernel
theorem crc_nine : crc [49, 50, 51, 52, 53, 54, 55, 56, 57] = 3808858755 := by decide +kernel
theorem crc_noughts : crc (List.replicate 32 0) = 2324772522 := by decide +kernel
theorem crc_nil : crc [] = 0 := by decide +kernel
theorem sealed_nil : sealed [] = [0, 0, 0, 0] := by decide +kernel
theorem ok_ab : true = decide ([54, 41, 162, 226] = le4 (crc [97, 98])) := by decide +kernel
theorem ok_ab_turned : false = decide ([54, 41, 162, 98] = le4 (crc [97, 98])) := by decide +kernel
theorem ok_nil : true = decide ([0, 0, 0, 0] = le4 (crc [])) := by decide +kernel

/-- a literal's row, with the mark of a constant string behind it, reads as its bytes -/
theorem bytes_row (w : World) (cs : List UInt8) (fr : Nat × Nat) (N : Nat) (hN : N = w.heap.size) (h : cs.length ≤ maxLen) (n c : Nat) (hn : n = cs.length) (hc : n ≤ c) : BytesAt (w.alloc (.cells (cs.map byteV).toArray 5 fr)) (.slice (some ⟨N, 0, none⟩) n c) cs := by
  subst hN hn
  refine BytesAt.mk' w.heap.size 0 c ⟨h, hc⟩ (fun _ => by simp) fun j hj => ?_
  rw [Nat.zero_add, World.cell?_alloc_mark]
  show (cs.map byteV).toArray[j]? = _
  rw [List.getElem?_toArray]
  exact getD_cell cs j hj
theorem string_bytes {W : World} {v : Value} {l : List UInt8} (h : BytesAt W v l) : (convert 23 9 v).run Tryd.prog W = .ok (.string ⟨l.toArray⟩) W := by
  rcases h with ⟨rfl, rfl⟩ | ⟨ad, cap, rfl, hl, hc⟩
  · exact run_convert_bytes_nil W 23 5 Tryd.underlying23 Tryd.underlying5 0 0 9 Tryd.underlying9
  · rcases Nat.eq_zero_or_pos l.length with h0 | hpos
    · obtain rfl : l = [] := List.eq_nil_of_length_eq_zero h0
      exact run_convert_bytes_zero W 23 5 Tryd.underlying23 Tryd.underlying5 (some ad) cap 9 Tryd.underlying9
    · obtain ⟨b, off, rfl, hb, hc⟩ := hc hpos
      rw [run_convert_bytes_arg W 23 5 Tryd.underlying23 Tryd.underlying5 b off l.length cap (l.map fun y => (y.toNat : Int)) (by simp) (fun i hi => by rw [hc i hi]; simp [hi]) 9 Tryd.underlying9]
      congr 2
      unfold strOfNums
      have e : ((fun n : Int => UInt8.ofNat n.toNat) ∘ fun y : UInt8 => (y.toNat : Int)) = id := by funext y; simp
      simp [e]
theorem parts_three {w : World} {t : TypeId} {v0 v1 v2 : Value} {l0 l1 l2 : List UInt8} (h0 : BytesAt w v0 l0) (h1 : BytesAt w v1 l1) (h2 : BytesAt w v2 l2) (N : Nat) (hN : N = w.heap.size) : PartsAt (w.alloc (.cells #[v0, v1, v2] t)) (.slice (some ⟨N, 0, none⟩) 3 3) [l0, l1, l2] := by
  subst hN
  have hb : Below w.heap.size w (w.alloc (.cells #[v0, v1, v2] t)) := (Below.refl _ _).alloc (Nat.le_refl _) _
  refine ⟨_, 3, rfl, by simp [maxLen], fun _ => ⟨w.heap.size, 0, rfl, by simp, fun j hj => ?_⟩⟩
  have : j = 0 ∨ j = 1 ∨ j = 2 := by simp at hj; omega
  rcases this with rfl | rfl | rfl
  · exact ⟨v0, by simp, h0.below hb (Nat.le_refl _)⟩
  · exact ⟨v1, by simp, h1.below hb (Nat.le_refl _)⟩
  · exact ⟨v2, by simp, h2.below hb (Nat.le_refl _)⟩
def noughts : Array Value := ((List.replicate 32 (0 : UInt8)).map byteV).toArray
theorem run_noughts (w : World) : (Instr.makeSlice 23 (.int .i64 32) (.int .i64 32)).run Tryd.prog w = .ok (.slice (some ⟨w.heap.size, 0, none⟩) 32 32) (w.alloc (.cells noughts 5)) := by kernel_rfl
theorem noughts_at (w : World) : BytesAt (w.alloc (.cells noughts 5)) (.slice (some ⟨w.heap.size, 0, none⟩) 32 32) (List.replicate 32 0) := bytes_row w (List.replicate 32 0) (0, 0) _ rfl (by simp [maxLen]) 32 32 (by simp) (Nat.le_refl _)
set_option maxHeartbeats 2000000 in
theorem awake_any (w : World) (hT : Tabs w) :
    Calls Tryd.prog 8 #[] w fun e w' => e = .returned (.bool true) ∧ Below w.heap.size w w' := by
  have HT := Lib.hid hT
  clear hT
  have HB0 : Hid (Below w.heap.size w (w.alloc (.cells #[.int .u8 97, .int .u8 98] 5 (2, 3)))) := (Below.refl _ _).alloc (Nat.le_refl _) _
  have kc := fun (w : World) (C : Array Value) (n c : Nat) => Lib.run_convert_bytes_const (P := Tryd.prog) w 23 5 C n c Tryd.underlying23 Tryd.underlying5
  go_enter Tryd.func8, Tryd.ntmps8
  go_wp2_with fail
  refine (seal_any _ [97, 98] _ (HT.out.below HB0.out (Nat.le_refl _)) (bytes_row w [97, 98] (2, 3) _ rfl (by simp [maxLen]) 2 2 rfl (Nat.le_refl _)) (by simp)).mono ?_
  rintro e w1 ⟨v1, rfl, hown, hb⟩
  rw [sealed_ab] at hown
  have HB1 : Hid (Below w.heap.size w w1) := HB0.out.trans (hb.mono (by simp))
  have HO1 : Hid (OwnBytes w.heap.size w1 v1 [97, 98, 54, 41, 162, 226]) := OwnBytes.base_le hown (by simp)
  obtain ⟨g, cap, rfl⟩ := Go.Joins.ownsRow_form hown (by simp)
  clear hown hb HB0
  go_wp2_with fail
  refine (open_long _ [97, 98] 54 41 162 226 _ (HT.out.below HB1.out (Nat.le_refl _)) HO1.out.bytesAt (by simp) true ok_ab).mono ?_
  intro e w2 hpost
  obtain ⟨v2, rfl, hown, hb⟩ := hpost.1 rfl
  have HB2 : Hid (Below w.heap.size w w2) := HB1.out.trans (hb.mono HB1.out.size)
  have HX2 : Hid (OwnBytes w1.heap.size w2 v2 [97, 98]) := hown
  have HO2 : Hid (OwnBytes w.heap.size w2 (.slice (some ⟨g, 0, none⟩) 6 cap) [97, 98, 54, 41, 162, 226]) := HO1.out.kept hb (Nat.le_refl _)
  clear hown hpost hb
  have c5 : w2.cell? ⟨g, 5, none⟩ = some (.int .u8 226) := by
    have := World.ownsRow.cellAt HO2.out 5 (by decide)
    exact this
  have f5 : w2.frozen? ⟨g, 5, none⟩ = false := World.ownsRow.frozenAt HO2.out 5
  have hg : w.heap.size ≤ g ∧ g < w1.heap.size := by
    have h1 := HO1.out.own g rfl
    have h2 := (World.ownsRow.lt HO1.out g rfl).2
    exact ⟨h1, h2⟩
  have HB3 : Hid (Below w.heap.size w (w2.setCell ⟨g, 5, none⟩ (.int .u8 98))) := HB2.out.setCell (p := ⟨g, 5, none⟩) hg.1 _
  have HO3 : Hid (OwnBytes w.heap.size (w2.setCell ⟨g, 5, none⟩ (.int .u8 98)) (.slice (some ⟨g, 0, none⟩) 6 cap) [97, 98, 54, 41, 162, 98]) := (World.ownsRow.stored HO2.out 5 (.int .u8 98)).1
  have HX3 : Hid (OwnBytes w1.heap.size (w2.setCell ⟨g, 5, none⟩ (.int .u8 98)) v2 [97, 98]) := ownsRow_setCell_below HX2.out (a := ⟨g, 5, none⟩) hg.2 _
  have hxor : bits .xor .u8 226 128 = 98 := by decide
  clear hg
  go_wp2_with fail
  refine (open_long _ [97, 98] 54 41 162 98 _ (HT.out.below HB3.out (Nat.le_refl _)) HO3.out.bytesAt (by simp) false ok_ab_turned).mono ?_
  intro e w4 hpost
  obtain ⟨rfl, hb⟩ := hpost.2 rfl
  have HB4 : Hid (Below w.heap.size w w4) := HB3.out.trans (hb.mono HB3.out.size)
  have HX4 : Hid (BytesAt w4 v2 [97, 98]) := HX3.out.bytesAt.below hb (Nat.le_refl _)
  clear hpost hb hxor c5 f5 HB3 HX3 HO3 HO2 HX2 HB2 HO1 HB1
  go_wp2_with fail
  refine (seal_any _ [] _ (HT.out.below HB4.out (Nat.le_refl _)) (.inl ⟨rfl, rfl⟩) (by simp)).mono ?_
  rintro e w5 ⟨v5, rfl, hown, hb⟩
  rw [sealed_nil] at hown
  have HB5 : Hid (Below w.heap.size w w5) := HB4.out.trans (hb.mono HB4.out.size)
  have HX5 : Hid (BytesAt w5 v2 [97, 98]) := HX4.out.below hb (Nat.le_refl _)
  have HO5 := Lib.hid hown
  clear hown hb HB4 HX4
  go_wp2_with fail
  refine (open_long _ [] 0 0 0 0 _ (HT.out.below HB5.out (Nat.le_refl _)) HO5.out.bytesAt (by simp) true ok_nil).mono ?_
  intro e w6 hpost
  obtain ⟨v6, rfl, _, hb⟩ := hpost.1 rfl
  have HB6 : Hid (Below w.heap.size w w6) := HB5.out.trans (hb.mono HB5.out.size)
  have HX6 : Hid (BytesAt w6 v2 [97, 98]) := HX5.out.below hb (Nat.le_refl _)
  clear hpost hb HB5 HX5 HO5
  have HB7 : Hid (Below w.heap.size w (w6.alloc (.cells #[.int .u8 97, .int .u8 98, .int .u8 99] 5 (3, 4)))) := HB6.out.alloc HB6.out.size _
  have HX7 : Hid (BytesAt (w6.alloc (.cells #[.int .u8 97, .int .u8 98, .int .u8 99] 5 (3, 4))) v2 [97, 98]) := HX6.out.below ((Below.refl _ _).alloc (Nat.le_refl _) _) (Nat.le_refl _)
  go_wp2_with fail
  refine (open_short _ [97, 98, 99] _ (bytes_row w6 [97, 98, 99] (3, 4) _ rfl (by simp [maxLen]) 3 3 rfl (Nat.le_refl _)) (by simp)).mono ?_
  rintro e w8 ⟨rfl, hb⟩
  have HB8 : Hid (Below w.heap.size w w8) := HB7.out.trans (hb.mono HB7.out.size)
  have HX8 : Hid (BytesAt w8 v2 [97, 98]) := HX7.out.below hb (Nat.le_refl _)
  clear hb HB6 HX6 HB7 HX7
  go_wp2_with fail
  refine (of_any _ [] _ (HT.out.below HB8.out (Nat.le_refl _)) ⟨none, 0, rfl, by simp [maxLen], fun h => absurd h (by simp)⟩).mono ?_
  rintro e w9 ⟨rfl, hb⟩
  have HB9 : Hid (Below w.heap.size w w9) := HB8.out.trans (hb.mono HB8.out.size)
  have HX9 : Hid (BytesAt w9 v2 [97, 98]) := HX8.out.below hb (Nat.le_refl _)
  clear hb HB8 HX8
  rw [List.flatten_nil, crc_nil]
  have kc2 := Go.Joins.run_convert_bytes_const_at (P := Tryd.prog) (w9.alloc (.cells #[.int .u8 49, .int .u8 50, .int .u8 51, .int .u8 52] 5 (4, 5))) 23 5 #[.int .u8 53, .int .u8 54, .int .u8 55, .int .u8 56, .int .u8 57] 5 5 (w9.heap.size + 1) (by simp) Tryd.underlying23 Tryd.underlying5
  have HP : Hid (∀ t, PartsAt (((w9.alloc (.cells #[.int .u8 49, .int .u8 50, .int .u8 51, .int .u8 52] 5 (4, 5))).alloc (.cells #[.int .u8 53, .int .u8 54, .int .u8 55, .int .u8 56, .int .u8 57] 5 (5, 6))).alloc (.cells #[.slice (some ⟨w9.heap.size, 0, none⟩) 4 4, .slice none 0 0, .slice (some ⟨w9.heap.size + 1, 0, none⟩) 5 5] t)) (.slice (some ⟨w9.heap.size + 1 + 1, 0, none⟩) 3 3) [[49, 50, 51, 52], [], [53, 54, 55, 56, 57]]) := fun t =>
    parts_three ((bytes_row w9 [49, 50, 51, 52] (4, 5) _ rfl (by simp [maxLen]) 4 4 rfl (Nat.le_refl _)).below ((Below.refl _ _).alloc (Nat.le_refl _) _) (Nat.le_refl _)) (.inl ⟨rfl, rfl⟩)
      (bytes_row (w9.alloc (.cells #[.int .u8 49, .int .u8 50, .int .u8 51, .int .u8 52] 5 (4, 5))) [53, 54, 55, 56, 57] (5, 6) _ (by simp) (by simp [maxLen]) 5 5 rfl (Nat.le_refl _)) _ (by simp)
  have HA : Hid (∀ o1 o2 o3, Below w9.heap.size w9 (((w9.alloc o1).alloc o2).alloc o3)) := fun o1 o2 o3 => Go.Joins.below_alloc3 w9 o1 o2 o3
  go_wp2_with fail
  refine (of_any _ [[49, 50, 51, 52], [], [53, 54, 55, 56, 57]] _ (HT.out.below (HB9.out.trans ((HA.out _ _ _).mono HB9.out.size)) (Nat.le_refl _)) (HP.out _)).mono ?_
  rintro e w10 ⟨rfl, hb⟩
  have HB10 : Hid (Below w.heap.size w w10) := (HB9.out.trans ((HA.out _ _ _).mono HB9.out.size)).trans (hb.mono (by have := HB9.out.size; simp; omega))
  have HX10 : Hid (BytesAt w10 v2 [97, 98]) := (HX9.out.below (HA.out _ _ _) (Nat.le_refl _)).below hb (Nat.le_refl _)
  clear hb HB9 HX9 HA HP kc2
  have ef : [[49, 50, 51, 52], [], [53, 54, 55, 56, 57]].flatten = ([49, 50, 51, 52, 53, 54, 55, 56, 57] : List UInt8) := rfl
  rw [ef, crc_nine]
  clear ef
  have hmk := run_noughts
  have HN : Hid (∀ t, PartsAt ((w10.alloc (.cells noughts 5)).alloc (.cells #[.slice (some ⟨w10.heap.size, 0, none⟩) 32 32] t)) (.slice (some ⟨w10.heap.size + 1, 0, none⟩) 1 1) [List.replicate 32 0]) := fun t => by
    have h := partsAt_one (t := t) (noughts_at w10)
    have e : (w10.alloc (.cells noughts 5)).heap.size = w10.heap.size + 1 := by simp
    rw [e] at h; exact h
  have HA : Hid (∀ o1 o2, Below w10.heap.size w10 ((w10.alloc o1).alloc o2)) := fun o1 o2 => Go.Joins.below_alloc2 w10 o1 o2
  go_wp2_with fail
  refine (of_any _ [List.replicate 32 0] _ (HT.out.below (HB10.out.trans ((HA.out _ _).mono HB10.out.size)) (Nat.le_refl _)) (HN.out _)).mono ?_
  rintro e w11 ⟨rfl, hb⟩
  have HB11 : Hid (Below w.heap.size w w11) := (HB10.out.trans ((HA.out _ _).mono HB10.out.size)).trans (hb.mono (by have := HB10.out.size; simp; omega))
  have hstr := string_bytes ((HX10.out.below (HA.out (.cells noughts 5) (.cells #[.slice (some ⟨w10.heap.size, 0, none⟩) 32 32] 23)) (Nat.le_refl _)).below hb (Nat.le_refl _))
  clear hb HB10 HX10 HA HN hmk
  rw [List.flatten_singleton, crc_noughts]
  go_wp2
  go_ret
  exact ⟨rfl, HB11.out⟩
end Go.Proofs.YtimgbemdkajemaaDoor
