/- awake: the chapter's examples. -/
import Derived.Test.YticbfnflillokaaSys
namespace Go.Proofs.Yticbfnflillokaa
open Go.RowKit Go.Maps Go.WideMaps
def ex1 : Dk := ((Dk.new 10).append [97] [120, 121]).2
def ex2 : Dk := (ex1.append [97] [122]).2
def ex3 : Dk := (ex2.append [98] [49, 50, 51, 52, 53, 54, 55, 56]).2
def ex4 : Dk := (ex3.crash 1 0).2
def ex5 : Dk := ex4.start.2
def ex6 : Dk := (ex3.crash 0 1).2
def ex7 : Dk := ex6.start.2
theorem ex1_ok : ((Dk.new 10).append [97] [120, 121]).1 = 0 := by decide +kernel
theorem ex2_ok : (ex1.append [97] [122]).1 = 0 := by decide +kernel
theorem ex3_full : (ex2.append [98] [49, 50, 51, 52, 53, 54, 55, 56]).1 = 3 := by decide +kernel
theorem ex4_ok : (ex3.crash 1 0).1 = 0 := by decide +kernel
theorem ex5_ok : ex4.start.1 = 0 := by decide +kernel
theorem ex6_ok : (ex3.crash 0 1).1 = 0 := by decide +kernel
theorem ex7_ok : ex6.start.1 = 0 := by decide +kernel
theorem ex2_lack : lack ex2 [97] [] = 0 := by decide +kernel
theorem ex4_lack : lack ex4 [97] [] = 6 := by decide +kernel
theorem ex5_lack : lack ex5 [97] [] = 0 := by decide +kernel
theorem ex7_lack : lack ex7 [97] [] = 0 := by decide +kernel
theorem ex2_read : (ex2.seen.get [97]).getD [] = [120, 121, 122] := by decide +kernel
theorem ex5_read : (ex5.seen.get [97]).getD [] = [120, 121] := by decide +kernel
theorem ex7_read : (ex7.seen.get [97]).getD [] = [120] := by decide +kernel
theorem ex2_waits : (if ex2.down then 0 else ex2.waits.length) = 2 := by decide +kernel
theorem ex5_serial : ex5.wipe.serial = 2 := by decide +kernel
theorem ex5_size : (if ex5.wipe.down then 0 else ex5.wipe.seen.size [97]) = 0 := by decide +kernel
theorem name_a : isName [97] = true := by decide +kernel
/-- a literal's row, with the mark of a constant string behind it, reads as its bytes -/
theorem mark_bytes (w : World) (l : Bs) (cs : Array Value) (fr : Nat × Nat) (hcs : cs = (l.map byteV).toArray) (hl : l.length ≤ 100) : BytesAt (w.alloc (.cells cs 5 fr)) (.slice (some ⟨w.heap.size, 0, none⟩) l.length l.length) l := by
  subst hcs
  refine BytesIn.mk' w.heap.size 0 _ (by unfold maxLen; omega) (fun _ => ⟨by rw [World.size_alloc]; omega, trivial⟩) fun j hj => ?_
  rw [Nat.zero_add, World.cell?_alloc_mark, List.getElem?_toArray]
  exact getD_cell l j hj
theorem One.append {w wi : World} {J : Bks} {p N : Nat} {d : Dk} (h : One w J wi p N d) (hN : N ≤ 400000) (k l : Bs) (hk : k.length ≤ maxLen) (cs : Array Value) (fr : Nat × Nat) (hcs : cs = (l.map byteV).toArray) (hl : l.length ≤ 100) :
    Calls Try.prog 14 #[.pointer (some ⟨p, 0, none⟩), .string ⟨k.toArray⟩, .slice (some ⟨wi.heap.size, 0, none⟩) l.length l.length] (wi.alloc (.cells cs 5 fr)) fun e w' => e = .returned (.int .i64 (d.append k l).1) ∧ One w J w' p (N + 1) (d.append k l).2 ∧ Keep J wi w' := by
  have h2 := h.still (Go.Joins.below_alloc1 wi (.cells cs 5 fr))
  refine (h2.1.does fun O I hd => append_any hd hN k l _ (mark_bytes wi l cs fr hcs hl) hk).mono ?_
  rintro e w' ⟨rfl, h3, h4⟩
  exact ⟨rfl, h3, h2.2.trans h4⟩
set_option maxRecDepth 100000 in
set_option maxHeartbeats 4000000 in
theorem awake_any (w : World) : Calls Try.prog 10 #[] w fun e w' => e = .returned (.bool true) ∧ Below w.heap.size w w' := by
  have kc := fun (w : World) (C : Array Value) (n c : Nat) => Go.Joins.run_convert_bytes_const_at (P := Try.prog) w 31 5 C n c w.heap.size rfl Try.underlying31 Try.underlying5
  go_enter Try.func10, Try.ntmps10
  go_wp2_with fail
  refine (new_any 10 w (by omega)).mono ?_
  rintro e w1 ⟨p, rfl, hf⟩
  have H1 := Lib.hid (One.of_fresh hf)
  clear hf
  go_wp2_with fail
  have hc := H1.out.append (by omega) [97] [120, 121] (by decide) #[.int .u8 120, .int .u8 121] (2, 3) rfl (by decide)
  rw [ex1_ok] at hc
  refine hc.mono ?_
  rintro e w2 ⟨rfl, h2, _⟩
  have H2 : Hid (One w (fun _ => False) w2 p 1 ex1) := h2
  clear H1 hc h2
  go_wp2_with fail
  have hc := H2.out.append (by omega) [97] [122] (by decide) #[.int .u8 122] (1, 2) rfl (by decide)
  rw [ex2_ok] at hc
  refine hc.mono ?_
  rintro e w3 ⟨rfl, h3, _⟩
  have H3 : Hid (One w (fun _ => False) w3 p 2 ex2) := h3
  clear H2 hc h3
  go_wp2_with fail
  have hc := H3.out.read [97] (by decide)
  rw [ex2_lack, if_pos rfl, ex2_read] at hc
  refine hc.mono ?_
  rintro e w4 ⟨a1, n1, c1, X1, rfl, hb1, h4, _⟩
  have H4 := Lib.hid (And.intro hb1 h4)
  clear H3 hc hb1 h4
  go_wp2_with fail
  obtain ⟨O, I, hd, _⟩ := H4.out.2
  have hc := waits_any hd
  rw [ex2_waits] at hc
  refine hc.mono ?_
  rintro e w5 ⟨rfl, rfl⟩
  clear hc hd
  go_wp2_with fail
  have hc := H4.out.2.append (by omega) [98] [49, 50, 51, 52, 53, 54, 55, 56] (by decide) #[.int .u8 49, .int .u8 50, .int .u8 51, .int .u8 52, .int .u8 53, .int .u8 54, .int .u8 55, .int .u8 56] (8, 9) rfl (by decide)
  rw [ex3_full] at hc
  refine hc.mono ?_
  rintro e w6 ⟨rfl, h6, k6⟩
  have H6 : Hid (BytesIn (fun i => False ∨ X1 i) w6 (.slice a1 n1 c1) [120, 121, 122] ∧ One w (fun i => False ∨ X1 i) w6 p 3 ex3) := ⟨H4.out.1.keep k6 fun _ h => h, h6⟩
  clear H4 hc h6 k6
  go_wp2_with fail
  refine (H6.out.2.copy (by omega)).mono ?_
  rintro e w7 ⟨q, rfl, h7, k7⟩
  have H7 : Hid (BytesIn (fun i => False ∨ X1 i) w7 (.slice a1 n1 c1) [120, 121, 122] ∧ Two w (fun i => False ∨ X1 i) w7 p 3 ex3 q 3 ex3) := ⟨H6.out.1.keep k7 fun _ h => h, h7⟩
  clear H6 h7 k7
  go_wp2_with fail
  have hc := H7.out.2.does fun O I hd => crash_any hd (by omega) 1 0
  rw [ex4_ok] at hc
  refine hc.mono ?_
  rintro e w8 ⟨rfl, h8, k8⟩
  have H8 : Hid (BytesIn (fun i => False ∨ X1 i) w8 (.slice a1 n1 c1) [120, 121, 122] ∧ Two w (fun i => False ∨ X1 i) w8 p 4 ex4 q 3 ex3) := ⟨H7.out.1.keep k8 fun _ h => h, h8⟩
  clear H7 hc h8 k8
  go_wp2_with fail
  have hc := H8.out.2.read [97] (by decide)
  rw [ex4_lack, if_neg (by decide)] at hc
  refine hc.mono ?_
  rintro e w9 ⟨a9, n9, c9, X9, rfl, _, h9, k9⟩
  have H9 : Hid (BytesIn (fun i => (False ∨ X1 i) ∨ X9 i) w9 (.slice a1 n1 c1) [120, 121, 122] ∧ Two w (fun i => (False ∨ X1 i) ∨ X9 i) w9 p 4 ex4 q 3 ex3) := ⟨(H8.out.1.keep k9 fun _ h => h).wide fun _ _ h => .inl h, h9⟩
  clear H8 hc h9 k9
  go_wp2_with fail
  have hc := H9.out.2.does fun O I hd => start_any hd
  rw [ex5_ok] at hc
  refine hc.mono ?_
  rintro e w10 ⟨rfl, h10, k10⟩
  have H10 : Hid (BytesIn (fun i => (False ∨ X1 i) ∨ X9 i) w10 (.slice a1 n1 c1) [120, 121, 122] ∧ Two w (fun i => (False ∨ X1 i) ∨ X9 i) w10 p 5 ex5 q 3 ex3) := ⟨H9.out.1.keep k10 fun _ h => h, h10⟩
  clear H9 hc h10 k10
  go_wp2_with fail
  have hc := H10.out.2.read [97] (by decide)
  rw [ex5_lack, if_pos rfl, ex5_read] at hc
  refine hc.mono ?_
  rintro e w11 ⟨a11, n11, c11, X11, rfl, b11, h11, k11⟩
  have H11 : Hid ((BytesIn (fun i => ((False ∨ X1 i) ∨ X9 i) ∨ X11 i) w11 (.slice a1 n1 c1) [120, 121, 122] ∧ BytesIn (fun i => ((False ∨ X1 i) ∨ X9 i) ∨ X11 i) w11 (.slice a11 n11 c11) [120, 121]) ∧ Two w (fun i => ((False ∨ X1 i) ∨ X9 i) ∨ X11 i) w11 p 5 ex5 q 3 ex3) := ⟨⟨(H10.out.1.keep k11 fun _ h => h).wide fun _ _ h => .inl h, b11⟩, h11⟩
  clear H10 hc h11 k11 b11
  obtain ⟨J, hJ⟩ : ∃ J : Bks, J = fun i => ((False ∨ X1 i) ∨ X9 i) ∨ X11 i := ⟨_, rfl⟩
  rw [← hJ] at H11
  clear hJ
  go_wp2_with fail
  have hc := H11.out.2.swap.does fun O I hd => crash_any hd (by omega) 0 1
  rw [ex6_ok] at hc
  refine hc.mono ?_
  rintro e w12 ⟨rfl, h12, k12⟩
  have H12 : Hid ((BytesIn J w12 (.slice a1 n1 c1) [120, 121, 122] ∧ BytesIn J w12 (.slice a11 n11 c11) [120, 121]) ∧ Two w J w12 q 4 ex6 p 5 ex5) := ⟨⟨H11.out.1.1.keep k12 fun _ h => h, H11.out.1.2.keep k12 fun _ h => h⟩, h12⟩
  clear H11 hc h12 k12
  go_wp2_with fail
  have hc := H12.out.2.does fun O I hd => start_any hd
  rw [ex7_ok] at hc
  refine hc.mono ?_
  rintro e w13 ⟨rfl, h13, k13⟩
  have H13 : Hid ((BytesIn J w13 (.slice a1 n1 c1) [120, 121, 122] ∧ BytesIn J w13 (.slice a11 n11 c11) [120, 121]) ∧ Two w J w13 q 5 ex7 p 5 ex5) := ⟨⟨H12.out.1.1.keep k13 fun _ h => h, H12.out.1.2.keep k13 fun _ h => h⟩, h13⟩
  clear H12 hc h13 k13
  go_wp2_with fail
  have hc := H13.out.2.read [97] (by decide)
  rw [ex7_lack, if_pos rfl, ex7_read] at hc
  refine hc.mono ?_
  rintro e w14 ⟨a14, n14, c14, X14, rfl, b14, h14, k14⟩
  have H14 : Hid ((BytesIn (fun i => J i ∨ X14 i) w14 (.slice a1 n1 c1) [120, 121, 122] ∧ BytesIn (fun i => J i ∨ X14 i) w14 (.slice a11 n11 c11) [120, 121]) ∧ BytesIn (fun i => J i ∨ X14 i) w14 (.slice a14 n14 c14) [120] ∧ One w (fun i => J i ∨ X14 i) w14 p 5 ex5) := ⟨⟨(H13.out.1.1.keep k14 fun _ h => h).wide fun _ _ h => .inl h, (H13.out.1.2.keep k14 fun _ h => h).wide fun _ _ h => .inl h⟩, b14, h14.swap.one⟩
  clear H13 hc h14 k14 b14
  go_wp2_with fail
  refine (H14.out.2.2.wipe (by omega)).mono ?_
  rintro e w15 ⟨rfl, h15, k15⟩
  have s1 := string_bytes (H14.out.1.1.keep k15 fun _ h => h)
  have s2 := string_bytes (H14.out.1.2.keep k15 fun _ h => h)
  have s3 := string_bytes (H14.out.2.1.keep k15 fun _ h => h)
  have HB := Lib.hid h15.below
  obtain ⟨O, I, hd, _⟩ := h15
  have hs := serial_any hd
  have hz := size_any' hd [97] name_a
  rw [ex5_serial] at hs
  rw [ex5_size] at hz
  have HS := Lib.hid hs
  have HZ := Lib.hid hz
  clear H14 k15 hd hs hz
  go_wp2_with (first | (go_at_call 29; refine HS.out.mono ?_; rintro e w16 ⟨rfl, rfl⟩) | (go_at_call 25; refine HZ.out.mono ?_; rintro e w17 ⟨rfl, rfl⟩))
  go_ret
  exact ⟨rfl, HB.out⟩
end Go.Proofs.Yticbfnflillokaa
