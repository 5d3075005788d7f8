/- awake: the chapter's examples. -/
import Derived.Test.YtbmebmkpjbgdoaaSys
namespace Go.Proofs.Ytbmebmkpjbgdoaa
open Go.RowKit
def ex0 : Nt := Nt.new 3
def ex1 : Nt := (ex0.send 1 2 [97]).2
def ex2 : Nt := (ex1.send 1 3 [98]).2
def ex3 : Nt := (ex2.deliver 0).2.2
def ex4 : Nt := (ex3.turn 3 1 true).2
def ex5 : Nt := (ex4.turn 1 3 false).2
def ex6 : Nt := (ex5.double 0).2
theorem ex1_ok : ex0.send 1 2 [97] = (0, ex1) := by kernel_rfl
theorem ex2_ok : ex1.send 1 3 [98] = (0, ex2) := by kernel_rfl
theorem ex2_at : ex2.at 1 = (⟨1, 3, [98]⟩, 0) := by kernel_rfl
theorem ex3_ok : ex2.deliver 0 = (⟨1, 2, [97]⟩, 0, ex3) := by kernel_rfl
theorem ex3_len : ex3.bag.length = 1 := by kernel_rfl
theorem ex4_ok : ex3.turn 3 1 true = (0, ex4) := by kernel_rfl
theorem ex4_del : ex4.deliver 0 = (noMsg, 6, ex4) := by kernel_rfl
theorem ex4_send : ex4.send 1 3 [] = (6, ex4) := by kernel_rfl
theorem ex5_ok : ex4.turn 1 3 false = (0, ex5) := by kernel_rfl
theorem ex6_ok : ex5.double 0 = (0, ex6) := by kernel_rfl
theorem ex6_find : ex6.find 3 1 = (1, true) := by kernel_rfl
theorem ex6_send : ex6.send 1 1 [] = (1, ex6) := by kernel_rfl
theorem keep_cell {wi w' : World} {J : Bks} {k i : Nat} {v : Value} (h : Keep J wi w') (hJ : J k) (hc : wi.cell? ⟨k, i, none⟩ = some v) : w'.cell? ⟨k, i, none⟩ = some v := by
  rw [← hc]; exact World.cell?_of_block (h.2 k hJ (World.block_lt_of_cell? wi _ hc))
set_option maxRecDepth 100000 in
set_option maxHeartbeats 4000000 in
theorem awake_any (w : World) : Calls Try.prog 9 #[] w fun e w' => e = .returned (.bool true) ∧ Below w.heap.size w w' := by
  have kc := fun (w : World) (C : Array Value) (n c : Nat) => Go.Joins.run_convert_bytes_const_at (P := Try.prog) w 31 5 C n c w.heap.size rfl Try.underlying31 Try.underlying5
  go_enter Try.func9, Try.ntmps9
  go_wp2_with fail
  refine (new_yes 3 w (by omega)).mono ?_
  rintro e w1 ⟨p, rfl, hf⟩
  have H1 : Hid (One w (fun _ => False) w1 p ex0) := One.of_fresh hf
  clear hf
  go_wp2_with fail
  have hc := H1.out.sendLit 1 2 [97] #[.int .u8 97] (1, 2) rfl (by decide)
  rw [ex1_ok] at hc
  refine hc.mono ?_
  rintro e w2 ⟨rfl, h2, _⟩
  have H2 : Hid (One w (fun _ => False) w2 p ex1) := h2
  clear H1 hc h2
  go_wp2_with fail
  have hc := H2.out.sendLit 1 3 [98] #[.int .u8 98] (1, 2) rfl (by decide)
  rw [ex2_ok] at hc
  refine hc.mono ?_
  rintro e w3 ⟨rfl, h3, _⟩
  have H3 : Hid (One w (fun _ => False) w3 p ex2) := h3
  clear H2 hc h3
  go_wp2_with fail
  have hc := H3.out.tell 1
  rw [ex2_at] at hc
  refine hc.mono ?_
  rintro e w4 ⟨a4, c4, X4, rfl, ho4, _, h4, _⟩
  have H4 : Hid (One w (fun k => (False ∨ X4 k) ∨ k = w4.heap.size) (w4.alloc (.cells #[.int .i64 1, .int .i64 3, .slice a4 1 c4] 49)) p ex2) := h4.more (Go.Joins.below_alloc1 w4 _) (fun k => k = w4.heap.size) fun k hk => by rw [World.size_alloc]; omega
  have hx4 : (w4.alloc (.cells #[.int .i64 1, .int .i64 3, .slice a4 1 c4] 49)).cell? ⟨w4.heap.size, 1, none⟩ = some (.int .i64 3) := by rw [World.cell?_alloc_new]; rfl
  have HX4 := Lib.hid hx4
  clear H3 hc h4 ho4 hx4
  go_wp2_with fail
  have hc := H4.out.deliver 0
  rw [ex3_ok] at hc
  refine hc.mono ?_
  rintro e w5 ⟨a5, c5, X5, rfl, ho5, hX5, h5, k5⟩
  have hx5 := keep_cell k5 (.inr rfl) HX4.out
  have hlt5 := World.block_lt_of_cell? w5 _ hx5
  have H5 : Hid (One w (fun k => (((False ∨ X4 k) ∨ k = w4.heap.size) ∨ X5 k) ∨ k = w5.heap.size) (w5.alloc (.cells #[.int .i64 1, .int .i64 2, .slice a5 1 c5] 49)) p ex3) := h5.more (Go.Joins.below_alloc1 w5 _) (fun k => k = w5.heap.size) fun k hk => by rw [World.size_alloc]; omega
  have hb5 : BytesIn (fun k => (((False ∨ X4 k) ∨ k = w4.heap.size) ∨ X5 k) ∨ k = w5.heap.size) (w5.alloc (.cells #[.int .i64 1, .int .i64 2, .slice a5 1 c5] 49)) (.slice a5 1 c5) [97] := ((ho5.bytesIn.wide fun k _ hk => by left; right; rw [hX5]; exact hk).below (Go.Joins.below_alloc1 w5 _) (Nat.le_refl _))
  have HX5 := Lib.hid (And.intro ((Go.Joins.below_alloc1 w5 (.cells #[.int .i64 1, .int .i64 2, .slice a5 1 c5] 49)).cell (p := ⟨w4.heap.size, 1, none⟩) hlt5 |>.trans hx5) (And.intro (show (w5.alloc (.cells #[.int .i64 1, .int .i64 2, .slice a5 1 c5] 49)).cell? ⟨w5.heap.size, 2, none⟩ = some (.slice a5 1 c5) by rw [World.cell?_alloc_new]; rfl) hb5))
  obtain ⟨J5, hJ5⟩ : ∃ J : Bks, J = fun k => (((False ∨ X4 k) ∨ k = w4.heap.size) ∨ X5 k) ∨ k = w5.heap.size := ⟨_, rfl⟩
  have HJ : Hid (J5 w4.heap.size ∧ J5 w5.heap.size) := by rw [hJ5]; exact ⟨.inl (.inl (.inr rfl)), .inr rfl⟩
  rw [← hJ5] at H5 HX5
  clear H4 HX4 hc ho5 hX5 h5 k5 hx5 hlt5 hb5 hJ5
  go_wp2_with fail
  have hc := H5.out.len
  rw [ex3_len] at hc
  refine hc.mono ?_
  rintro e w6 ⟨rfl, rfl⟩
  clear hc
  obtain ⟨w6, hw6⟩ : ∃ w6, w6 = w5.alloc (.cells #[.int .i64 1, .int .i64 2, .slice a5 1 c5] 49) := ⟨_, rfl⟩
  rw [← hw6] at H5 HX5 ⊢
  clear hw6
  go_wp2_with fail
  have hc := H5.out.does fun _ _ hd => Cut_at hd 3 1
  rw [ex4_ok] at hc
  refine hc.mono ?_
  rintro e w7 ⟨rfl, h7, k7⟩
  have H7 := Lib.hid h7
  have HX7 := Lib.hid (And.intro (keep_cell k7 HJ.out.1 HX5.out.1) (And.intro (keep_cell k7 HJ.out.2 HX5.out.2.1) (HX5.out.2.2.keep k7 fun _ h => h)))
  clear H5 HX5 hc h7 k7
  go_wp2_with fail
  have hc := H7.out.deliver 0
  rw [ex4_del] at hc
  refine hc.mono ?_
  rintro e w8 ⟨a8, c8, X8, rfl, ho8, _, h8, k8⟩
  have H8 : Hid (One w J5 (w8.alloc (.cells #[.int .i64 noMsg.fr, .int .i64 noMsg.to, .slice a8 noMsg.b.length c8] 49)) p ex4) := (h8.narrow fun _ h => .inl h).still (Go.Joins.below_alloc1 w8 _)
  have k8' := k8.trans (Keep.of_below (I := J5) (Go.Joins.below_alloc1 w8 (.cells #[.int .i64 noMsg.fr, .int .i64 noMsg.to, .slice a8 noMsg.b.length c8] 49)))
  have HX8 := Lib.hid (And.intro (keep_cell k8' HJ.out.1 HX7.out.1) (And.intro (keep_cell k8' HJ.out.2 HX7.out.2.1) (HX7.out.2.2.keep k8' fun _ h => h)))
  clear H7 HX7 hc h8 k8 k8' ho8
  go_wp2_with fail
  have hc := H8.out.send 1 3 [] (.slice none 0 0) (BytesIn.nil _ _)
  rw [ex4_send] at hc
  refine hc.mono ?_
  rintro e w9 ⟨rfl, h9, k9⟩
  have H9 := Lib.hid h9
  have HX9 := Lib.hid (And.intro (keep_cell k9 HJ.out.1 HX8.out.1) (And.intro (keep_cell k9 HJ.out.2 HX8.out.2.1) (HX8.out.2.2.keep k9 fun _ h => h)))
  clear H8 HX8 hc h9 k9
  go_wp2_with fail
  have hc := H9.out.does fun _ _ hd => Heal_at hd 1 3
  rw [ex5_ok] at hc
  refine hc.mono ?_
  rintro e w10 ⟨rfl, h10, k10⟩
  have H10 := Lib.hid h10
  have HX10 := Lib.hid (And.intro (keep_cell k10 HJ.out.1 HX9.out.1) (And.intro (keep_cell k10 HJ.out.2 HX9.out.2.1) (HX9.out.2.2.keep k10 fun _ h => h)))
  clear H9 HX9 hc h10 k10
  go_wp2_with fail
  have hc := H10.out.does fun _ _ hd => double_at hd 0
  rw [ex6_ok] at hc
  refine hc.mono ?_
  rintro e w11 ⟨rfl, h11, k11⟩
  have H11 := Lib.hid h11
  have HX11 := Lib.hid (And.intro (keep_cell k11 HJ.out.1 HX10.out.1) (And.intro (keep_cell k11 HJ.out.2 HX10.out.2.1) (HX10.out.2.2.keep k11 fun _ h => h)))
  clear H10 HX10 hc h11 k11
  go_wp2_with fail
  have hc := H11.out.find 3 1
  rw [ex6_find] at hc
  refine hc.mono ?_
  rintro e w12 ⟨rfl, h12, k12⟩
  have s2 := string_bytes (HX11.out.2.2.keep k12 fun _ h => h)
  have c1 := keep_cell k12 HJ.out.1 HX11.out.1
  have c2 := keep_cell k12 HJ.out.2 HX11.out.2.1
  have HB : Hid (∀ w', One w J5 w' p ex6 → Below w.heap.size w w') := fun w' h => h.below
  have HS := h12.send 1 1 [] (.slice none 0 0) (BytesIn.nil _ _)
  rw [ex6_send] at HS
  have HS := Lib.hid HS
  clear H11 HX11 hc h12 k12 HJ
  go_wp2_with (go_at_call 24; refine HS.out.mono ?_; rintro e w13 ⟨rfl, h13, _⟩; have HE := Lib.hid (HB.out w13 h13); clear h13)
  go_ret
  exact ⟨rfl, HE.out⟩
end Go.Proofs.Ytbmebmkpjbgdoaa
