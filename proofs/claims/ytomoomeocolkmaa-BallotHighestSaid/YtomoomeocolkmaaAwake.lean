/- awake: the chapter's examples. -/
import Derived.Test.YtomoomeocolkmaaNextR
import Derived.Test.YtomoomeocolkmaaQuorum
namespace Go.Proofs.Ytomoomeocolkmaa
open Go.RowKit
theorem BsAt.nil (w : World) : BsAt w (.slice none 0 0) [] := ⟨none, 0, rfl, by simp, by simp, fun _ => rfl, fun h => absurd h (by simp)⟩
/-- ballots in a new block -/
theorem BsAt.new (w : World) (l : List BV) (hl : l.length ≤ 1000000) (hok : ∀ q ∈ l, q.ok) (C : Array Value) (hC : ∀ j q r, l[j]? = some q → r < 3 → C[j * 3 + r]? = q.cells[r]?) : BsAt (w.alloc (.cells C 24)) (.slice (some ⟨w.heap.size, 0, none⟩) l.length l.length) l := by
  refine ⟨_, _, rfl, by omega, Nat.le_refl _, (fun h => by cases h), fun _ => ⟨_, 0, rfl, by simp [World.size_alloc], fun j x hj => ⟨hok x (List.mem_of_getElem? hj), fun r hr => ?_⟩⟩⟩
  rw [Nat.zero_add, World.cell?_alloc_new]
  exact hC j x r hj hr
theorem IntsAt.new (w : World) (l : List Int) (hl : l.length ≤ 1000000) (hok : ∀ x ∈ l, -9223372036854775808 ≤ x ∧ x ≤ 9223372036854775807) : IntsAt (w.alloc (.cells (l.map (Value.int .i64)).toArray 3)) (.slice (some ⟨w.heap.size, 0, none⟩) l.length l.length) l := by
  refine ⟨_, _, rfl, by omega, Nat.le_refl _, (fun h => by cases h), fun _ => ⟨_, 0, rfl, by simp [World.size_alloc], fun j x hj => ⟨hok x (List.mem_of_getElem? hj), fun r hr => ?_⟩⟩⟩
  obtain rfl : r = 0 := by omega
  rw [Nat.zero_add, Nat.mul_one, Nat.add_zero, World.cell?_alloc_new]
  show (l.map (Value.int .i64)).toArray[j]? = _
  rw [List.getElem?_toArray, List.getElem?_map, hj]
  rfl
theorem quorum_new (n : Int) (l : List Int) (W : World) (Q : Bool) (hn : -9223372036854775808 ≤ n ∧ n ≤ 9223372036854775807) (hl : l.length ≤ 100000) (hok : ∀ x ∈ l, -9223372036854775808 ≤ x ∧ x ≤ 9223372036854775807) (hQ : quorum n l = Q) :
    Calls Try.prog 22 #[.int .i64 n, .slice (some ⟨W.heap.size, 0, none⟩) l.length l.length] (W.alloc (.cells (l.map (Value.int .i64)).toArray 3)) fun e w' => e = .returned (.bool Q) ∧ Below W.heap.size W w' :=
  (quorum_any n _ l _ hn (IntsAt.new W l (by omega) hok) hl).mono fun e w' ⟨he, hb⟩ => ⟨by rw [he, hQ], (Go.Joins.below_alloc1 W _).trans (hb.mono (by simp [World.size_alloc]))⟩
theorem ok3 (r n i : Int) (h : (0 ≤ r ∧ r ≤ 18446744073709551615) ∧ (-9223372036854775808 ≤ n ∧ n ≤ 9223372036854775807) ∧ (0 ≤ i ∧ i ≤ 18446744073709551615)) : (BV.mk r n i).ok := h
set_option maxRecDepth 100000 in
set_option maxHeartbeats 4000000 in
theorem awake_any (w : World) : Calls Try.prog 10 #[] w fun e w' => e = .returned (.bool true) ∧ Below w.heap.size w w' := by
  have X1 : next 3 7 [⟨4, 1, 1⟩, ⟨2, 2, 2⟩] = (⟨5, 3, 7⟩, 0) := by decide
  have X2 : next 0 1 [] = (⟨0, 0, 0⟩, 1) := by decide
  go_enter Try.func10, Try.ntmps10
  go_wp2_with fail
  refine (b_any 4 1 1 w).mono ?_
  rintro e w1 ⟨rfl, hb1⟩
  have B1 := Lib.hid hb1
  clear hb1
  go_wp2_with fail
  refine (b_any 2 2 2 w1).mono ?_
  rintro e w2 ⟨rfl, hb2⟩
  have B2 := Lib.hid (B1.out.trans (hb2.mono B1.out.size))
  clear hb2 B1
  go_wp2_with fail
  have hc := next_any 3 7 (.slice (some ⟨w2.heap.size, 0, none⟩) 2 2) [⟨4, 1, 1⟩, ⟨2, 2, 2⟩] (w2.alloc (.cells #[.int .u64 4, .int .i64 1, .int .u64 1, .int .u64 2, .int .i64 2, .int .u64 2] 24))
    (BsAt.new w2 [⟨4, 1, 1⟩, ⟨2, 2, 2⟩] (by decide) (fun q hq => by
      simp only [List.mem_cons, List.not_mem_nil, or_false] at hq
      rcases hq with rfl | rfl
      · exact ok3 _ _ _ (by decide)
      · exact ok3 _ _ _ (by decide)) _ (fun j q r hj hr => by
      have hjl := (List.getElem?_eq_some_iff.1 hj).1
      simp only [List.length_cons, List.length_nil] at hjl
      rcases (show j = 0 ∨ j = 1 by omega) with rfl | rfl
      · simp at hj; subst hj
        rcases (show r = 0 ∨ r = 1 ∨ r = 2 by omega) with rfl | rfl | rfl <;> rfl
      · simp at hj; subst hj
        rcases (show r = 0 ∨ r = 1 ∨ r = 2 by omega) with rfl | rfl | rfl <;> rfl))
  rw [X1] at hc
  refine hc.mono ?_
  rintro e w3 ⟨rfl, hb3⟩
  have hb3 := (B2.out.alloc B2.out.size (.cells #[.int .u64 4, .int .i64 1, .int .u64 1, .int .u64 2, .int .i64 2, .int .u64 2] 24)).trans (hb3.mono (by have := B2.out.size; simp [World.size_alloc]; omega))
  have B3 := Lib.hid (hb3.alloc hb3.size (.cells #[.int .u64 5, .int .i64 3, .int .u64 7] 24))
  have N3 := Lib.hid (Box3.new w3 ⟨5, 3, 7⟩)
  clear hb3 hc B2
  go_wp2_with fail
  have hc := next_any 0 1 (.slice none 0 0) [] (w3.alloc (.cells #[.int .u64 5, .int .i64 3, .int .u64 7] 24)) (BsAt.nil _)
  rw [X2] at hc
  refine hc.mono ?_
  rintro e w4 ⟨rfl, hb4⟩
  have N4 := N3.out.below hb4 (by simp [World.size_alloc])
  have hb4 := B3.out.trans (hb4.mono B3.out.size)
  have B4 := Lib.hid (hb4.alloc hb4.size (.cells #[.int .u64 0, .int .i64 0, .int .u64 0] 24))
  have N5 := N4.below (Go.Joins.below_alloc1 w4 (.cells #[.int .u64 0, .int .i64 0, .int .u64 0] 24)) N4.lt
  clear hb4 hc B3 N3 N4
  obtain ⟨W, hW⟩ : ∃ W, W = w4.alloc (.cells #[.int .u64 0, .int .i64 0, .int .u64 0] 24) := ⟨_, rfl⟩
  rw [← hW] at B4 N5
  have HC := Lib.hid (show ∀ W', Below W.heap.size W W' → W'.cell? ⟨w3.heap.size, 0, none⟩ = some (.int .u64 5) ∧ W'.cell? ⟨w3.heap.size, 1, none⟩ = some (.int .i64 3) ∧ W'.cell? ⟨w3.heap.size, 2, none⟩ = some (.int .u64 7) from fun W' hb => by
    have h := N5.below hb N5.lt
    exact ⟨h.c0, h.c1, h.c2⟩)
  have C3 := Lib.hid (fun W => (cmp_any ⟨2, 1, 1⟩ ⟨1, 3, 9⟩ W).mono fun e w' h => (show e = .returned (.int .i64 1) ∧ Below W.heap.size W w' from h))
  have C6 := Lib.hid (fun W => (cmp_any ⟨1, 2, 5⟩ ⟨1, 2, 4⟩ W).mono fun e w' h => (show e = .returned (.int .i64 1) ∧ Below W.heap.size W w' from h))
  have Q8 := Lib.hid (fun W => quorum_new 3 [1, 1] W false (by decide) (by decide) (by decide) (by decide))
  have Q9 := Lib.hid (fun W => quorum_new 3 [1, 3] W true (by decide) (by decide) (by decide) (by decide))
  have Q10 := Lib.hid (fun W => quorum_new 1 [1] W true (by decide) (by decide) (by decide) (by decide))
  have B0 := Lib.hid (Below.refl W.heap.size W).drew
  have k1 := eql24 ⟨5, 3, 7⟩ ⟨5, 3, 7⟩
  have k2 := guard24
  rw [decide_eq_true (rfl : (⟨5, 3, 7⟩ : BV) = ⟨5, 3, 7⟩)] at k1
  dsimp only [BV.val] at k1
  clear N5
  have K1 : True := trivial
  have K2 : True := trivial
  have K3 : True := trivial
  have K4 : True := trivial
  have K5 : True := trivial
  have K6 : True := trivial
  have K7 : True := trivial
  have K8 : True := trivial
  have K9 : True := trivial
  go_wp2_with fail
  rw [← hW]
  clear hW X1 X2
  go_region_held (fun W' => W'.cell? ⟨w3.heap.size, 0, none⟩ = some (.int .u64 5) ∧ W'.cell? ⟨w3.heap.size, 1, none⟩ = some (.int .i64 3) ∧ W'.cell? ⟨w3.heap.size, 2, none⟩ = some (.int .u64 7))
    ((refine HC.out _ ?_; (first | exact B10.out | exact B9.out.alloc B9.out.size _ | exact B9.out | exact B8.out.alloc B8.out.size _ | exact B8.out | exact B7.out.alloc B7.out.size _ | exact B7.out | exact B6.out | exact B5.out | exact B4'.out | exact B3.out | exact B2.out | exact B1.out | exact B0.out))) (first
    | (clear K1; go_at_call 27; refine (b_any 2 1 1 _).mono ?_; rintro e v1 ⟨rfl, hb⟩; have B1 := Lib.hid (B0.out.trans (hb.mono B0.out.size)); clear hb)
    | (clear K2; go_at_call 27; refine (b_any 1 3 9 _).mono ?_; rintro e v2 ⟨rfl, hb⟩; have B2 := Lib.hid (B1.out.trans (hb.mono B1.out.size)); clear hb)
    | (clear K3; go_at_call 16; refine (C3.out _).mono ?_; rintro e v3 ⟨rfl, hb⟩; have B3 := Lib.hid (B2.out.trans (hb.mono B2.out.size)); clear hb)
    | (clear K4; go_at_call 27; refine (b_any 1 2 5 _).mono ?_; rintro e v4 ⟨rfl, hb⟩; have B4' := Lib.hid (B3.out.trans (hb.mono B3.out.size)); clear hb)
    | (clear K5; go_at_call 27; refine (b_any 1 2 4 _).mono ?_; rintro e v5 ⟨rfl, hb⟩; have B5 := Lib.hid (B4'.out.trans (hb.mono B4'.out.size)); clear hb)
    | (clear K6; go_at_call 16; refine (C6.out _).mono ?_; rintro e v6 ⟨rfl, hb⟩; have B6 := Lib.hid (B5.out.trans (hb.mono B5.out.size)); clear hb)
    | (clear K7; go_at_call 27; refine (b_any 5 3 7 _).mono ?_; rintro e v7 ⟨rfl, hb⟩; have B7 := Lib.hid (B6.out.trans (hb.mono B6.out.size)); clear hb)
    | (clear K8; go_at_call 22; refine (Q8.out _).mono ?_; rintro e v8 ⟨rfl, hb⟩; have B8 := Lib.hid (B7.out.trans (hb.mono B7.out.size)); clear hb)
    | (clear K9; go_at_call 22; refine (Q9.out _).mono ?_; rintro e v9 ⟨rfl, hb⟩; have B9 := Lib.hid (B8.out.trans (hb.mono B8.out.size)); clear hb)
    | (go_at_call 22; refine (Q10.out _).mono ?_; rintro e v10 ⟨rfl, hb⟩; have B10 := Lib.hid (B9.out.trans (hb.mono B9.out.size)); clear hb))
  all_goals go_wp2
  all_goals go_ret
  all_goals exact ⟨rfl, B4.out.trans (B10.out.mono B4.out.size)⟩
end Go.Proofs.Ytomoomeocolkmaa
