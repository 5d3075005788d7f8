/- awake: the chapter's examples come out as they should. -/
import Derived.Test.YtclchlcfcnlmhaaFg
import Derived.Deep.RegionHeldLaw
namespace Go.Proofs.Ytclchlcfcnlmhaa
open Go.RowKit Go.Maps Go.Shelf
set_option linter.unusedSimpArgs false
theorem MsAt.new (w : World) (l : List MK) (hl : l.length ≤ 1000000) (hok : ∀ q ∈ l, q.ok) (C : Array Value) (hC : ∀ j q r, l[j]? = some q → r < 3 → C[j * 3 + r]? = q.cells[r]?) : MsAt (w.alloc (.cells C 26)) (.slice (some ⟨w.heap.size, 0, none⟩) l.length l.length) l := by
  refine ⟨_, _, rfl, by omega, Nat.le_refl _, (fun h => by cases h), fun _ => ⟨_, 0, rfl, by simp [World.size_alloc], fun j x hj => ⟨hok x (List.mem_of_getElem? hj), fun r hr => ?_⟩⟩⟩
  rw [Nat.zero_add, World.cell?_alloc_new]
  exact hC j x r hj hr
theorem EsAt.new (w : World) (l : List EN) (hl : l.length ≤ 1000000) (hok : ∀ q ∈ l, q.ok) (C : Array Value) (hC : ∀ j q r, l[j]? = some q → r < 3 → C[j * 3 + r]? = q.cells[r]?) : EsAt (w.alloc (.cells C 51)) (.slice (some ⟨w.heap.size, 0, none⟩) l.length l.length) l := by
  refine ⟨_, _, rfl, by omega, Nat.le_refl _, (fun h => by cases h), fun _ => ⟨_, 0, rfl, by simp [World.size_alloc], fun j x hj => ⟨hok x (List.mem_of_getElem? hj), fun r hr => ?_⟩⟩⟩
  rw [Nat.zero_add, World.cell?_alloc_new]
  exact hC j x r hj hr
def exL : List MK := [⟨2, 5, 9⟩, ⟨4, 1, 3⟩]
def exE : List EN := [⟨4, 2, none, 0, 0⟩, ⟨4, 2, none, 0, 0⟩, ⟨2, 9, none, 0, 0⟩]
theorem MK.may_of {m : MK} (h : m.mayB = true) (h0 : 0 ≤ m.o) : m.may := by
  unfold MK.mayB at h
  simp only [Bool.and_eq_true, decide_eq_true_eq] at h
  obtain ⟨⟨⟨⟨h1, h2⟩, h3⟩, h4⟩, h5⟩ := h
  exact ⟨⟨h1, h2⟩, ⟨h3, h4⟩, h0, h5⟩
theorem exL_may : MayR exL := by
  refine ⟨by decide, fun m hm => ?_, by simp [Ris, exL]⟩
  simp only [exL, List.mem_cons, List.not_mem_nil, or_false] at hm
  rcases hm with rfl | rfl <;> exact MK.may_of (by decide) (by decide)
theorem exE_stands : Stands 20 exE := by
  refine .inr ⟨by decide, fun e he => ?_⟩
  simp only [exE, List.mem_cons, List.not_mem_nil, or_false] at he
  rcases he with rfl | rfl | rfl <;> (unfold EN.may; exact ⟨by decide, by decide, by decide⟩)
theorem exL_new (w : World) : MsAt (w.alloc (.cells #[.int .i64 2, .int .u64 5, .int .u64 9, .int .i64 4, .int .u64 1, .int .u64 3] 26)) (.slice (some ⟨w.heap.size, 0, none⟩) 2 2) exL := by
  refine MsAt.new w exL (by decide) (fun m hm => (exL_may.may m hm).ok) _ fun j q r hj hr => ?_
  have hjl := (List.getElem?_eq_some_iff.1 hj).1
  simp only [exL, List.length_cons, List.length_nil] at hjl
  rcases (show j = 0 ∨ j = 1 by omega) with rfl | rfl <;> (simp [exL] at hj; subst hj; rcases (show r = 0 ∨ r = 1 ∨ r = 2 by omega) with rfl | rfl | rfl <;> rfl)
theorem exE_new (w : World) : EsAt (w.alloc (.cells #[.int .i64 4, .int .u64 2, .slice none 0 0, .int .i64 4, .int .u64 2, .slice none 0 0, .int .i64 2, .int .u64 9, .slice none 0 0] 51)) (.slice (some ⟨w.heap.size, 0, none⟩) 3 3) exE := by
  refine EsAt.new w exE (by decide) (fun m hm => ?_) _ fun j q r hj hr => ?_
  · simp only [exE, List.mem_cons, List.not_mem_nil, or_false] at hm
    rcases hm with rfl | rfl | rfl <;> exact ⟨by decide, by decide, by decide⟩
  have hjl := (List.getElem?_eq_some_iff.1 hj).1
  simp only [exE, List.length_cons, List.length_nil] at hjl
  rcases (show j = 0 ∨ j = 1 ∨ j = 2 by omega) with rfl | rfl | rfl <;> (simp [exE] at hj; subst hj; rcases (show r = 0 ∨ r = 1 ∨ r = 2 by omega) with rfl | rfl | rfl <;> rfl)
def exM : List MK := [⟨2, 5, 9⟩, ⟨3, 7, 10⟩, ⟨4, 1, 3⟩]
def exF : List MK := [⟨2, 9, 22⟩, ⟨4, 2, 20⟩]
theorem exA (base : Nat) (w : World) (v : Value) (z : Int) (h : AddPost base w v z exL ⟨3, 7, 10⟩) : z = 0 ∧ OwnMs base w v exM := by
  rcases h with ⟨h, -⟩ | ⟨-, h⟩
  · exact absurd ⟨exL_may, MK.may_of (by decide) (by decide)⟩ h
  · rcases h with ⟨x, hx, hz, ho⟩ | ⟨hx, -⟩
    · have : intoR exL [⟨3, 7, 10⟩] = some exM := by decide
      rw [this] at hx
      cases hx
      exact ⟨hz, ho⟩
    · have : intoR exL [⟨3, 7, 10⟩] = some exM := by decide
      rw [this] at hx
      cases hx
theorem exT (base : Nat) (w : World) (v : Value) (z : Int) (h : TakePost base w v z exL 20 exE) : z = 0 ∧ OwnMs base w v exF := by
  have e : intoR exL (stand 20 exE) = some exF := by decide
  rcases h with ⟨h, -⟩ | ⟨-, h⟩
  · exact absurd ⟨exL_may, exE_stands⟩ h
  · rcases h with ⟨x, hx, hz, ho⟩ | ⟨hx, -⟩
    · rw [e] at hx
      cases hx
      exact ⟨hz, ho⟩
    · rw [e] at hx
      cases hx
theorem exCut : cutM 9 exL = [⟨4, 1, 3⟩] := by decide
theorem exMay (v : Value) (w : World) (hp : MsAt w v exL) : Calls Try.prog 14 #[v] w fun e w' => e = .returned (.bool true) ∧ Below w.heap.size w w' :=
  (mayR_any v exL w hp).mono fun e w' ⟨b, he, hb, hB⟩ => ⟨by rw [he, hb.2 exL_may], hB⟩
theorem ex3 {w : World} {a : Option Addr} {n c : Nat} {l : List MK} {j : Nat} {x : MK} (h : MsAt w (.slice a n c) l) (hx : l[j]? = some x) : ∃ b off, a = some ⟨b, off, none⟩ ∧ ∀ W, On w W → W.cell? ⟨b, off + j * 3, none⟩ = some (.int .i64 x.p) ∧ W.cell? ⟨b, off + j * 3 + 1, none⟩ = some (.int .u64 x.s) ∧ W.cell? ⟨b, off + j * 3 + 2, none⟩ = some (.int .u64 x.o) := by
  obtain ⟨b, off, h1, -, h2⟩ := h.cell hx
  exact ⟨b, off, h1, h2⟩
set_option maxHeartbeats 4000000 in
theorem awake_any (w : World) : Calls Try.prog 9 #[] w fun e w' => e = .returned (.bool true) ∧ Below w.heap.size w w' := by
  go_enter Try.func9, Try.ntmps9
  go_wp2_with fail
  refine (mark_any _ _ _ _).mono ?_
  rintro e w1 ⟨rfl, hb1⟩
  have HB1 := Lib.hid hb1
  clear hb1
  go_wp2_with fail
  refine (mark_any _ _ _ _).mono ?_
  rintro e w2 ⟨rfl, hb2⟩
  have HB2 := Lib.hid (HB1.out.trans (hb2.mono HB1.out.size))
  clear hb2
  obtain ⟨W2, hW2⟩ : ∃ W2, W2 = w2.alloc (.cells #[.int .i64 2, .int .u64 5, .int .u64 9, .int .i64 4, .int .u64 1, .int .u64 3] 26) := ⟨_, rfl⟩
  have HL := Lib.hid (show MsAt W2 (.slice (some ⟨w2.heap.size, 0, none⟩) 2 2) exL by rw [hW2]; exact exL_new w2)
  have HB := Lib.hid (show Below w.heap.size w W2 by rw [hW2]; exact HB2.out.trans ((Go.Joins.below_alloc1 w2 _).mono HB2.out.size))
  obtain ⟨gl, hgl⟩ : ∃ gl, w2.heap.size = gl := ⟨_, rfl⟩
  rw [hgl] at HL
  go_upto_region 2 with fail
  rw [← hW2]
  clear hW2 hgl HB1 HB2
  have HA := Lib.hid (show Calls Try.prog 12 #[.slice (some ⟨gl, 0, none⟩) 2 2, .int .i64 2, .int .u64 5] W2 fun e w' => e = .returned (.tuple #[.int .i64 1, .int .u64 9]) ∧ Below W2.heap.size W2 w' from by have := ask_any _ exL 2 5 W2 HL.out; rwa [show askV exL 2 5 = (1, 9) from by decide] at this)
  go_wp2_with fail
  refine HA.out.mono ?_
  rintro e wa0 ⟨rfl, hb⟩
  have HL := Lib.hid (HL.out.below hb)
  have HB := Lib.hid (HB.out.trans (hb.mono HB.out.size))
  clear hb HA
  have HA := Lib.hid (show Calls Try.prog 12 #[.slice (some ⟨gl, 0, none⟩) 2 2, .int .i64 2, .int .u64 4] wa0 fun e w' => e = .returned (.tuple #[.int .i64 2, .int .u64 0]) ∧ Below wa0.heap.size wa0 w' from by have := ask_any _ exL 2 4 wa0 HL.out; rwa [show askV exL 2 4 = (2, 0) from by decide] at this)
  go_wp2_with fail
  refine HA.out.mono ?_
  rintro e wa1 ⟨rfl, hb⟩
  have HL := Lib.hid (HL.out.below hb)
  have HB := Lib.hid (HB.out.trans (hb.mono HB.out.size))
  clear hb HA
  have HA := Lib.hid (show Calls Try.prog 12 #[.slice (some ⟨gl, 0, none⟩) 2 2, .int .i64 2, .int .u64 6] wa1 fun e w' => e = .returned (.tuple #[.int .i64 0, .int .u64 0]) ∧ Below wa1.heap.size wa1 w' from by have := ask_any _ exL 2 6 wa1 HL.out; rwa [show askV exL 2 6 = (0, 0) from by decide] at this)
  go_wp2_with fail
  refine HA.out.mono ?_
  rintro e wa2 ⟨rfl, hb⟩
  have HL := Lib.hid (HL.out.below hb)
  have HB := Lib.hid (HB.out.trans (hb.mono HB.out.size))
  clear hb HA
  go_wp2_with fail
  refine (mark_any _ _ _ _).mono ?_
  rintro e w3 ⟨rfl, hb3⟩
  have HL := Lib.hid (HL.out.below hb3)
  have HB := Lib.hid (HB.out.trans (hb3.mono HB.out.size))
  clear hb3
  go_wp2_with fail
  refine (add_any _ exL ⟨3, 7, 10⟩ _ HL.out (by exact (MK.may_of (by decide) (by decide)).ok)).mono ?_
  rintro e w4 ⟨v4, z4, rfl, hadd, hb4⟩
  obtain ⟨rfl, ho4⟩ := exA _ _ _ _ hadd
  have hm4 := ho4.at (fun m hm => by
    simp only [exM, List.mem_cons, List.not_mem_nil, or_false] at hm
    rcases hm with rfl | rfl | rfl <;> exact (MK.may_of (by decide) (by decide)).ok)
  have HL := Lib.hid (HL.out.below hb4)
  have HB := Lib.hid (HB.out.trans (hb4.mono HB.out.size))
  obtain ⟨a4, c4, hv4, -⟩ := hm4.form
  have hl4 : exM.length = 3 := rfl
  rw [hl4] at hv4
  subst hv4
  have HM := Lib.hid hm4
  clear hb4 hadd ho4 hm4 hl4
  obtain ⟨W5, hW5⟩ : ∃ W5, W5 = w4.alloc (.cells #[.int .i64 4, .int .u64 2, .slice none 0 0, .int .i64 4, .int .u64 2, .slice none 0 0, .int .i64 2, .int .u64 9, .slice none 0 0] 51) := ⟨_, rfl⟩
  have hb5 : Below w4.heap.size w4 W5 := by rw [hW5]; exact Go.Joins.below_alloc1 w4 _
  have HT := Lib.hid (take_any (.slice (some ⟨gl, 0, none⟩) 2 2) (.slice (some ⟨w4.heap.size, 0, none⟩) 3 3) exL 20 exE W5 (by decide) (HL.out.below hb5) (by rw [hW5]; exact exE_new w4) (by decide))
  have HL := Lib.hid (HL.out.below hb5)
  have HM := Lib.hid (HM.out.below hb5)
  have HB := Lib.hid (HB.out.trans (hb5.mono HB.out.size))
  clear hb5
  go_wp2_with fail
  rw [← hW5]
  clear hW5
  refine HT.out.mono ?_
  rintro e w6 ⟨v6, z6, rfl, htk, hb6⟩
  obtain ⟨rfl, ho6⟩ := exT _ _ _ _ htk
  have hm6 := ho6.at (fun m hm => by
    simp only [exF, List.mem_cons, List.not_mem_nil, or_false] at hm
    rcases hm with rfl | rfl <;> exact (MK.may_of (by decide) (by decide)).ok)
  have hl := HL.out.below hb6
  have hm := HM.out.below hb6
  have HB := Lib.hid (HB.out.trans (hb6.mono HB.out.size))
  obtain ⟨a6, c6, hv6, -⟩ := hm6.form
  have hl6 : exF.length = 2 := rfl
  rw [hl6] at hv6
  subst hv6
  obtain ⟨b4, o4, rfl, h4⟩ := ex3 (j := 1) hm rfl
  obtain ⟨b6, o6, he6, h6⟩ := ex3 (j := 0) hm6 rfl
  obtain ⟨b7, o7, he7, h7⟩ := ex3 (j := 1) hm6 rfl
  cases he6
  cases he7
  have HS := Lib.hid (show ∀ W, On w6 W → ((W.cell? ⟨b4, o4 + 3, none⟩ = some (.int .i64 3) ∧ W.cell? ⟨b4, o4 + 3 + 1, none⟩ = some (.int .u64 7) ∧ W.cell? ⟨b4, o4 + 3 + 2, none⟩ = some (.int .u64 10)) ∧ (W.cell? ⟨b6, o6, none⟩ = some (.int .i64 2) ∧ W.cell? ⟨b6, o6 + 1, none⟩ = some (.int .u64 9) ∧ W.cell? ⟨b6, o6 + 2, none⟩ = some (.int .u64 22)) ∧ W.cell? ⟨b6, o6 + 3, none⟩ = some (.int .i64 4) ∧ W.cell? ⟨b6, o6 + 3 + 1, none⟩ = some (.int .u64 2) ∧ W.cell? ⟨b6, o6 + 3 + 2, none⟩ = some (.int .u64 20)) from fun W hW => ⟨by simpa using h4 W hW, by simpa using h6 W hW, by simpa using h7 W hW⟩)
  have HLW := Lib.hid (show ∀ W, On w6 W → MsAt W (.slice (some ⟨gl, 0, none⟩) 2 2) exL from fun W hW => hl.below hW)
  have HQ := Lib.hid (show On w6 w6.drew from (Below.drew (Below.refl _ w6)))
  have k1 := fun w => eql26 ⟨3, 7, 10⟩ ⟨3, 7, 10⟩ w
  have k2 := fun w => eql26 ⟨2, 9, 22⟩ ⟨2, 9, 22⟩ w
  have k3 := fun w => eql26 ⟨4, 2, 20⟩ ⟨4, 2, 20⟩ w
  have kg := guard26
  simp only [decide_true] at k1 k2 k3
  clear hb6 htk ho6 hm6 hl6 hl hm h4 h6 h7 HL HM HT
  go_wp2_with fail
  go_region_held (fun W => (W.cell? ⟨b4, o4 + 3, none⟩ = some (.int .i64 3) ∧ W.cell? ⟨b4, o4 + 3 + 1, none⟩ = some (.int .u64 7) ∧ W.cell? ⟨b4, o4 + 3 + 2, none⟩ = some (.int .u64 10)) ∧ (W.cell? ⟨b6, o6, none⟩ = some (.int .i64 2) ∧ W.cell? ⟨b6, o6 + 1, none⟩ = some (.int .u64 9) ∧ W.cell? ⟨b6, o6 + 2, none⟩ = some (.int .u64 22)) ∧ W.cell? ⟨b6, o6 + 3, none⟩ = some (.int .i64 4) ∧ W.cell? ⟨b6, o6 + 3 + 1, none⟩ = some (.int .u64 2) ∧ W.cell? ⟨b6, o6 + 3 + 2, none⟩ = some (.int .u64 20)) ((exact HS.out _ HQ.out)) (first
    | (go_at_call 31; refine (mark_any _ _ _ _).mono ?_; rintro e wn ⟨rfl, hbn⟩; have HQ := Lib.hid (On.step HQ.out hbn); clear hbn)
    | (go_at_call 19; refine (cut_any _ exL 9 _ (HLW.out _ HQ.out) (by decide)).mono ?_; rintro e wn ⟨vn, rfl, hon, hbn⟩; have HQ := Lib.hid (On.step HQ.out hbn); rw [exCut] at hon; obtain ⟨an, cn, hvn, -⟩ := (hon.at (fun m hm => by simp at hm; rw [hm]; exact (MK.may_of (by decide) (by decide)).ok)).form; have hln : ([⟨4, 1, 3⟩] : List MK).length = 1 := rfl; rw [hln] at hvn; subst hvn; clear hbn hon hln)
    | (go_at_call 14; refine (exMay _ _ (HLW.out _ HQ.out)).mono ?_; rintro e wn ⟨rfl, hbn⟩; have HQ := Lib.hid (On.step HQ.out hbn); clear hbn))
  all_goals go_wp2
  all_goals go_ret
  all_goals exact ⟨rfl, HB.out.trans (Below.mono HQ.out HB.out.size)⟩
end Go.Proofs.Ytclchlcfcnlmhaa
