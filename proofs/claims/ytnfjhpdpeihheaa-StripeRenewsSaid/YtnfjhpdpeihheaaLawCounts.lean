/- StripeCounts: whether any answers are enough. -/
import Derived.Test.YtnfjhpdpeihheaaRefCov
import Derived.Test.YtnfjhpdpeihheaaStill
namespace Go.Proofs.Ytnfjhpdpeihheaa
open Go.RowKit Go.Maps Go.Shelf
theorem cellAt_alloc2 (w : World) (o1 o2 : Obj) : (w.alloc o1).heap.size = w.heap.size + 1 ∧ ((w.alloc o1).alloc o2).heap.size = w.heap.size + 1 + 1 := by simp [World.size_alloc]
/-- what a law hands to long: a fragment, two rows -/
def LW (w : World) (f : Int) (u : Value) (r1 r2 : Value) : World := ((w.alloc (.cells #[.int .u64 f, u] 25)).alloc (.cells #[.int .u64 f, u] 25)).alloc (.cells #[r1, r2] 23)
theorem LW.size (w : World) (f : Int) (u r1 r2 : Value) : (LW w f u r1 r2).heap.size = w.heap.size + 3 := by unfold LW; simp only [World.size_alloc]
theorem LW.below (w : World) (f : Int) (u r1 r2 : Value) : Below w.heap.size w (LW w f u r1 r2) := by
  unfold LW
  exact (((Below.refl _ w).alloc (Nat.le_refl _) _).alloc (by simp only [World.size_alloc]; omega) _).alloc (by simp only [World.size_alloc]; omega) _
theorem LW.box (w : World) (f : Int) (u r1 r2 : Value) : Box25 (LW w f u r1 r2) w.heap.size f u := by
  unfold LW
  exact ((Box25.new w f u).alloc _).alloc _
theorem LW.long (w : World) (f n : Int) (a a1 a2 : Option Addr) (E c S c1 M c2 : Nat) :
    Calls Try.prog 10 #[.slice (some ⟨w.heap.size + 1, 0, none⟩) 1 1, .int .i64 n, .slice (some ⟨w.heap.size + 1 + 1, 0, none⟩) 2 2] (LW w f (.slice a E c) (.slice a1 S c1) (.slice a2 M c2)) fun e w' => e = .returned (.bool (longB E n [S, M])) ∧ w' = LW w f (.slice a E c) (.slice a1 S c1) (.slice a2 M c2) := by
  have h1 := OneFrag.new (w.alloc (.cells #[.int .u64 f, .slice a E c] 25)) f a E c
  rw [World.size_alloc] at h1
  refine long_any _ 0 1 f n a E c _ [S, M] _ (h1.below (Go.Joins.below_alloc1 _ (.cells #[.slice a1 S c1, .slice a2 M c2] 23))) ⟨_, 2, rfl, by simp, fun j L hj => ?_⟩
  have hs : w.heap.size + 1 + 1 = ((w.alloc (.cells #[.int .u64 f, .slice a E c] 25)).alloc (.cells #[.int .u64 f, .slice a E c] 25)).heap.size := by simp only [World.size_alloc]
  match j with
  | 0 =>
    simp at hj
    subst hj
    refine ⟨_, 0, a1, c1, rfl, ?_⟩
    unfold LW
    rw [hs, World.cell?_alloc_new]; rfl
  | 1 =>
    simp at hj
    subst hj
    refine ⟨_, 0, a2, c2, rfl, ?_⟩
    unfold LW
    rw [hs, World.cell?_alloc_new]; rfl
  | (j + 2) => simp at hj
theorem longB_two {E S M : Nat} {n : Int} (h : longB E n [S, M] = false) : E ≤ 30 ∧ n ≤ 1000 ∧ S ≤ 60 ∧ M ≤ 60 := by
  simp [longB] at h
  omega
set_option maxRecDepth 100000 in
set_option maxHeartbeats 4000000 in
theorem counts_any (f n x : Int) (a : Option Addr) (c : Nat) (v u : Value) (row l m : List PL) (w : World) (hp : PsAt w (.slice a row.length c) row) (hl : PsAt w v l) (hm : PsAt w u m) :
    Calls Try.prog 3 #[.agg #[.int .u64 f, .slice a row.length c], v, .int .i64 n, .int .i64 x, u] w fun e w' => e = .returned (.bool true) ∧ Below w.heap.size w w' := by
  have HP := Lib.hid hp
  have HL := Lib.hid hl
  have HM := Lib.hid hm
  obtain ⟨va, vc, rfl, -, -, -⟩ := hl.form
  obtain ⟨ua, uc, rfl, -, -, -⟩ := hm.form
  clear hp hl hm
  obtain ⟨E, hE⟩ : ∃ E, row.length = E := ⟨_, rfl⟩
  obtain ⟨S, hS⟩ : ∃ S, l.length = S := ⟨_, rfl⟩
  obtain ⟨M, hM⟩ : ∃ M, m.length = M := ⟨_, rfl⟩
  rw [hE] at HP ⊢
  rw [hS] at HL ⊢
  rw [hM] at HM ⊢
  have HE := Lib.hid hE
  have HS := Lib.hid hS
  have HMM := Lib.hid hM
  clear hE hS hM
  have HLG := Lib.hid (LW.long w f n a va ua E c S vc M uc)
  have HLB := Lib.hid (LW.below w f (.slice a E c) (.slice va S vc) (.slice ua M uc))
  have HBX := Lib.hid (LW.box w f (.slice a E c) (.slice va S vc) (.slice ua M uc))
  have HLS := Lib.hid (LW.size w f (.slice a E c) (.slice va S vc) (.slice ua M uc))
  obtain ⟨LB, hLB⟩ : ∃ LB, longB E n [S, M] = LB := ⟨_, rfl⟩
  rw [hLB] at HLG
  have hcase : LB = true ∨ (LB = false ∧ x < -1000) ∨ (LB = false ∧ ¬ x < -1000 ∧ 1000 < x) ∨ (LB = false ∧ ¬ x < -1000 ∧ ¬ 1000 < x ∧ n < -1000) ∨ (LB = false ∧ ¬ x < -1000 ∧ ¬ 1000 < x ∧ ¬ n < -1000) := by
    cases LB <;> simp <;> omega
  rcases hcase with rfl | ⟨rfl, h1⟩ | ⟨rfl, h1, h2⟩ | ⟨rfl, h1, h2, h3⟩ | ⟨rfl, h1, h2, h3⟩
  iterate 4
    · go_enter Try.func3, Try.ntmps3
      go_wp2_with fail
      change Calls _ _ _ (LW w f (.slice a E c) (.slice va S vc) (.slice ua M uc)) _
      refine HLG.out.mono ?_
      rintro e w1 ⟨rfl, rfl⟩
      go_wp2_with fail
      refine (awake_any _).mono ?_
      rintro e w2 ⟨rfl, hb⟩
      have HB := Lib.hid (HLB.out.trans (hb.mono HLB.out.size))
      clear hb
      go_wp2
      go_ret
      exact ⟨rfl, HB.out⟩
  obtain ⟨b1, b2, b3, b4⟩ := longB_two hLB
  obtain ⟨W, hW⟩ : ∃ W, W = LW w f (.slice a E c) (.slice va S vc) (.slice ua M uc) := ⟨_, rfl⟩
  rw [← hW] at HLB HBX
  have BA := Go.Joins.below_alloc1 W (.cells #[] 38)
  have HO := Lib.hid (show OwnPs W.heap.size (W.alloc (.cells #[] 38)) (.slice (some ⟨W.heap.size, 0, none⟩) 0 0) [] ∧ PsAt (W.alloc (.cells #[] 38)) (.slice ua M uc) m ∧ Below W.heap.size W (W.alloc (.cells #[] 38)) from ⟨OwnRow.made W, (HM.out.below HLB.out).below BA, BA⟩)
  have HSZ := Lib.hid (show W.heap.size = w.heap.size + 3 by rw [hW]; exact HLS.out)
  clear BA
  go_enter Try.func3, Try.ntmps3
  go_wp2_with fail
  change Calls _ _ _ (LW w f (.slice a E c) (.slice va S vc) (.slice ua M uc)) _
  refine HLG.out.mono ?_
  rintro e w1 ⟨rfl, rfl⟩
  rw [← hW]
  clear hW HLG
  go_wp2_with (at_builtin; refine wpList_append_rows rfl _ _ 23 38 2 16 _ PL.cells rfl Try.underlying23 info38 rfl (by decide) (by decide) (fun _ => rfl) W.heap.size _ _ [] m rfl rfl HO.out.1 HO.out.2.1 (ps_oneCell m) (by have := HMM.out; simp; omega) HO.out.2.2.size ?_; intro v2 w2 ho2 hg2; have HO2 := Lib.hid ho2; have B2 := Lib.hid (HO.out.2.2.grown hg2 HO.out.2.2.size (fun k hk => (OwnRow.lt HO.out.1 k hk).1)); clear ho2 hg2)
  have HON := Lib.hid (show PsAt w2 v2 m from OwnPs.at (base := W.heap.size) (l := m) HO2.out HM.out.ok)
  have HW2 := Lib.hid (HLB.out.trans (B2.out.mono HLB.out.size))
  have HC := Lib.hid (show ∀ W', On w2 W' → W'.cell? ⟨w.heap.size, 0, none⟩ = some (.int .u64 f) ∧ W'.cell? ⟨w.heap.size, 1, none⟩ = some (.slice a E c) from fun W' hb => by
    have h := (HBX.out.below B2.out).below hb
    exact ⟨h.c0, h.c1⟩)
  have e1 : l.length ≤ 100000 := by rw [HS.out]; omega
  have e2 : m.length ≤ 100000 := by rw [HMM.out]; omega
  have e3 : row.length ≤ 100000 := by rw [HE.out]; omega
  have HX1 := Lib.hid (fun W' (hb : On w2 W') => acked_any _ v2 l m x W' (HL.out.below (HW2.out.trans (Below.mono hb HW2.out.size))) (HON.out.below hb) e1 e2)
  have HX2 := Lib.hid (fun W' (hb : On w2 W') => racked_any _ _ l m x W' (HL.out.below (HW2.out.trans (Below.mono hb HW2.out.size))) (HM.out.below (HW2.out.trans (Below.mono hb HW2.out.size))) e1 e2)
  have HX3 := Lib.hid (fun W' (hb : On w2 W') => missing_any _ v2 l m n x W' (HL.out.below (HW2.out.trans (Below.mono hb HW2.out.size))) (HON.out.below hb) e1 e2 (by omega) (by omega))
  have HX4 := Lib.hid (fun W' (hb : On w2 W') => rmiss_any _ _ l m n x W' (HL.out.below (HW2.out.trans (Below.mono hb HW2.out.size))) (HM.out.below (HW2.out.trans (Below.mono hb HW2.out.size))) e1 e2 (by omega) (by omega))
  have HX5 := Lib.hid (fun W' (hb : On w2 W') => covered_any f n x a c v2 row m W' (by rw [HE.out]; exact (HP.out.below (HW2.out.trans (Below.mono hb HW2.out.size)))) (HON.out.below hb) e3 e2 (by omega) (by omega))
  have HX6 := Lib.hid (fun W' (hb : On w2 W') => rcovered_any f n x a c (.slice ua M uc) row m W' (by rw [HE.out]; exact (HP.out.below (HW2.out.trans (Below.mono hb HW2.out.size)))) (HM.out.below (HW2.out.trans (Below.mono hb HW2.out.size))) e3 e2 (by omega) (by omega))
  rw [HE.out] at HX5 HX6
  generalize ackedB m.contains l x = R1 at HX1 HX2
  generalize missB m.contains l n x = R2 at HX3 HX4
  generalize covB m.contains row n x = R3 at HX5 HX6
  clear e1 e2 e3 b1 b2 b3 b4 h1 h2 h3
  go_wp2_with fail
  refine region_on (by kernel_rfl) (by kernel_rfl) w2 (Below.refl _ _) ?_
  repeat (first
    | go_big_quiet_skip
    | (go_big_quiet_want; go_big_quiet_op; (first
      | go_big_quiet_on
      | (apply Exists.intro; refine ⟨fun _ hC => ?_, ?_⟩; with_reducible (first
          | exact rfl
          | exact calls_on hC (HX1.out _ hC)
          | exact calls_on hC (HX2.out _ hC)
          | exact calls_on hC (HX3.out _ hC)
          | exact calls_on hC (HX4.out _ hC)
          | exact calls_on hC (HX5.out _ hC)
          | exact calls_on hC (HX6.out _ hC)
          | exact calls_on hC (awake_any _)
          | (have hcell := HC.out _ hC; simp only [hcell, Result.andThen]; (first | exact rfl | exact ⟨rfl, rfl⟩ | exact ⟨trivial, rfl⟩))); go_big_quiet_on))))
  refine wpQuiet_nil ?_
  intro wn hO
  go_wp2
  go_ret
  exact ⟨by simp, HW2.out.trans (Below.mono hO HW2.out.size)⟩
end Go.Proofs.Ytnfjhpdpeihheaa
