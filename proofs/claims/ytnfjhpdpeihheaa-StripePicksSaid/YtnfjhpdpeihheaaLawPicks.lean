/- StripePicks: which places are picked; any place in the place of another one. -/
import Derived.Test.YtnfjhpdpeihheaaRefSwap
import Derived.Test.YtnfjhpdpeihheaaRefPick
import Derived.Test.YtnfjhpdpeihheaaFrags
namespace Go.Proofs.Ytnfjhpdpeihheaa
open Go.RowKit Go.Maps Go.Shelf
/-- what Swap answers -/
def swapRes (f : Int) (row : List PL) (x y : PL) : Int × List PL × Bool := match swapL row x y with
  | none => (0, [], false)
  | some r => (f, r, true)
theorem SwapPost.flat {w w' : World} {f : Int} {row : List PL} {x y : PL} {e : Ending} (h : SwapPost w f row x y e w') (hr : ∀ q ∈ row, q.ok) (hy : y.ok) :
    ∃ a' c', e = .returned (.tuple #[.agg #[.int .u64 (swapRes f row x y).1, .slice a' (swapRes f row x y).2.1.length c'], .bool (swapRes f row x y).2.2]) ∧ PsAt w' (.slice a' (swapRes f row x y).2.1.length c') (swapRes f row x y).2.1 ∧ Below w.heap.size w w' := by
  obtain ⟨hb, h⟩ := h
  unfold swapRes
  cases hs : swapL row x y with
  | none =>
    rw [hs] at h
    exact ⟨none, 0, h, PsAt.nil _, hb⟩
  | some r =>
    rw [hs] at h
    obtain ⟨a', c', he, ho⟩ := h
    exact ⟨a', c', he, OwnPs.at ho (swap_ok hs hr hy), hb⟩
/-- what the law hands to long -/
def PW (w : World) (f : Int) (u r1 : Value) (x y : PL) : World := ((((w.alloc (.cells #[.int .u64 f, u] 25)).alloc (.cells #[.int .i64 x.n, .int .u64 x.s] 38)).alloc (.cells #[.int .i64 y.n, .int .u64 y.s] 38)).alloc (.cells #[.int .u64 f, u] 25)).alloc (.cells #[r1] 23)
structure PB (W w : World) (f : Int) (u : Value) (x y : PL) : Prop where
  bel : Below w.heap.size w W
  b0 : Box25 W w.heap.size f u
  b1 : Box38 W (w.heap.size + 1) x
  b2 : Box38 W (w.heap.size + 1 + 1) y
theorem PB.below {W W' w : World} {f : Int} {u : Value} {x y : PL} (h : PB W w f u x y) (hb : Below W.heap.size W W') : PB W' w f u x y :=
  ⟨h.bel.trans (hb.mono h.bel.size), h.b0.below hb, h.b1.below hb, h.b2.below hb⟩
theorem PW.start (w : World) (f : Int) (a a1 : Option Addr) (E c S c1 : Nat) (x y : PL) : PB (PW w f (.slice a E c) (.slice a1 S c1) x y) w f (.slice a E c) x y ∧
    Calls Try.prog 10 #[.slice (some ⟨w.heap.size + 1 + 1 + 1, 0, none⟩) 1 1, .int .i64 0, .slice (some ⟨w.heap.size + 1 + 1 + 1 + 1, 0, none⟩) 1 1] (PW w f (.slice a E c) (.slice a1 S c1) x y) fun e w' => e = .returned (.bool (longB E 0 [S])) ∧ w' = PW w f (.slice a E c) (.slice a1 S c1) x y := by
  have s1 : (w.alloc (.cells #[.int .u64 f, .slice a E c] 25)).heap.size = w.heap.size + 1 := World.size_alloc _ _
  have s2 : ((w.alloc (.cells #[.int .u64 f, .slice a E c] 25)).alloc (.cells #[.int .i64 x.n, .int .u64 x.s] 38)).heap.size = w.heap.size + 1 + 1 := by rw [World.size_alloc, s1]
  have s3 : (((w.alloc (.cells #[.int .u64 f, .slice a E c] 25)).alloc (.cells #[.int .i64 x.n, .int .u64 x.s] 38)).alloc (.cells #[.int .i64 y.n, .int .u64 y.s] 38)).heap.size = w.heap.size + 1 + 1 + 1 := by rw [World.size_alloc, s2]
  have s4 : ((((w.alloc (.cells #[.int .u64 f, .slice a E c] 25)).alloc (.cells #[.int .i64 x.n, .int .u64 x.s] 38)).alloc (.cells #[.int .i64 y.n, .int .u64 y.s] 38)).alloc (.cells #[.int .u64 f, .slice a E c] 25)).heap.size = w.heap.size + 1 + 1 + 1 + 1 := by rw [World.size_alloc, s3]
  refine ⟨⟨?_, ?_, ?_, ?_⟩, ?_⟩
  · unfold PW
    exact (((((Below.refl _ w).alloc (Nat.le_refl _) _).alloc (by omega) _).alloc (by omega) _).alloc (by omega) _).alloc (by omega) _
  · exact ((((Box25.new w f (.slice a E c)).alloc _).alloc _).alloc _).alloc _
  · have := (((Box38.new (w.alloc (.cells #[.int .u64 f, .slice a E c] 25)) x).alloc (.cells #[.int .i64 y.n, .int .u64 y.s] 38)).alloc (.cells #[.int .u64 f, .slice a E c] 25)).alloc (.cells #[.slice a1 S c1] 23)
    rw [s1] at this
    exact this
  · have := ((Box38.new ((w.alloc (.cells #[.int .u64 f, .slice a E c] 25)).alloc (.cells #[.int .i64 x.n, .int .u64 x.s] 38)) y).alloc (.cells #[.int .u64 f, .slice a E c] 25)).alloc (.cells #[.slice a1 S c1] 23)
    rw [s2] at this
    exact this
  · have h1 := OneFrag.new (((w.alloc (.cells #[.int .u64 f, .slice a E c] 25)).alloc (.cells #[.int .i64 x.n, .int .u64 x.s] 38)).alloc (.cells #[.int .i64 y.n, .int .u64 y.s] 38)) f a E c
    rw [s3] at h1
    refine long_any _ 0 1 f 0 a E c _ [S] _ (h1.below (Go.Joins.below_alloc1 _ (.cells #[.slice a1 S c1] 23))) ⟨_, 1, rfl, by simp, fun j L hj => ?_⟩
    match j with
    | 0 =>
      simp at hj
      subst hj
      refine ⟨_, 0, a1, c1, rfl, ?_⟩
      unfold PW
      rw [← s4, World.cell?_alloc_new]
      rfl
    | (j + 1) => simp at hj
theorem longB_pk {E S : Nat} (h : longB E 0 [S] = false) : E ≤ 30 ∧ S ≤ 60 := by
  simp [longB] at h
  omega
set_option maxRecDepth 100000 in
set_option maxHeartbeats 8000000 in
theorem picks_any (v u : Value) (l : List PL) (e n : Int) (not : List Int) (f : Int) (a : Option Addr) (c : Nat) (row : List PL) (x y : PL) (w : World) (hp : PsAt w v l) (hq : IntsAt w u not) (hr : PsAt w (.slice a row.length c) row) (hy : y.ok) :
    Calls Try.prog 4 #[v, .int .i64 e, .int .i64 n, u, .agg #[.int .u64 f, .slice a row.length c], x.val, y.val] w fun e w' => e = .returned (.bool true) ∧ Below w.heap.size w w' := by
  have HP := Lib.hid hp
  have HQ := Lib.hid hq
  have HR := Lib.hid hr
  have HRO := Lib.hid hr.ok
  have HPO := Lib.hid hp.ok
  have HY := Lib.hid hy
  obtain ⟨va, vc, rfl, -, -, -⟩ := hp.form
  obtain ⟨ua, uc, rfl, -⟩ := hq
  obtain ⟨S, hS⟩ : ∃ S, l.length = S := ⟨_, rfl⟩
  obtain ⟨M, hM⟩ : ∃ M, not.length = M := ⟨_, rfl⟩
  obtain ⟨E, hE⟩ : ∃ E, row.length = E := ⟨_, rfl⟩
  rw [hS] at HP ⊢
  rw [hM] at HQ ⊢
  rw [hE] at HR ⊢
  have HS := Lib.hid hS
  have HM := Lib.hid hM
  have HE := Lib.hid hE
  clear hS hM hE hp hr hy
  have HST := Lib.hid (PW.start w f a va E c S vc x y)
  obtain ⟨LB, hLB⟩ : ∃ LB, longB E 0 [S] = LB := ⟨_, rfl⟩
  rw [hLB] at HST
  have hcase : LB = true ∨ (LB = false ∧ 60 < M) ∨ (LB = false ∧ ¬ 60 < M) := by
    cases LB <;> simp <;> omega
  rcases hcase with rfl | ⟨rfl, h1⟩ | ⟨rfl, h1⟩
  iterate 2
    · go_enter Try.func4, Try.ntmps4
      go_wp2_with fail
      change Calls _ _ _ (PW w f (.slice a E c) (.slice va S vc) x y) _
      refine HST.out.2.mono ?_
      rintro e w1 ⟨rfl, rfl⟩
      go_wp2_with fail
      refine (awake_any _).mono ?_
      rintro e w2 ⟨rfl, hb⟩
      have HB := Lib.hid (HST.out.1.bel.trans (hb.mono HST.out.1.bel.size))
      clear hb
      go_wp2
      go_ret
      exact ⟨rfl, HB.out⟩
  obtain ⟨b1, b2⟩ := longB_pk hLB
  have d1 : decide (60 < M) = false := decide_eq_false h1
  obtain ⟨W, hW⟩ : ∃ W, W = PW w f (.slice a E c) (.slice va S vc) x y := ⟨_, rfl⟩
  rw [← hW] at HST
  have hl1 : l.length ≤ 100000 := by rw [HS.out]; omega
  have hl2 : not.length ≤ 100000 := by rw [HM.out]; omega
  have hl3 : row.length ≤ 100000 := by rw [HE.out]; omega
  have HPK := Lib.hid (fun W' (hb : Below w.heap.size w W') => pick_any (.slice va S vc) (.slice ua M uc) l e n not W' (HP.out.below hb) (HQ.out.below hb) hl1 hl2)
  have HRK := Lib.hid (fun W' (hb : Below w.heap.size w W') => rpick_any (.slice va S vc) (.slice ua M uc) l e n not W' (HP.out.below hb) (HQ.out.below hb) hl1)
  have HSW := Lib.hid (fun W' (hb : Below w.heap.size w W') => (swap_any f a c row x y W' (by rw [HE.out]; exact HR.out.below hb) hl3).mono fun e w' h => h.flat HRO.out HY.out)
  have HRW := Lib.hid (fun W' (hb : Below w.heap.size w W') => (rswap_any f a c row x y W' (by rw [HE.out]; exact HR.out.below hb) hl3).mono fun e w' h => h.flat HRO.out HY.out)
  have HCP := Lib.hid (fun W' (hb : Below w.heap.size w W') => copyF_any W'.heap.size 0 1 f a c row (W'.alloc (.cells #[.int .u64 f, .slice a E c] 25)) (by rw [HE.out]; exact OneFrag.new _ _ _ _ _) (by rw [HE.out]; exact (HR.out.below hb).below (Go.Joins.below_alloc1 _ _)) hl3)
  rw [HE.out] at HSW HRW HCP
  have HRBO := Lib.hid (show ∀ q ∈ (if pickOk e n = true then (if ((picked l e not).length : Int) < n then [] else picked l e not) else []), q.ok from fun q hq => by
    split at hq
    · split at hq
      · cases hq
      · exact HPO.out q (picked_mem q hq)
    · cases hq)
  generalize (if pickOk e n = true then (if ((picked l e not).length : Int) < n then (3 : Int) else 0) else 1) = RA at HPK HRK
  generalize (if pickOk e n = true then (if ((picked l e not).length : Int) < n then [] else picked l e not) else []) = RB at HPK HRK HRBO
  obtain ⟨F', hF'⟩ : ∃ F', (swapRes f row x y).1 = F' := ⟨_, rfl⟩
  obtain ⟨R', hR'⟩ : ∃ R', (swapRes f row x y).2.1 = R' := ⟨_, rfl⟩
  obtain ⟨B', hB'⟩ : ∃ B', (swapRes f row x y).2.2 = B' := ⟨_, rfl⟩
  rw [hF', hR', hB'] at HSW HRW
  obtain ⟨K', hK'⟩ : ∃ K', R'.length = K' := ⟨_, rfl⟩
  rw [hK'] at HSW HRW
  have HKK := Lib.hid hK'
  clear hl1 hl2 hl3 hF' hR' hB' hK'
  have d1' : decide ((60 : Int) < (M : Int)) = false := decide_eq_false (by omega)
  have c0 := HST.out.1.b0.c0
  have c1 := HST.out.1.b0.c1
  go_enter Try.func4, Try.ntmps4
  go_wp2_with fail
  change Calls _ _ _ (PW w f (.slice a E c) (.slice va S vc) x y) _
  rw [← hW]
  refine HST.out.2.mono ?_
  rintro e0 w1 ⟨rfl, rfl⟩
  clear hW
  go_wp2_with fail
  refine (HPK.out _ HST.out.1.bel).mono ?_
  rintro e1 w2 ⟨v1, rfl, ho1, hb1⟩
  have H2 := Lib.hid (HST.out.1.below hb1)
  have HV1 := Lib.hid (OwnPs.at ho1 HRBO.out)
  clear ho1 hb1 c0 c1 h1 d1 d1'
  go_wp2_with fail
  refine (HRK.out _ H2.out.bel).mono ?_
  rintro e2 w3 ⟨v2, rfl, ho2, hb2⟩
  have H3 := Lib.hid (H2.out.below hb2)
  have HV13 := Lib.hid (HV1.out.below hb2)
  have HV2 := Lib.hid (OwnPs.at ho2 HRBO.out)
  have c0 := H3.out.b0.c0
  have c1 := H3.out.b0.c1
  clear ho2 hb2
  go_wp2_with fail
  refine (HCP.out _ H3.out.bel).mono ?_
  rintro e3 w4 ⟨wb, wk, wa, wc, rfl, hof, hps, hb3⟩
  have hbb := (Go.Joins.below_alloc1 w3 (.cells #[.int .u64 f, .slice a E c] 25)).trans (hb3.mono (Go.Joins.below_alloc1 w3 (.cells #[.int .u64 f, .slice a E c] 25)).size)
  have H4 := Lib.hid (H3.out.below hbb)
  have HV14 := Lib.hid (HV13.out.below hbb)
  have HV24 := Lib.hid (HV2.out.below hbb)
  have HW4 := Lib.hid (And.intro hof hps)
  have c0 := H4.out.b0.c0
  have c1 := H4.out.b0.c1
  have x0 := H4.out.b1.c0
  have x1 := H4.out.b1.c1
  have y0 := H4.out.b2.c0
  have y1 := H4.out.b2.c1
  clear hof hps hb3 hbb
  go_wp2_with fail
  refine (HSW.out _ H4.out.bel).mono ?_
  rintro e4 w5 ⟨sa, sc, rfl, hs5, hb5⟩
  obtain ⟨X5, hX5⟩ : ∃ X5, w5.alloc (.cells #[.int .u64 F', .slice sa K' sc] 25) = X5 := ⟨_, rfl⟩
  have hbx5 : Below w5.heap.size w5 X5 := by rw [← hX5]; exact Go.Joins.below_alloc1 _ _
  have hbb5 := hb5.trans (hbx5.mono hb5.size)
  have H5 := Lib.hid (H4.out.below hbb5)
  have HV15 := Lib.hid (HV14.out.below hbb5)
  have HV25 := Lib.hid (HV24.out.below hbb5)
  have HW5 := Lib.hid (And.intro (HW4.out.1.below hbb5) (HW4.out.2.below hbb5))
  have HS5 := Lib.hid (And.intro (show Box25 X5 w5.heap.size F' (.slice sa K' sc) by rw [← hX5]; exact Box25.new _ _ _) (PsAt.below hs5 hbx5))
  have c0 := H5.out.b0.c0
  have c1 := H5.out.b0.c1
  have x0 := H5.out.b1.c0
  have x1 := H5.out.b1.c1
  have y0 := H5.out.b2.c0
  have y1 := H5.out.b2.c1
  clear hs5 hb5 hbx5 hbb5
  go_wp2_with fail
  refine (HRW.out _ H5.out.bel).mono ?_
  rintro e5 w6 ⟨ra, rc, rfl, hs6, hb6⟩
  obtain ⟨X6, hX6⟩ : ∃ X6, w6.alloc (.cells #[.int .u64 F', .slice ra K' rc] 25) = X6 := ⟨_, rfl⟩
  have hbx6 : Below w6.heap.size w6 X6 := by rw [← hX6]; exact Go.Joins.below_alloc1 _ _
  have hbb6 := hb6.trans (hbx6.mono hb6.size)
  have H6 := Lib.hid (H5.out.below hbb6)
  have HSM := Lib.hid (same_any v1 v2 RB RB X6 (HV15.out.below hbb6) (HV25.out.below hbb6))
  rw [decide_eq_true (rfl : RB = RB)] at HSM
  have HW6 := Lib.hid (And.intro (HW5.out.1.below hbb6) (HW5.out.2.below hbb6))
  have HS6 := Lib.hid (And.intro (HS5.out.1.below hbb6) (HS5.out.2.below hbb6))
  have HR6 := Lib.hid (And.intro (show Box25 X6 w6.heap.size F' (.slice ra K' rc) by rw [← hX6]; exact Box25.new _ _ _) (PsAt.below hs6 hbx6))
  clear hs6 hb6 hbx6 hbb6 c0 c1 x0 x1 y0 y1 hX5
  go_wp2_with fail
  refine HSM.out.mono ?_
  rintro e6 w7 ⟨rfl, hb7⟩
  have H7 := Lib.hid (H6.out.below hb7)
  have HW7 := Lib.hid (And.intro (HW6.out.1.below hb7) (HW6.out.2.below hb7))
  have HS7 := Lib.hid (And.intro (HS6.out.1.below hb7) (HS6.out.2.below hb7))
  have HR7 := Lib.hid (And.intro (HR6.out.1.below hb7) (HR6.out.2.below hb7))
  clear hb7 hX6
  have s0 := HS7.out.1.c0
  have s1 := HS7.out.1.c1
  have r0 := HR7.out.1.c0
  have r1 := HR7.out.1.c1
  have r0a : ∀ o, (w7.alloc o).cell? ⟨w6.heap.size, 0, none⟩ = some (.int .u64 F') := fun o => (HR7.out.1.alloc o).c0
  have r1a : ∀ o, (w7.alloc o).cell? ⟨w6.heap.size, 1, none⟩ = some (.slice ra K' rc) := fun o => (HR7.out.1.alloc o).c1
  obtain ⟨X8, hX8⟩ : ∃ X8, X8 = (w7.alloc (.cells #[.int .u64 F', .slice sa K' sc] 25)).alloc (.cells #[.int .u64 F', .slice ra K' rc] 25) := ⟨_, rfl⟩
  have hb8 : Below w7.heap.size w7 X8 := by rw [hX8]; exact Go.Joins.below_alloc2 _ _ _
  have HSF := Lib.hid (show Calls Try.prog 24 #[.slice (some ⟨w7.heap.size, 0, none⟩) 1 1, .slice (some ⟨w7.heap.size + 1, 0, none⟩) 1 1] X8 fun e w' => e = .returned (.bool true) ∧ Below X8.heap.size X8 w' from by
    have h1 : OneFrag X8 w7.heap.size 0 F' sa K' sc := by rw [hX8]; exact (OneFrag.new w7 F' sa K' sc).below (Go.Joins.below_alloc1 _ _)
    have h2 : OneFrag X8 (w7.heap.size + 1) 0 F' ra K' rc := by
      have := OneFrag.new (w7.alloc (.cells #[.int .u64 F', .slice sa K' sc] 25)) F' ra K' rc
      rw [World.size_alloc] at this
      rw [hX8]
      exact this
    have := sameF_any w7.heap.size 0 1 (w7.heap.size + 1) 0 1 F' F' sa ra sc rc R' R' X8 (by rw [HKK.out]; exact h1) (by rw [HKK.out]; exact h2) (by rw [HKK.out]; exact HS7.out.2.below hb8) (by rw [HKK.out]; exact HR7.out.2.below hb8)
    simpa using this)
  have H8 := Lib.hid (H7.out.below hb8)
  have HW8 := Lib.hid (And.intro (HW7.out.1.below hb8) (HW7.out.2.below hb8))
  clear hb8
  go_wp2_with fail
  change Calls _ _ _ ((w7.alloc (.cells #[.int .u64 F', .slice sa K' sc] 25)).alloc (.cells #[.int .u64 F', .slice ra K' rc] 25)) _
  rw [← hX8]
  refine HSF.out.mono ?_
  rintro e7 w9 ⟨rfl, hb9⟩
  have H9 := Lib.hid (H8.out.below hb9)
  have HW9 := Lib.hid (And.intro (HW8.out.1.below hb9) (HW8.out.2.below hb9))
  clear hb9 hX8 s0 s1 r0 r1 r0a r1a
  have c0 := H9.out.b0.c0
  have c1 := H9.out.b0.c1
  have HSG := Lib.hid (show Calls Try.prog 24 #[.slice (some ⟨wb, 0, none⟩) 1 wk, .slice (some ⟨w9.heap.size, 0, none⟩) 1 1] (w9.alloc (.cells #[.int .u64 f, .slice a E c] 25)) fun e w' => e = .returned (.bool true) ∧ Below w9.heap.size w9 w' from by
    have hb := Go.Joins.below_alloc1 w9 (.cells #[.int .u64 f, .slice a E c] 25)
    have := sameF_any wb 0 wk w9.heap.size 0 1 f f wa a wc c row row (w9.alloc (.cells #[.int .u64 f, .slice a E c] 25)) (by rw [HE.out]; exact HW9.out.1.below hb) (by rw [HE.out]; exact OneFrag.new _ _ _ _ _) (by rw [HE.out]; exact HW9.out.2.below hb) (by rw [HE.out]; exact (HR.out.below H9.out.bel).below hb)
    refine this.mono fun e w' ⟨he, h⟩ => ⟨by simpa using he, hb.trans (h.mono hb.size)⟩)
  go_wp2_with fail
  refine HSG.out.mono ?_
  rintro e8 w10 ⟨rfl, hb10⟩
  have H10 := Lib.hid (H9.out.below hb10)
  clear hb10
  go_wp2_with fail
  refine (awake_any _).mono ?_
  rintro e9 wf ⟨rfl, hb⟩
  have HB := Lib.hid (H10.out.bel.trans (hb.mono H10.out.bel.size))
  clear hb
  go_wp2
  go_ret
  exact ⟨rfl, HB.out⟩
end Go.Proofs.Ytnfjhpdpeihheaa
