/- StripeMeets: they meet. -/
import Derived.Test.YtnfjhpdpeihheaaMeetM
import Derived.Laws.Bits64b
namespace Go.Proofs.Ytnfjhpdpeihheaa
open Go.RowKit Go.Maps Go.Shelf
set_option maxRecDepth 100000 in
set_option maxHeartbeats 8000000 in
theorem meets_any (f n x k z : Int) (a : Option Addr) (c : Nat) (u : Value) (row m : List PL) (w : World) (hf0 : 0 ≤ f ∧ f ≤ 18446744073709551615) (hk0 : 0 ≤ k ∧ k ≤ 18446744073709551615) (hp : PsAt w (.slice a row.length c) row) (hm : PsAt w u m) :
    Calls Try.prog 6 #[.agg #[.int .u64 f, .slice a row.length c], .int .i64 n, .int .i64 x, .int .u64 k, u, .int .i64 z] w fun e w' => e = .returned (.bool true) ∧ Below w.heap.size w w' := by
  have HP := Lib.hid hp
  have HM := Lib.hid hm
  have HPO := Lib.hid hp.ok
  obtain ⟨ua, uc, rfl, -, -, -⟩ := hm.form
  clear hp hm
  obtain ⟨E, hE⟩ : ∃ E, row.length = E := ⟨_, rfl⟩
  obtain ⟨M, hM⟩ : ∃ M, m.length = M := ⟨_, rfl⟩
  rw [hE] at HP ⊢
  rw [hM] at HM ⊢
  have HE := Lib.hid hE
  have HMM := Lib.hid hM
  have HF0 := Lib.hid hf0
  have HK0 := Lib.hid hk0
  clear hE hM
  have HLG := Lib.hid (LU.long w f n a ua E c M uc)
  have HLB := Lib.hid (LU.below w f (.slice a E c) (.slice ua M uc))
  have HBX := Lib.hid (LU.box w f (.slice a E c) (.slice ua M uc))
  obtain ⟨LB, hLB⟩ : ∃ LB, longB E n [M] = LB := ⟨_, rfl⟩
  rw [hLB] at HLG
  have hcase : LB = true ∨ (LB = false ∧ n < 1) ∨ (LB = false ∧ ¬ n < 1 ∧ x < 1) ∨ (LB = false ∧ ¬ n < 1 ∧ ¬ x < 1 ∧ n < x) ∨ (LB = false ∧ ¬ n < 1 ∧ ¬ x < 1 ∧ ¬ n < x) := by
    cases LB <;> simp <;> omega
  rcases hcase with rfl | ⟨rfl, h1⟩ | ⟨rfl, h1, h2⟩ | ⟨rfl, h1, h2, h3⟩ | ⟨rfl, h1, h2, h3⟩
  iterate 4
    · clear hf0 hk0
      go_enter Try.func6, Try.ntmps6
      go_wp2_with fail
      change Calls _ _ _ (LU w f (.slice a E c) (.slice ua M uc)) _
      refine HLG.out.mono ?_
      rintro e w1 ⟨rfl, rfl⟩
      go_wp2_with fail
      refine (awake_any _).mono ?_
      rintro e w2 ⟨rfl, hb⟩
      have HB := Lib.hid (HLB.out.trans (hb.mono HLB.out.size))
      clear hb
      go_wp2
      go_ret
      exact ⟨rfl, HB.out⟩
  obtain ⟨b1, b2, b3⟩ := longB_one hLB
  obtain ⟨W, hW⟩ : ∃ W, W = LU w f (.slice a E c) (.slice ua M uc) := ⟨_, rfl⟩
  rw [← hW] at HLB HBX
  have HC := Lib.hid (show ∀ W', On W W' → W'.cell? ⟨w.heap.size, 0, none⟩ = some (.int .u64 f) ∧ W'.cell? ⟨w.heap.size, 1, none⟩ = some (.slice a E c) from fun W' hb => by
    have h := HBX.out.below hb
    exact ⟨h.c0, h.c1⟩)
  have HF := Lib.hid (show ∀ W', On W W' → Below w.heap.size w W' from fun W' hb => HLB.out.trans (Below.mono hb HLB.out.size))
  have MF := Lib.hid (fun W' (hb : On W W') => mayf_any W'.heap.size 0 1 n a c row (W'.alloc (.cells #[.int .u64 1, .slice a E c] 25)) (by rw [HE.out]; exact OneFrag.new _ _ _ _ _) (by rw [HE.out]; exact (HP.out.below (HF.out W' hb)).below (Go.Joins.below_alloc1 _ _)))
  rw [HE.out] at MF
  obtain ⟨c0, c1⟩ := HC.out W (Below.refl _ _)
  have d1 : decide (n < 1) = false := decide_eq_false h1
  have d2 : decide (x < 1) = false := decide_eq_false h2
  have d3 : decide (n < x) = false := decide_eq_false h3
  have HN := Lib.hid (And.intro h1 (And.intro h2 h3))
  clear hf0 hk0
  go_enter Try.func6, Try.ntmps6
  go_wp2_with fail
  change Calls _ _ _ (LU w f (.slice a E c) (.slice ua M uc)) _
  refine HLG.out.mono ?_
  rintro e w1 ⟨rfl, rfl⟩
  rw [← hW]
  clear hW HLG h1 h2 h3
  go_wp2_with fail
  refine (MF.out _ (Below.refl _ _)).mono ?_
  rintro e p1 ⟨R, rfl, hiff, hb⟩
  have H1 := Lib.hid (show On W p1 from On.step (Go.Joins.below_alloc1 W _) hb)
  obtain ⟨c0, c1⟩ := HC.out p1 H1.out
  clear hb
  have hcs : R = false ∨ (R = true ∧ k < f) ∨ (R = true ∧ ¬ k < f ∧ 1152921504606846976 < f) ∨ (R = true ∧ ¬ k < f ∧ ¬ 1152921504606846976 < f) := by
    cases R
    · exact .inl rfl
    · by_cases g1 : k < f
      · exact .inr (.inl ⟨rfl, g1⟩)
      · by_cases g2 : 1152921504606846976 < f
        · exact .inr (.inr (.inl ⟨rfl, g1, g2⟩))
        · exact .inr (.inr (.inr ⟨rfl, g1, g2⟩))
  rcases hcs with rfl | ⟨rfl, g1⟩ | ⟨rfl, g1, g2⟩ | ⟨rfl, g1, g2⟩
  · clear hiff
    go_wp2_with fail
    refine (awake_any _).mono ?_
    rintro e wf ⟨rfl, hb⟩
    have HB := Lib.hid (HF.out _ (On.step H1.out hb))
    clear hb
    go_wp2
    go_ret
    exact ⟨rfl, HB.out⟩
  · clear hiff
    have q1 : decide (k < f) = true := decide_eq_true g1
    go_wp2_with fail
    refine (awake_any _).mono ?_
    rintro e wf ⟨rfl, hb⟩
    have HB := Lib.hid (HF.out _ (On.step H1.out hb))
    clear hb
    go_wp2
    go_ret
    exact ⟨rfl, HB.out⟩
  · clear hiff
    have q1 : decide (k < f) = false := decide_eq_false g1
    have q2 : decide (1152921504606846976 < f) = true := decide_eq_true g2
    go_wp2_with fail
    refine (awake_any _).mono ?_
    rintro e wf ⟨rfl, hb⟩
    have HB := Lib.hid (HF.out _ (On.step H1.out hb))
    clear hb
    go_wp2
    go_ret
    exact ⟨rfl, HB.out⟩
  obtain ⟨k1, k2, k3⟩ := hiff.1 rfl
  clear hiff
  have q1 : decide (k < f) = false := decide_eq_false g1
  have q2 : decide (1152921504606846976 < f) = false := decide_eq_false g2
  obtain ⟨N, rfl⟩ : ∃ N : Nat, n = N := ⟨n.toNat, by have := HN.out.1; omega⟩
  have hN1 : 1 ≤ N := by have := HN.out.1; omega
  have hNE : N ≤ E := by omega
  have hx1 : 1 ≤ x := by have := HN.out.2.1; omega
  have hxN : x ≤ N := by have := HN.out.2.2; omega
  have HHB := Lib.hid (show hasB row (N : Int) = true by unfold hasB; rw [HE.out]; simp; omega)
  obtain ⟨J, hJ⟩ : ∃ J : Nat, ((k - f) % (row.length : Int)).toNat = J := ⟨_, rfl⟩
  have hJE : J < E := by rw [← hJ, HE.out]; have := Int.emod_lt_of_pos (k - f) (show (0 : Int) < E by omega); have := Int.emod_nonneg (k - f) (show (E : Int) ≠ 0 by omega); omega
  have HSET := Lib.hid (fun W' (hb : On W W') => set_any W'.heap.size 0 1 f N k a c row (W'.alloc (.cells #[.int .u64 f, .slice a E c] 25)) (by rw [HE.out]; exact OneFrag.new _ _ _ _ _) (by rw [HE.out]; exact (HP.out.below (HF.out W' hb)).below (Go.Joins.below_alloc1 _ _)) (by rw [HE.out]; omega) HF0.out HK0.out)
  rw [setL_ge (by omega) HHB.out, hJ, Int.toNat_natCast] at HSET
  have HRO := Lib.hid (show ∀ j, ∀ q ∈ rot row j N, q.ok from fun j => rot_ok (by rw [HE.out]; omega) HPO.out)
  have HRL := Lib.hid (fun j => rot_length row j N)
  have HMAY := Lib.hid k3
  clear hJ k3
  go_wp2_with fail
  refine (HSET.out _ H1.out).mono ?_
  rintro e w3 ⟨v3, rfl, ho3, hb3⟩
  have hp3 := ho3.at (HRO.out J)
  obtain ⟨sb, sc, rfl⟩ : ∃ sb sc, v3 = .slice (some ⟨sb, 0, none⟩) N sc := by
    rcases ho3.2 with ⟨_, h0⟩ | ⟨g, cap, cur, hv, _⟩
    · rw [HRL.out] at h0; omega
    · exact ⟨g, cap, by rw [hv, HRL.out]⟩
  have H3 := Lib.hid (show On W w3 from On.step (On.step H1.out (Go.Joins.below_alloc1 _ _)) hb3)
  have HP3 := Lib.hid hp3
  obtain ⟨S, hS⟩ : ∃ S, rot row J N = S := ⟨_, rfl⟩
  rw [hS] at HP3
  have HSS := Lib.hid hS
  have HSL := Lib.hid (show S.length = N by rw [← hS]; exact rot_length _ _ _)
  clear ho3 hp3 hb3 hS HSET
  go_wp2_with fail
  clear c0 c1
  go_loopw [14, 15, 16] (fun s t i wr => ∃ (j C : Nat) (T : Bool), j ≤ N ∧ i = .int .i64 (j : Nat) ∧ t = .bool T ∧ IsSl s C ∧ C ≤ j ∧ Hid (∃ sl : List PL, OwnPs w3.heap.size wr s sl ∧ sl.length = C ∧ ∀ q ∈ sl, q.ok) ∧ Hid (T = false → met m.contains S j + C ≤ j) ∧ Hid (Below w3.heap.size w3 wr)) (fun _ _ i _ => N - (intOf i).toNat)
  case atStart => exact ⟨0, 0, false, Nat.zero_le _, rfl, rfl, ⟨none, 0, rfl⟩, Nat.le_refl _, ⟨[], World.ownsRow_nil _ _ _ _, rfl, fun q hq => by cases hq⟩, (fun _ => by simp [met_zero]), Below.refl _ _⟩
  case round =>
    obtain ⟨j, C, T, hj, rfl, rfl, ⟨ra, rc, rfl⟩, hCj, HS1, HT1, HB⟩ := hrel
    have HOW := Lib.hid (show On W wr from On.step H3.out HB.out)
    by_cases hlt : j < N
    · have hltz : (j : Int) < (N : Int) := by omega
      obtain ⟨y, hy⟩ : ∃ y, S[j]? = some y := ⟨_, List.getElem?_eq_getElem (by rw [HSL.out]; exact hlt)⟩
      have hPK := HP3.out.below HB.out
      have HPM := Lib.hid (PsAt.mid HP3.out hy)
      obtain ⟨bb, off, hbo, hbb, hc⟩ := PsAt.cell hPK hy
      cases hbo
      obtain ⟨c0, c1⟩ := hc wr (Below.refl _ _)
      rw [Nat.zero_add] at c0 c1 HPM
      have hyo := hPK.ok y (List.mem_of_getElem? hy)
      have HMS := Lib.hid (met_succ (p := m.contains) hy)
      obtain ⟨Z, hZ⟩ : ∃ Z, z / 2 ^ j = Z := ⟨_, rfl⟩
      have hsh : binOp .shr 3 (.int .i64 z) (.int .i64 (j : Int)) = pure (.int .i64 Z) := by
        show Op.shift .shr .i64 z .i64 j = _
        rw [shift_shr .i64 .i64 z j (by omega) (by show _ ≤ (64 : Int); omega), ← hZ]
        simp
      obtain ⟨Y, hY⟩ : ∃ Y, bits .and .i64 Z 1 = Y := ⟨_, rfl⟩
      have HLSC := Lib.hid (show N ≤ sc from by
        obtain ⟨_, _, hv, _, h2, _⟩ := HP3.out
        cases hv
        rw [HSL.out] at h2
        exact h2)
      have HBN := Lib.hid (HB.out)
      have hsc1 : j + 1 ≤ sc := by have := HLSC.out; omega
      have hsc2 : (j : Int) + 1 ≤ (sc : Int) := by omega
      have hsc3 : (j : Int) ≤ (j : Int) + 1 := by omega
      clear hZ hc hy hbb
      by_cases hY1 : Y = 1
      · subst hY1
        have hYb : ((1 : Int) == 1) = true := rfl
        obtain ⟨sl, hso, hsC, hsok⟩ := HS1.out
        have HA2 := Lib.hid (show OwnPs w3.heap.size (wr.alloc (.cells #[.int .i64 y.n, .int .u64 y.s] 38)) (.slice ra C rc) sl ∧ PsAt (wr.alloc (.cells #[.int .i64 y.n, .int .u64 y.s] 38)) (.slice (some ⟨wr.heap.size, 0, none⟩) 1 1) [y] ∧ Below w3.heap.size w3 (wr.alloc (.cells #[.int .i64 y.n, .int .u64 y.s] 38)) ∧ w3.heap.size ≤ (wr.alloc (.cells #[.int .i64 y.n, .int .u64 y.s] 38)).heap.size from
          ⟨OwnPs.kept hso (Go.Joins.below_alloc1 wr _) (Nat.le_refl _), ps_one wr y hyo, HB.out.alloc HB.out.size _, by rw [World.size_alloc]; have := HB.out.size; omega⟩)
        have HOKS := Lib.hid (show ∀ q ∈ sl ++ [y], q.ok from fun q hq => by
          rcases List.mem_append.1 hq with h | h
          · exact hsok q h
          · rw [List.mem_singleton] at h; rw [h]; exact hyo)
        have HLX := Lib.hid (show (sl ++ [y]).length = C + 1 from by rw [List.length_append, hsC]; rfl)
        have HSC := Lib.hid hsC
        clear hso hsC hsok
        cases T
        · have HRA := Lib.hid (fun W' (hb : Below w3.heap.size w3 W') => ramong_any _ _ [y] m W' (HPM.out.below hb) (HM.out.below (HF.out _ (On.step H3.out hb))) (by simp) (by rw [HMM.out]; omega))
          simp only [hits_one] at HRA
          cases hmy : m.contains y
          · rw [hmy] at HRA
            simp only [Bool.false_eq_true, if_false] at HRA
            have HNX := Lib.hid (show met m.contains S (j + 1) + (C + 1) ≤ j + 1 from by rw [HMS.out, hmy]; have := HT1.out rfl; simp; omega)
            clear hmy
            go_wp2_with (at_builtin; refine wpList_append_rows rfl _ _ 23 38 2 16 _ PL.cells rfl Try.underlying23 info38 rfl (by decide) (by decide) (fun _ => rfl) w3.heap.size _ _ sl [y] rfl rfl HA2.out.1 HA2.out.2.1 (ps_oneCell _) (by rw [HSC.out]; simp only [List.length_cons, List.length_nil]; omega) HA2.out.2.2.2 ?_; intro v2 w2 ho2 hg2; have hbb := HA2.out.2.2.1.grown hg2 HA2.out.2.2.1.size (fun j hj => (HA2.out.1.own j hj)); have hww := (Go.Joins.below_alloc1 wr (.cells #[.int .i64 y.n, .int .u64 y.s] 38)); have hgg := Below.grown (Below.refl w3.heap.size (wr.alloc (.cells #[.int .i64 y.n, .int .u64 y.s] 38))) hg2 HA2.out.2.2.2 (fun j hj => (HA2.out.1.own j hj)); obtain ⟨v2a, v2c, rfl⟩ := OwnPs.form ho2 HOKS.out; have hlx := HLX.out; rw [hlx] at ho2 ⊢; have H2 := Lib.hid (And.intro ho2 hbb); clear ho2 hg2 hbb hlx hww hgg)
            refine (HRA.out _ H2.out.2).mono ?_
            rintro e w5 ⟨rfl, hb5⟩
            have H5 := Lib.hid (show (∃ sl' : List PL, OwnPs w3.heap.size w5 (.slice v2a (C + 1) v2c) sl' ∧ sl'.length = C + 1 ∧ ∀ q ∈ sl', q.ok) ∧ Below w3.heap.size w3 w5 from ⟨⟨_, OwnPs.kept H2.out.1 hb5 (Nat.le_refl _), HLX.out, HOKS.out⟩, H2.out.2.trans (hb5.mono H2.out.2.size)⟩)
            clear hb5
            go_wp2
            go_roundw
            case rel => exact ⟨j + 1, C + 1, false, by omega, by go_num, rfl, ⟨_, _, rfl⟩, by omega, H5.out.1, (fun _ => HNX.out), H5.out.2⟩
            case measure => simp [intOf]; omega
          · rw [hmy] at HRA
            simp only [if_true] at HRA
            clear hmy
            go_wp2_with (at_builtin; refine wpList_append_rows rfl _ _ 23 38 2 16 _ PL.cells rfl Try.underlying23 info38 rfl (by decide) (by decide) (fun _ => rfl) w3.heap.size _ _ sl [y] rfl rfl HA2.out.1 HA2.out.2.1 (ps_oneCell _) (by rw [HSC.out]; simp only [List.length_cons, List.length_nil]; omega) HA2.out.2.2.2 ?_; intro v2 w2 ho2 hg2; have hbb := HA2.out.2.2.1.grown hg2 HA2.out.2.2.1.size (fun j hj => (HA2.out.1.own j hj)); have hww := (Go.Joins.below_alloc1 wr (.cells #[.int .i64 y.n, .int .u64 y.s] 38)); have hgg := Below.grown (Below.refl w3.heap.size (wr.alloc (.cells #[.int .i64 y.n, .int .u64 y.s] 38))) hg2 HA2.out.2.2.2 (fun j hj => (HA2.out.1.own j hj)); obtain ⟨v2a, v2c, rfl⟩ := OwnPs.form ho2 HOKS.out; have hlx := HLX.out; rw [hlx] at ho2 ⊢; have H2 := Lib.hid (And.intro ho2 hbb); clear ho2 hg2 hbb hlx hww hgg)
            refine (HRA.out _ H2.out.2).mono ?_
            rintro e w5 ⟨rfl, hb5⟩
            have H5 := Lib.hid (show (∃ sl' : List PL, OwnPs w3.heap.size w5 (.slice v2a (C + 1) v2c) sl' ∧ sl'.length = C + 1 ∧ ∀ q ∈ sl', q.ok) ∧ Below w3.heap.size w3 w5 from ⟨⟨_, OwnPs.kept H2.out.1 hb5 (Nat.le_refl _), HLX.out, HOKS.out⟩, H2.out.2.trans (hb5.mono H2.out.2.size)⟩)
            clear hb5
            go_wp2
            go_roundw
            case rel => exact ⟨j + 1, C + 1, true, by omega, by go_num, rfl, ⟨_, _, rfl⟩, by omega, H5.out.1, (fun h => by cases h), H5.out.2⟩
            case measure => simp [intOf]; omega
        · go_wp2_with (at_builtin; refine wpList_append_rows rfl _ _ 23 38 2 16 _ PL.cells rfl Try.underlying23 info38 rfl (by decide) (by decide) (fun _ => rfl) w3.heap.size _ _ sl [y] rfl rfl HA2.out.1 HA2.out.2.1 (ps_oneCell _) (by rw [HSC.out]; simp only [List.length_cons, List.length_nil]; omega) HA2.out.2.2.2 ?_; intro v2 w2 ho2 hg2; have hbb := HA2.out.2.2.1.grown hg2 HA2.out.2.2.1.size (fun j hj => (HA2.out.1.own j hj)); have hww := (Go.Joins.below_alloc1 wr (.cells #[.int .i64 y.n, .int .u64 y.s] 38)); have hgg := Below.grown (Below.refl w3.heap.size (wr.alloc (.cells #[.int .i64 y.n, .int .u64 y.s] 38))) hg2 HA2.out.2.2.2 (fun j hj => (HA2.out.1.own j hj)); obtain ⟨v2a, v2c, rfl⟩ := OwnPs.form ho2 HOKS.out; have hlx := HLX.out; rw [hlx] at ho2 ⊢; have H2 := Lib.hid (And.intro ho2 hbb); clear ho2 hg2 hbb hlx hww hgg)
          have H5 := Lib.hid (show (∃ sl' : List PL, OwnPs w3.heap.size w2 (.slice v2a (C + 1) v2c) sl' ∧ sl'.length = C + 1 ∧ ∀ q ∈ sl', q.ok) ∧ Below w3.heap.size w3 w2 from ⟨⟨_, H2.out.1, HLX.out, HOKS.out⟩, H2.out.2⟩)
          go_roundw
          case rel => exact ⟨j + 1, C + 1, true, by omega, by go_num, rfl, ⟨_, _, rfl⟩, by omega, H5.out.1, (fun h => by cases h), H5.out.2⟩
          case measure => simp [intOf]; omega
      · have hYb : (Y == 1) = false := by simpa using hY1
        have HNX := Lib.hid (show T = false → met m.contains S (j + 1) + C ≤ j + 1 from fun h => by have := HT1.out h; rw [HMS.out]; split <;> omega)
        clear hY1
        go_wp2
        go_roundw
        case rel => exact ⟨j + 1, C, T, by omega, by go_num, rfl, ⟨_, _, rfl⟩, by omega, HS1.out, HNX.out, HBN.out⟩
        case measure => simp [intOf]; omega
    · obtain rfl : j = N := by omega
      have HCV := Lib.hid (fun W' (hb : On W W') => covered_any f j x a c (.slice ua M uc) row m W' (by rw [HE.out]; exact HP.out.below (HF.out W' hb)) (HM.out.below (HF.out W' hb)) (by rw [HE.out]; omega) (by rw [HMM.out]; omega) (by omega) (by omega))
      rw [HE.out] at HCV
      obtain ⟨c0, c1⟩ := HC.out wr HOW.out
      obtain ⟨CV, hCV⟩ : ∃ CV, covB m.contains row (j : Int) x = CV := ⟨_, rfl⟩
      rw [hCV] at HCV
      cases CV
      · have HNO := Lib.hid (fun h => cov_not hCV HHB.out h)
        clear hCV HS1 HT1
        go_wp2_with fail
        refine (HCV.out _ HOW.out).mono ?_
        rintro e w5 ⟨rfl, hb5⟩
        have H5 := Lib.hid (On.step HOW.out hb5)
        have HG2 := Lib.hid g2
        have hHB := HHB.out
        have HS2 := Lib.hid (show ∀ W' i, On W W' → i < E → _ from fun W' (i : Nat) (hb : On W W') (hi : i < E) => set_any W'.heap.size 0 1 f j (f + i) a c row (W'.alloc (.cells #[.int .u64 f, .slice a E c] 25)) (by rw [HE.out]; exact OneFrag.new _ _ _ _ _) (by rw [HE.out]; exact (HP.out.below (HF.out W' hb)).below (Go.Joins.below_alloc1 _ _)) (by rw [HE.out]; omega) HF0.out (by have := HF0.out; have := HG2.out; omega))
        clear hb5 hCj hlt hj c0 c1 hHB g1 g2
        go_wp2_with fail
        go_loopw [17] (fun i wx => ∃ t : Nat, t ≤ E ∧ i = .int .i64 (t : Nat) ∧ Hid (∀ q, q < t → (j : Int) - (hits m.contains (rot row q ((j : Int)).toNat) : Int) < x) ∧ Hid (On W wx)) (fun i _ => E - (intOf i).toNat)
        case atStart => exact ⟨0, Nat.zero_le _, rfl, (fun q hq => absurd hq (Nat.not_lt_zero q)), H5.out⟩
        case round =>
          obtain ⟨t, ht, rfl, HQ, HO⟩ := hrel
          obtain ⟨c0, c1⟩ := HC.out wr HO.out
          by_cases hlt : t < E
          · have hltz : (t : Int) < (E : Int) := by omega
            have e4 : IntKind.u64.wrap (t : Int) = (t : Int) := by rw [wrapu]; omega
            have e5 : IntKind.u64.wrap (f + (t : Int)) = f + (t : Int) := by rw [wrapu]; have := HF0.out; have := HG2.out; omega
            have c0a : ∀ o, (wr.alloc o).cell? ⟨w.heap.size, 0, none⟩ = some (.int .u64 f) := fun o => (HC.out _ (On.step HO.out (Go.Joins.below_alloc1 wr o))).1
            have HS3 := Lib.hid (HS2.out wr t HO.out hlt)
            rw [setL_at HHB.out (by rw [HE.out]; exact hlt), Int.toNat_natCast] at HS3
            go_wp2_with fail
            refine HS3.out.mono ?_
            rintro e p3 ⟨v3, rfl, ho3, hb3⟩
            have hp3 := ho3.at (HRO.out t)
            obtain ⟨sa, sd, rfl⟩ := OwnPs.form ho3 (HRO.out t)
            rw [HRL.out] at hp3
            have H6 := Lib.hid (show On W p3 from On.step (On.step HO.out (Go.Joins.below_alloc1 _ _)) hb3)
            have HRA := Lib.hid (ramong_any _ _ (rot row t j) m p3 hp3 (HM.out.below (HF.out _ H6.out)) (by rw [HRL.out]; omega) (by rw [HMM.out]; omega))
            rw [HRL.out]
            have hhl := hits_le m.contains (rot row t j)
            rw [HRL.out] at hhl
            obtain ⟨H, hH⟩ : ∃ H, hits m.contains (rot row t j) = H := ⟨_, rfl⟩
            rw [hH] at HRA hhl
            have HHH := Lib.hid hH
            have e6 : wrap64 ((j : Int) - (H : Int)) = (j : Int) - (H : Int) := by unfold wrap64; omega
            clear ho3 hp3 hb3 hH HS3
            go_wp2_with fail
            refine HRA.out.mono ?_
            rintro e p4 ⟨rfl, hb4⟩
            have H7 := Lib.hid (On.step H6.out hb4)
            clear hb4
            by_cases hxa : x ≤ (j : Int) - (H : Int)
            · have hd : decide (x ≤ (j : Int) - (H : Int)) = true := decide_eq_true hxa
              go_wp2_with fail
              refine (awake_any _).mono ?_
              rintro e wf ⟨rfl, hb⟩
              have HBf := Lib.hid (HF.out _ (On.step H7.out hb))
              clear hb
              go_wp2
              go_ret
              exact ⟨rfl, HBf.out⟩
            · have hd : decide (x ≤ (j : Int) - (H : Int)) = false := decide_eq_false hxa
              have HQN := Lib.hid (show ∀ q, q < t + 1 → (j : Int) - (hits m.contains (rot row q ((j : Int)).toNat) : Int) < x from fun q hq => by
                rcases Nat.lt_or_ge q t with h | h
                · exact HQ.out q h
                · obtain rfl : q = t := by omega
                  rw [Int.toNat_natCast, HHH.out]
                  omega)
              clear hxa
              go_wp2
              go_roundw
              case rel => exact ⟨t + 1, by omega, by go_num, HQN.out, H7.out⟩
              case measure => simp [intOf]; omega
          · obtain rfl : t = E := by omega
            exact (HNO.out (fun k hk => by have := HQ.out k (by have := HE.out; omega); omega)).elim
      · have HHT := Lib.hid (cov_hits hCV (show J < row.length by rw [HE.out]; exact hJE) hxN)
        rw [Int.toNat_natCast, HSS.out] at HHT
        clear hCV
        go_wp2_with fail
        refine (HCV.out _ HOW.out).mono ?_
        rintro e w5 ⟨rfl, hb5⟩
        have H5 := Lib.hid (On.step HOW.out hb5)
        clear hb5
        by_cases hCx : (C : Int) < x
        · have hd : decide ((C : Int) < x) = true := decide_eq_true hCx
          clear hCx
          go_wp2_with fail
          refine (awake_any _).mono ?_
          rintro e wf ⟨rfl, hb⟩
          have HBf := Lib.hid (HF.out _ (On.step H5.out hb))
          clear hb
          go_wp2
          go_ret
          exact ⟨rfl, HBf.out⟩
        · have hd : decide ((C : Int) < x) = false := decide_eq_false hCx
          obtain rfl : T = true := by
            cases T
            · exfalso
              have h1 := HT1.out rfl
              have h2 := met_all (p := m.contains) HSL.out
              have h3 := HHT.out
              omega
            · rfl
          clear hCx
          go_wp2_with fail
          refine (awake_any _).mono ?_
          rintro e wf ⟨rfl, hb⟩
          have HBf := Lib.hid (HF.out _ (On.step H5.out hb))
          clear hb
          go_wp2
          go_ret
          exact ⟨rfl, HBf.out⟩
end Go.Proofs.Ytnfjhpdpeihheaa
