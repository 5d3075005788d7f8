/- StripeRound: round. -/
import Derived.Test.YtnfjhpdpeihheaaRoundM
import Derived.Laws.Bits64b
namespace Go.Proofs.Ytnfjhpdpeihheaa
open Go.RowKit Go.Maps Go.Shelf
theorem longB_nil {E : Nat} {n : Int} (h : longB E n [] = false) : E ≤ 30 ∧ n ≤ 1000 := by
  simp [longB] at h
  omega
/-- sixteen numbers, none counted -/
abbrev z16 : Obj := .cells #[.int .i64 0, .int .i64 0, .int .i64 0, .int .i64 0, .int .i64 0, .int .i64 0, .int .i64 0, .int .i64 0, .int .i64 0, .int .i64 0, .int .i64 0, .int .i64 0, .int .i64 0, .int .i64 0, .int .i64 0, .int .i64 0] 55
theorem z16_get (d : Nat) (hd : d < 16) : (#[.int .i64 0, .int .i64 0, .int .i64 0, .int .i64 0, .int .i64 0, .int .i64 0, .int .i64 0, .int .i64 0, .int .i64 0, .int .i64 0, .int .i64 0, .int .i64 0, .int .i64 0, .int .i64 0, .int .i64 0, .int .i64 0] : Array Value)[d]? = some (.int .i64 ((0 : Nat) : Int)) := by
  rcases (show d = 0 ∨ d = 1 ∨ d = 2 ∨ d = 3 ∨ d = 4 ∨ d = 5 ∨ d = 6 ∨ d = 7 ∨ d = 8 ∨ d = 9 ∨ d = 10 ∨ d = 11 ∨ d = 12 ∨ d = 13 ∨ d = 14 ∨ d = 15 by omega) with rfl | rfl | rfl | rfl | rfl | rfl | rfl | rfl | rfl | rfl | rfl | rfl | rfl | rfl | rfl | rfl <;> rfl
set_option maxRecDepth 100000 in
set_option maxHeartbeats 8000000 in
theorem rounds_any (f n k : Int) (a : Option Addr) (c : Nat) (row : List PL) (w : World) (hf0 : 0 ≤ f ∧ f ≤ 18446744073709551615) (hk0 : 0 ≤ k ∧ k ≤ 18446744073709551615) (hp : PsAt w (.slice a row.length c) row) :
    Calls Try.prog 7 #[.agg #[.int .u64 f, .slice a row.length c], .int .i64 n, .int .u64 k] w fun e w' => e = .returned (.bool true) ∧ Below w.heap.size w w' := by
  have HP := Lib.hid hp
  have HPO := Lib.hid hp.ok
  clear hp
  obtain ⟨E, hE⟩ : ∃ E, row.length = E := ⟨_, rfl⟩
  rw [hE] at HP ⊢
  have HE := Lib.hid hE
  have HF0 := Lib.hid hf0
  have HK0 := Lib.hid hk0
  clear hE
  have HLG := Lib.hid (LV.long w f n a E c)
  have HLB := Lib.hid (LV.below w f (.slice a E c))
  have HBX := Lib.hid (LV.box w f (.slice a E c))
  obtain ⟨LB, hLB⟩ : ∃ LB, longB E n [] = LB := ⟨_, rfl⟩
  rw [hLB] at HLG
  have hcase : LB = true ∨ (LB = false ∧ n < 1) ∨ (LB = false ∧ ¬ n < 1) := by
    cases LB <;> simp <;> omega
  rcases hcase with rfl | ⟨rfl, h1⟩ | ⟨rfl, h1⟩
  iterate 2
    · clear hf0 hk0
      go_enter Try.func7, Try.ntmps7
      go_wp2_with fail
      change Calls _ _ _ (LV w f (.slice a E c)) _
      refine HLG.out.mono ?_
      rintro e w1 ⟨rfl, rfl⟩
      go_wp2_with fail
      refine (awake_any _).mono ?_
      rintro e w2 ⟨rfl, hb⟩
      have HB := Lib.hid (HLB.out.trans (hb.mono HLB.out.size))
      clear hb
      go_wp2
      go_ret
      exact ⟨rfl, HB.out⟩
  obtain ⟨b1, b2⟩ := longB_nil hLB
  obtain ⟨W, hW⟩ : ∃ W, W = LV w f (.slice a E c) := ⟨_, rfl⟩
  rw [← hW] at HLB HBX
  have HC := Lib.hid (show ∀ W', On W W' → W'.cell? ⟨w.heap.size, 0, none⟩ = some (.int .u64 f) ∧ W'.cell? ⟨w.heap.size, 1, none⟩ = some (.slice a E c) from fun W' hb => by
    have h := HBX.out.below hb
    exact ⟨h.c0, h.c1⟩)
  have HF := Lib.hid (show ∀ W', On W W' → Below w.heap.size w W' from fun W' hb => HLB.out.trans (Below.mono hb HLB.out.size))
  have MF := Lib.hid (fun W' (hb : On W W') => mayf_any W'.heap.size 0 1 n a c row (W'.alloc (.cells #[.int .u64 1, .slice a E c] 25)) (by rw [HE.out]; exact OneFrag.new _ _ _ _ _) (by rw [HE.out]; exact (HP.out.below (HF.out W' hb)).below (Go.Joins.below_alloc1 _ _)))
  rw [HE.out] at MF
  obtain ⟨c0, c1⟩ := HC.out W (Below.refl _ _)
  have d1 : decide (n < 1) = false := decide_eq_false h1
  have HN := Lib.hid h1
  have HLT := Lib.hid (show w.heap.size < W.heap.size from lt_of_block HBX.out)
  clear hf0 hk0
  go_enter Try.func7, Try.ntmps7
  go_wp2_with fail
  change Calls _ _ _ (LV w f (.slice a E c)) _
  refine HLG.out.mono ?_
  rintro e w1 ⟨rfl, rfl⟩
  rw [← hW]
  clear hW HLG h1
  go_wp2_with fail
  refine (MF.out _ (Below.refl _ _)).mono ?_
  rintro e p1 ⟨R, rfl, hiff, hb⟩
  have H1 := Lib.hid (show On W p1 from On.step (Go.Joins.below_alloc1 W _) hb)
  obtain ⟨c0, c1⟩ := HC.out p1 H1.out
  clear hb
  have hcs : R = false ∨ (R = true ∧ k < f) ∨ (R = true ∧ ¬ k < f ∧ 1152921504606846976 < k) ∨ (R = true ∧ ¬ k < f ∧ ¬ 1152921504606846976 < k) := by
    cases R
    · exact .inl rfl
    · by_cases g1 : k < f
      · exact .inr (.inl ⟨rfl, g1⟩)
      · by_cases g2 : 1152921504606846976 < k
        · exact .inr (.inr (.inl ⟨rfl, g1, g2⟩))
        · exact .inr (.inr (.inr ⟨rfl, g1, g2⟩))
  rcases hcs with rfl | ⟨rfl, g1⟩ | ⟨rfl, g1, g2⟩ | ⟨rfl, g1, g2⟩
  · clear hiff
    go_wp2_with fail
    refine (awake_any _).mono ?_
    rintro e wf ⟨rfl, hb⟩
    have HB := Lib.hid (HF.out _ (On.step H1.out hb))
    clear hb
    go_wp2
    go_ret
    exact ⟨rfl, HB.out⟩
  · clear hiff
    have q1 : decide (k < f) = true := decide_eq_true g1
    go_wp2_with fail
    refine (awake_any _).mono ?_
    rintro e wf ⟨rfl, hb⟩
    have HB := Lib.hid (HF.out _ (On.step H1.out hb))
    clear hb
    go_wp2
    go_ret
    exact ⟨rfl, HB.out⟩
  · clear hiff
    have q1 : decide (k < f) = false := decide_eq_false g1
    have q2 : decide (1152921504606846976 < k) = true := decide_eq_true g2
    go_wp2_with fail
    refine (awake_any _).mono ?_
    rintro e wf ⟨rfl, hb⟩
    have HB := Lib.hid (HF.out _ (On.step H1.out hb))
    clear hb
    go_wp2
    go_ret
    exact ⟨rfl, HB.out⟩
  obtain ⟨k1, k2, k3⟩ := hiff.1 rfl
  clear hiff
  have q1 : decide (k < f) = false := decide_eq_false g1
  have q2 : decide (1152921504606846976 < k) = false := decide_eq_false g2
  obtain ⟨N, rfl⟩ : ∃ N : Nat, n = N := ⟨n.toNat, by have := HN.out; omega⟩
  have hN1 : 1 ≤ N := by have := HN.out; omega
  have hNE : N ≤ E := by omega
  obtain ⟨K, hK⟩ : ∃ K : Nat, k = f + K := ⟨(k - f).toNat, by omega⟩
  have HKK := Lib.hid hK
  have HG := Lib.hid (And.intro g1 g2)
  have HHB := Lib.hid (show hasB row (N : Int) = true by unfold hasB; rw [HE.out]; simp; omega)
  have HMAY := Lib.hid k3
  have HRO := Lib.hid (show ∀ j, ∀ q ∈ rot row j N, q.ok from fun j => rot_ok (by rw [HE.out]; omega) HPO.out)
  have HRL := Lib.hid (fun j => rot_length row j N)
  have e3 : IntKind.u64.wrap (E : Int) = E := by rw [wrapu]; omega
  have c1a : ∀ o, (p1.alloc o).cell? ⟨w.heap.size, 1, none⟩ = some (.slice a E c) := fun o => (HC.out _ (On.step H1.out (Go.Joins.below_alloc1 p1 o))).2
  clear k3 hK
  go_wp2_with fail
  obtain ⟨W5, hW5⟩ : ∃ W5, W5 = (p1.alloc (.cells #[.int .u64 f, .slice a E c] 25)).alloc z16 := ⟨_, rfl⟩
  have hs1 : (p1.alloc (.cells #[.int .u64 f, .slice a E c] 25)).heap.size = p1.heap.size + 1 := World.size_alloc _ _
  have H5 := Lib.hid (show Rd W5 w f a E c p1.heap.size (p1.heap.size + 1) (cntTo row K N 0 0) from by
    have h1 : On W W5 := by rw [hW5]; exact On.step H1.out (Go.Joins.below_alloc2 p1 _ _)
    refine ⟨HF.out _ h1, HBX.out.below h1, ?_, ?_⟩
    · rw [hW5]; exact (OneFrag.new p1 f a E c).below (Go.Joins.below_alloc1 _ _)
    · rw [hW5, ← hs1]
      exact ⟨_, heap_alloc_new _ _, rfl, fun d hd => by rw [cntTo_zero]; exact z16_get d hd⟩)
  have HGG := Lib.hid (show w.heap.size < p1.heap.size + 1 ∧ p1.heap.size ≠ p1.heap.size + 1 from ⟨by have := HLT.out; have := Below.size H1.out; omega, by omega⟩)
  have HKE := Lib.hid (show ∀ t : Nat, setL f row (N : Int) (k + t) = rot row ((K + t) % E) N from fun t => by
    rw [setL_ge (by have := HKK.out; omega) HHB.out, HE.out, Int.toNat_natCast]
    congr 1
    have : k + (t : Int) - f = ((K + t : Nat) : Int) := by have := HKK.out; omega
    rw [this, ← Int.natCast_emod, Int.toNat_natCast])
  have HSET := Lib.hid (show ∀ (W' : World) (t : Nat) (cnt : Int → Nat), t ≤ E → Rd W' w f a E c p1.heap.size (p1.heap.size + 1) cnt → Calls Try.prog 28 #[.slice (some ⟨p1.heap.size, 0, none⟩) 1 1, .int .i64 (N : Int), .int .u64 (k + t)] W' fun e w' => ∃ sb sc, e = .returned (.slice (some ⟨sb, 0, none⟩) N sc) ∧ PsAt w' (.slice (some ⟨sb, 0, none⟩) N sc) (rot row ((K + t) % E) N) ∧ W'.heap.size ≤ sb ∧ Below W'.heap.size W' w' from fun W' t cnt ht hr => by
    have hs := set_any p1.heap.size 0 1 f N (k + t) a c row W' (by rw [HE.out]; exact hr.one) (by rw [HE.out]; exact HP.out.below hr.bel) (by rw [HE.out]; omega) HF0.out (by have := HK0.out; have := HG.out.2; omega)
    rw [HKE.out] at hs
    refine hs.mono ?_
    rintro e w' ⟨v', rfl, ho, hb⟩
    have hp := ho.at (HRO.out ((K + t) % E))
    rcases ho.2 with ⟨_, h0⟩ | ⟨g, cap, cur, rfl, hg, _⟩
    · rw [HRL.out] at h0; omega
    · rw [HRL.out] at hp ⊢
      exact ⟨g, cap, rfl, hp, hg, hb⟩)
  change Code.wp _ _ _ _ ((p1.alloc (.cells #[.int .u64 f, .slice a E c] 25)).alloc z16)
  rw [← hW5]
  clear hW5 hs1 c0 c1 c1a
  go_loopw [10] (fun i wr => ∃ t : Nat, t ≤ E ∧ i = .int .u64 (t : Nat) ∧ Hid (Rd wr w f a E c p1.heap.size (p1.heap.size + 1) (cntTo row K N t 0))) (fun i _ => E - (intOf i).toNat)
  case atStart => exact ⟨0, Nat.zero_le _, rfl, H5.out⟩
  case round =>
    obtain ⟨t, ht, rfl, HR⟩ := hrel
    obtain ⟨wo, rfl⟩ : ∃ wo : World, wo = wr := ⟨_, rfl⟩
    by_cases hlt : t < E
    · have hltz : (t : Int) < (E : Int) := by omega
      have e5 : IntKind.u64.wrap (k + (t : Int)) = k + (t : Int) := by rw [wrapu]; have := HK0.out; have := HG.out.2; omega
      have e6 : IntKind.u64.wrap ((t : Int) + 1) = (t : Int) + 1 := by rw [wrapu]; omega
      have HS := Lib.hid (HSET.out wo t _ ht HR.out)
      go_wp2_with fail
      refine HS.out.mono ?_
      rintro e w3 ⟨sb, sc, rfl, hp3, hsb, hb3⟩
      have hr3 := HR.out.below hb3
      have H3 := Lib.hid (And.intro hr3 hp3)
      have hsg : sb ≠ p1.heap.size + 1 := by have := HR.out.cnt.lt; omega
      have HSG := Lib.hid hsg
      obtain ⟨S, hS⟩ : ∃ S, rot row ((K + t) % E) N = S := ⟨_, rfl⟩
      have HSS := Lib.hid hS
      have HRA := Lib.hid (ramong_any _ _ (rot row ((K + t) % E) N) row w3 hp3 (HP.out.below hr3.bel) (by rw [HRL.out]; omega) (by rw [HE.out]; omega))
      rw [rot_hits HMAY.out (by rw [HE.out]; exact hNE)] at HRA
      rw [hS] at H3
      have HSL := Lib.hid (show S.length = N by rw [← hS]; exact rot_length _ _ _)
      have HSM := Lib.hid (show ∀ q y, S[q]? = some y → y.n = nd row (K + t + q) ∧ 0 < y.n ∧ y.n ≤ 15 from fun q y hy => by
        rw [← hS, ← HE.out] at hy
        have hn := rot_nd (by rw [HE.out]; omega) hy
        have hm := rot_mem (by rw [HE.out]; omega) y (List.mem_of_getElem? hy)
        exact ⟨hn, may_node (HMAY.out.1 y hm)⟩)
      have c0 := hr3.box.c0
      have c1 := hr3.box.c1
      clear hp3 hsb hb3 hr3 hsg hS HS
      go_wp2_with fail
      refine HRA.out.mono ?_
      rintro e w4 ⟨rfl, hb4⟩
      have H4 := Lib.hid (show Rd w4 w f a E c p1.heap.size (p1.heap.size + 1) (cntTo row K N t 0) ∧ PsAt w4 (.slice (some ⟨sb, 0, none⟩) N sc) S from ⟨H3.out.1.below hb4, H3.out.2.below hb4⟩)
      clear hb4 c0 c1 HRA
      go_wp2
      go_loopw [12] (fun i wx => ∃ q : Nat, q ≤ N ∧ i = .int .i64 (q : Nat) ∧ Hid (Rd wx w f a E c p1.heap.size (p1.heap.size + 1) (cntTo row K N t q) ∧ PsAt wx (.slice (some ⟨sb, 0, none⟩) N sc) S)) (fun i _ => N - (intOf i).toNat)
      case atStart => exact ⟨0, Nat.zero_le _, rfl, H4.out⟩
      case round =>
        obtain ⟨q, hq, rfl, HQ⟩ := hrel
        by_cases hlq : q < N
        · have hlqz : (q : Int) < (N : Int) := by omega
          obtain ⟨y, hy⟩ : ∃ y, S[q]? = some y := ⟨_, List.getElem?_eq_getElem (by rw [HSL.out]; exact hlq)⟩
          obtain ⟨bb, off, hbo, _, hc⟩ := PsAt.cell HQ.out.2 hy
          cases hbo
          obtain ⟨y0, y1⟩ := hc wr (Below.refl _ _)
          rw [Nat.zero_add] at y0 y1
          obtain ⟨hyn, hy1, hy2⟩ := HSM.out q y hy
          obtain ⟨m, hm⟩ : ∃ m : Nat, y.n = m := ⟨y.n.toNat, by omega⟩
          rw [hm] at y0 hyn hy1 hy2
          have hm16 : m < 16 := by omega
          have hand := and15 m hm16
          have x0 := HQ.out.1.cnt.cell hm16
          have xf := HQ.out.1.cnt.fz
          have hle := cntTo_le row K N t q (m : Int)
          have HN := Lib.hid (show Rd (wr.setCell ⟨p1.heap.size + 1, m, none⟩ (.int .i64 ((cntTo row K N t q (m : Int) : Int) + 1))) w f a E c p1.heap.size (p1.heap.size + 1) (cntTo row K N t (q + 1)) ∧ PsAt (wr.setCell ⟨p1.heap.size + 1, m, none⟩ (.int .i64 ((cntTo row K N t q (m : Int) : Int) + 1))) (.slice (some ⟨sb, 0, none⟩) N sc) S from
            ⟨HQ.out.1.put HGG.out.1 HGG.out.2 hm16 (by rw [cntTo_step, ← hyn]; simp [ind]) (fun d hd => by rw [cntTo_step, ← hyn]; unfold ind; rw [if_neg (by omega), Nat.add_zero]), ps_set HQ.out.2 HSG.out⟩)
          obtain ⟨B, hB⟩ : ∃ B, cntTo row K N t q (m : Int) = B := ⟨_, rfl⟩
          rw [hB] at x0 hle HN
          have hBs : B ≤ 1000 := by
            have : t * N ≤ 5 * 5 := Nat.mul_le_mul (by omega) (by omega)
            omega
          have hmz : (m : Int) < 16 := by omega
          have hmz0 : (0 : Int) ≤ (m : Int) := by omega
          clear hB hle hyn hy hc hm
          go_wp2
          go_roundw
          case rel => exact ⟨q + 1, by omega, by go_num, HN.out⟩
          case measure => simp [intOf]; omega
        · obtain rfl : q = N := by omega
          have HN := Lib.hid (show Rd wr w f a E c p1.heap.size (p1.heap.size + 1) (cntTo row K q (t + 1) 0) from by
            refine ⟨HQ.out.1.bel, HQ.out.1.box, HQ.out.1.one, HQ.out.1.cnt.congr fun d => ?_⟩
            rw [cntTo_next])
          go_wp2
          go_roundw
          case rel => exact ⟨t + 1, by omega, by go_num, HN.out⟩
          case measure => simp [intOf]; omega
    · obtain rfl : t = E := by omega
      go_wp2
      go_loopw [13] (fun i wx => ∃ q : Nat, q ≤ t ∧ i = .int .i64 (q : Nat) ∧ Hid (Rd wx w f a t c p1.heap.size (p1.heap.size + 1) (cntTo row K N t 0))) (fun i _ => t - (intOf i).toNat)
      case atStart => exact ⟨0, Nat.zero_le _, rfl, HR.out⟩
      case round =>
        obtain ⟨q, hq, rfl, HQ⟩ := hrel
        have c0 := HQ.out.box.c0
        have c1 := HQ.out.box.c1
        by_cases hlq : q < t
        · have hlqz : (q : Int) < (t : Int) := by omega
          obtain ⟨y, hy⟩ : ∃ y, row[q]? = some y := ⟨_, List.getElem?_eq_getElem (by rw [HE.out]; exact hlq)⟩
          obtain ⟨bb, off, rfl, _, hc⟩ := PsAt.cell (HP.out.below HQ.out.bel) hy
          obtain ⟨y0, y1⟩ := hc wr (Below.refl _ _)
          obtain ⟨hy1, hy2⟩ := may_node (HMAY.out.1 y (List.mem_of_getElem? hy))
          have hall := cntTo_all HMAY.out K N hy
          rw [HE.out] at hall
          obtain ⟨m, hm⟩ : ∃ m : Nat, y.n = m := ⟨y.n.toNat, by omega⟩
          rw [hm] at y0 hy1 hy2 hall
          have hm16 : m < 16 := by omega
          have hand := and15 m hm16
          have x0 := HQ.out.cnt.cell hm16
          rw [hall] at x0
          have hmz : (m : Int) < 16 := by omega
          have hmz0 : (0 : Int) ≤ (m : Int) := by omega
          clear hall hy hc hm
          go_wp2
          go_roundw
          case rel => exact ⟨q + 1, by omega, by go_num, HQ.out⟩
          case measure => simp [intOf]; omega
        · obtain rfl : q = t := by omega
          have e7 : IntKind.u64.wrap (k + (q : Int)) = k + (q : Int) := by rw [wrapu]; have := HK0.out; have := HG.out.2; omega
          have HSA := Lib.hid (HSET.out wr 0 _ (Nat.zero_le _) HQ.out)
          rw [show k + ((0 : Nat) : Int) = k by simp, Nat.add_zero] at HSA
          go_wp2_with fail
          refine HSA.out.mono ?_
          rintro e w6 ⟨sb, sc, rfl, hp6, -, hb6⟩
          have H6 := Lib.hid (And.intro (HQ.out.below hb6) hp6)
          have HSB := Lib.hid (HSET.out w6 q _ (Nat.le_refl _) H6.out.1)
          rw [Nat.add_mod_right] at HSB
          clear hp6 hb6 HSA c0 c1
          go_wp2_with fail
          refine HSB.out.mono ?_
          rintro e w7 ⟨sb2, sc2, rfl, hp7, -, hb7⟩
          have HSM := Lib.hid (same_any _ _ (rot row (K % q) N) (rot row (K % q) N) w7 (H6.out.2.below hb7) hp7)
          rw [decide_eq_true rfl] at HSM
          have H7 := Lib.hid (H6.out.1.below hb7)
          clear hp7 hb7 HSB
          go_wp2_with fail
          refine HSM.out.mono ?_
          rintro e w8 ⟨rfl, hb8⟩
          have H8 := Lib.hid (H7.out.below hb8)
          clear hb8 HSM
          go_wp2_with fail
          refine (awake_any _).mono ?_
          rintro e wf ⟨rfl, hb⟩
          have HBf := Lib.hid (H8.out.bel.trans (hb.mono H8.out.bel.size))
          clear hb
          go_wp2
          go_ret
          exact ⟨rfl, HBf.out⟩
end Go.Proofs.Ytnfjhpdpeihheaa
