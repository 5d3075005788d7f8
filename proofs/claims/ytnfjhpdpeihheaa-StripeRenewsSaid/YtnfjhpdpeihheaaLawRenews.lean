/- StripeRenews: Renew as the document says it. -/
import Derived.Test.YtnfjhpdpeihheaaRenRef
import Derived.Test.YtnfjhpdpeihheaaFrags
import Derived.Test.YtnfjhpdpeihheaaLawCounts
namespace Go.Proofs.Ytnfjhpdpeihheaa
open Go.RowKit Go.Maps Go.Shelf
set_option maxRecDepth 100000 in
set_option maxHeartbeats 8000000 in
theorem renews_any (f n e : Int) (a : Option Addr) (c : Nat) (vb vk : Value) (row bad known : List PL) (w : World) (hp : PsAt w (.slice a row.length c) row) (hb0 : PsAt w vb bad) (hk0 : PsAt w vk known) :
    Calls Try.prog 5 #[.agg #[.int .u64 f, .slice a row.length c], .int .i64 n, .int .i64 e, vb, vk] w fun e w' => e = .returned (.bool true) ∧ Below w.heap.size w w' := by
  have HP := Lib.hid hp
  have HBD := Lib.hid hb0
  have HKN := Lib.hid hk0
  obtain ⟨ba, bc, rfl, -, -, -⟩ := hb0.form
  obtain ⟨ka, kc, rfl, -, -, -⟩ := hk0.form
  clear hp hb0 hk0
  obtain ⟨E, hE⟩ : ∃ E, row.length = E := ⟨_, rfl⟩
  obtain ⟨S, hS⟩ : ∃ S, bad.length = S := ⟨_, rfl⟩
  obtain ⟨L, hL⟩ : ∃ L, known.length = L := ⟨_, rfl⟩
  rw [hE] at HP ⊢
  rw [hS] at HBD ⊢
  rw [hL] at HKN ⊢
  have HE := Lib.hid hE
  have HS := Lib.hid hS
  have HL := Lib.hid hL
  clear hE hS hL
  have HLG := Lib.hid (LW.long w f n a ba ka E c S bc L kc)
  have HLB := Lib.hid (LW.below w f (.slice a E c) (.slice ba S bc) (.slice ka L kc))
  have HBX := Lib.hid (LW.box w f (.slice a E c) (.slice ba S bc) (.slice ka L kc))
  obtain ⟨LB, hLB⟩ : ∃ LB, longB E n [S, L] = LB := ⟨_, rfl⟩
  rw [hLB] at HLG
  obtain ⟨W, hW⟩ : ∃ W, W = LW w f (.slice a E c) (.slice ba S bc) (.slice ka L kc) := ⟨_, rfl⟩
  rw [← hW] at HLB HBX HLG
  have HF := Lib.hid (show ∀ W', On W W' → Below w.heap.size w W' from fun W' hb => HLB.out.trans (Below.mono hb HLB.out.size))
  have HWW := Lib.hid (show On W W from Below.refl _ _)
  cases LB
  case true =>
    go_enter Try.func5, Try.ntmps5
    go_wp2_with fail
    change Calls _ _ _ (LW w f (.slice a E c) (.slice ba S bc) (.slice ka L kc)) _
    rw [← hW]
    refine HLG.out.mono ?_
    rintro ee w1 ⟨rfl, hw⟩
    obtain rfl := hw.symm
    clear hW HLG
    go_wp2_with fail
    refine (awake_any _).mono ?_
    rintro ee wf ⟨rfl, hb⟩
    have HBf := Lib.hid (HF.out _ (On.step HWW.out hb))
    clear hb
    go_wp2
    go_ret
    exact ⟨rfl, HBf.out⟩
  obtain ⟨b1, b2, b3, b4⟩ := longB_two hLB
  have HC := Lib.hid (show ∀ W', On W W' → W'.cell? ⟨w.heap.size, 0, none⟩ = some (.int .u64 f) ∧ W'.cell? ⟨w.heap.size, 1, none⟩ = some (.slice a E c) from fun W' hb => by
    have h := HBX.out.below hb
    exact ⟨h.c0, h.c1⟩)
  have HRW := Lib.hid (show ∀ W', On W W' → PsAt W' (.slice a E c) row from fun W' hb => HP.out.below (HF.out W' hb))
  have HCP := Lib.hid (fun W' (hb : On W W') => copyF_any W'.heap.size 0 1 f a c row (W'.alloc (.cells #[.int .u64 f, .slice a E c] 25)) (by rw [HE.out]; exact OneFrag.new _ _ _ _ _) (by rw [HE.out]; exact (HRW.out W' hb).below (Go.Joins.below_alloc1 _ _)) (by rw [HE.out]; omega))
  rw [HE.out] at HCP
  have HRN := Lib.hid (fun W' (hb : On W W') => renew_any f a c row n e (.slice ba S bc) (.slice ka L kc) bad known W' (by rw [HE.out]; exact HRW.out W' hb) (HBD.out.below (HF.out _ hb)) (HKN.out.below (HF.out _ hb)) (by rw [HE.out]; omega) (by rw [HS.out]; omega) (by rw [HL.out]; omega))
  have HRR := Lib.hid (fun W' (hb : On W W') => rrenew_any f a c row n e (.slice ba S bc) (.slice ka L kc) bad known W' (by rw [HE.out]; exact HRW.out W' hb) (HBD.out.below (HF.out _ hb)) (HKN.out.below (HF.out _ hb)) (by rw [HE.out]; omega) (by rw [HS.out]; omega) (by rw [HL.out]; omega))
  rw [HE.out] at HRN HRR
  obtain ⟨F', hF'⟩ : ∃ F', (renewRes f row n e bad known).1 = F' := ⟨_, rfl⟩
  obtain ⟨R', hR'⟩ : ∃ R', (renewRes f row n e bad known).2.1 = R' := ⟨_, rfl⟩
  obtain ⟨B', hB'⟩ : ∃ B', (renewRes f row n e bad known).2.2 = B' := ⟨_, rfl⟩
  rw [hF', hR', hB'] at HRN HRR
  obtain ⟨K, hK⟩ : ∃ K, R'.length = K := ⟨_, rfl⟩
  rw [hK] at HRN HRR
  have HKK := Lib.hid hK
  clear hF' hR' hB' hK
  obtain ⟨c0, c1⟩ := HC.out W (Below.refl _ _)
  go_enter Try.func5, Try.ntmps5
  go_wp2_with fail
  change Calls _ _ _ (LW w f (.slice a E c) (.slice ba S bc) (.slice ka L kc)) _
  rw [← hW]
  refine HLG.out.mono ?_
  rintro ee w1 ⟨rfl, hw⟩
  obtain rfl := hw.symm
  clear hW HLG
  go_wp2_with fail
  refine (HCP.out _ (Below.refl _ _)).mono ?_
  rintro ee w3 ⟨wb, wk, wa, wc, rfl, hfr, hps, hb3⟩
  have H3 := Lib.hid (show On W w3 from On.step (Go.Joins.below_alloc1 W _) hb3)
  have HW3 := Lib.hid (And.intro hfr hps)
  obtain ⟨c0, c1⟩ := HC.out w3 H3.out
  clear hfr hps hb3
  go_wp2_with fail
  refine (HRN.out _ H3.out).mono ?_
  rintro ee w4 ⟨a4, c4, rfl, hp4, hb4⟩
  obtain ⟨X4, hX4⟩ : ∃ X4, w4.alloc (.cells #[.int .u64 F', .slice a4 K c4] 25) = X4 := ⟨_, rfl⟩
  have hbX4 : Below w4.heap.size w4 X4 := by rw [← hX4]; exact Go.Joins.below_alloc1 _ _
  have hbx4 : Box25 X4 w4.heap.size F' (.slice a4 K c4) := by rw [← hX4]; exact Box25.new _ _ _
  have H4 := Lib.hid (show On w3 X4 from On.step hb4 hbX4)
  have H4W := Lib.hid (show On W X4 from On.step H3.out H4.out)
  have HX4 := Lib.hid (And.intro hbx4 (PsAt.below hp4 hbX4))
  obtain ⟨c0, c1⟩ := HC.out X4 H4W.out
  clear hp4 hb4 hbX4 hbx4
  go_wp2_with fail
  refine (HRR.out _ H4W.out).mono ?_
  rintro ee w5 ⟨a5, c5, rfl, hp5, hb5⟩
  clear hX4
  obtain ⟨X5, hX5⟩ : ∃ X5, w5.alloc (.cells #[.int .u64 F', .slice a5 K c5] 25) = X5 := ⟨_, rfl⟩
  have hbX5 : Below w5.heap.size w5 X5 := by rw [← hX5]; exact Go.Joins.below_alloc1 _ _
  have hbx5 : Box25 X5 w5.heap.size F' (.slice a5 K c5) := by rw [← hX5]; exact Box25.new _ _ _
  have H5 := Lib.hid (show On X4 X5 from On.step hb5 hbX5)
  have HX5 := Lib.hid (And.intro hbx5 (PsAt.below hp5 hbX5))
  have H5W := Lib.hid (show On W X5 from On.step H4W.out H5.out)
  have HK5 := Lib.hid (show ∀ W', On X5 W' → (W'.cell? ⟨w4.heap.size, 0, none⟩ = some (.int .u64 F') ∧ W'.cell? ⟨w4.heap.size, 1, none⟩ = some (.slice a4 K c4)) ∧ (W'.cell? ⟨w5.heap.size, 0, none⟩ = some (.int .u64 F') ∧ W'.cell? ⟨w5.heap.size, 1, none⟩ = some (.slice a5 K c5)) ∧ PsAt W' (.slice a4 K c4) R' ∧ PsAt W' (.slice a5 K c5) R' from fun W' hb => by
    have h4 := On.step H5.out hb
    exact ⟨⟨(HX4.out.1.below h4).c0, (HX4.out.1.below h4).c1⟩, ⟨(HX5.out.1.below hb).c0, (HX5.out.1.below hb).c1⟩, PsAt.below HX4.out.2 h4, PsAt.below HX5.out.2 hb⟩)
  have HW5 := Lib.hid (show ∀ W', On X5 W' → OneFrag W' wb 0 f wa E wc ∧ PsAt W' (.slice wa E wc) row from fun W' hb => by
    have h3 := On.step (On.step H4.out H5.out) hb
    exact ⟨HW3.out.1.below h3, HW3.out.2.below h3⟩)
  obtain ⟨⟨p0, p1⟩, ⟨q0, q1⟩, -, -⟩ := HK5.out X5 (Below.refl _ _)
  have q0a : ∀ o, (X5.alloc o).cell? ⟨w5.heap.size, 0, none⟩ = some (.int .u64 F') := fun o => (HK5.out _ (Go.Joins.below_alloc1 X5 o)).2.1.1
  have q1a : ∀ o, (X5.alloc o).cell? ⟨w5.heap.size, 1, none⟩ = some (.slice a5 K c5) := fun o => (HK5.out _ (Go.Joins.below_alloc1 X5 o)).2.1.2
  have hbb : (B' == B') = true := by simp
  have HSM := Lib.hid (show Calls Try.prog 24 #[.slice (some ⟨X5.heap.size, 0, none⟩) 1 1, .slice (some ⟨X5.heap.size + 1, 0, none⟩) 1 1] ((X5.alloc (.cells #[.int .u64 F', .slice a4 K c4] 25)).alloc (.cells #[.int .u64 F', .slice a5 K c5] 25)) (fun e w' => e = .returned (.bool true) ∧ Below X5.heap.size X5 w') from by
    have h1 : OneFrag ((X5.alloc (.cells #[.int .u64 F', .slice a4 K c4] 25)).alloc (.cells #[.int .u64 F', .slice a5 K c5] 25)) X5.heap.size 0 F' a4 K c4 := (OneFrag.new _ _ _ _ _).below (Go.Joins.below_alloc1 _ _)
    have h2 : OneFrag ((X5.alloc (.cells #[.int .u64 F', .slice a4 K c4] 25)).alloc (.cells #[.int .u64 F', .slice a5 K c5] 25)) (X5.heap.size + 1) 0 F' a5 K c5 := by
      have := OneFrag.new (X5.alloc (.cells #[.int .u64 F', .slice a4 K c4] 25)) F' a5 K c5
      rw [World.size_alloc] at this
      exact this
    have hb := Go.Joins.below_alloc2 X5 (.cells #[.int .u64 F', .slice a4 K c4] 25) (.cells #[.int .u64 F', .slice a5 K c5] 25)
    have := sameF_any X5.heap.size 0 1 (X5.heap.size + 1) 0 1 F' F' a4 a5 c4 c5 R' R' _ (by rw [HKK.out]; exact h1) (by rw [HKK.out]; exact h2) (by rw [HKK.out]; exact (HK5.out _ hb).2.2.1) (by rw [HKK.out]; exact (HK5.out _ hb).2.2.2)
    refine this.mono ?_
    rintro ee w' ⟨rfl, h⟩
    exact ⟨by simp, hb.trans (h.mono hb.size)⟩)
  clear hp5 hb5 hbX5 hbx5 c0 c1
  go_wp2_with fail
  refine HSM.out.mono ?_
  rintro ee w6 ⟨rfl, hb6⟩
  have H6 := Lib.hid (show On X5 w6 from hb6)
  obtain ⟨c0, c1⟩ := HC.out w6 (On.step H5W.out hb6)
  have HSN := Lib.hid (show Calls Try.prog 24 #[.slice (some ⟨wb, 0, none⟩) 1 wk, .slice (some ⟨w6.heap.size, 0, none⟩) 1 1] (w6.alloc (.cells #[.int .u64 f, .slice a E c] 25)) (fun e w' => e = .returned (.bool true) ∧ Below w6.heap.size w6 w') from by
    have hb := Go.Joins.below_alloc1 w6 (.cells #[.int .u64 f, .slice a E c] 25)
    have h5 := HW5.out _ (On.step H6.out hb)
    have := sameF_any wb 0 wk w6.heap.size 0 1 f f wa a wc c row row (w6.alloc (.cells #[.int .u64 f, .slice a E c] 25)) (by rw [HE.out]; exact h5.1) (by rw [HE.out]; exact OneFrag.new _ _ _ _ _) (by rw [HE.out]; exact h5.2) (by rw [HE.out]; exact HRW.out _ (On.step H5W.out (On.step H6.out hb)))
    refine this.mono ?_
    rintro ee w' ⟨rfl, h⟩
    exact ⟨by simp, hb.trans (h.mono hb.size)⟩)
  clear hb6 q0a q1a hX5
  go_wp2_with fail
  refine HSN.out.mono ?_
  rintro ee w7 ⟨rfl, hb7⟩
  have H7 := Lib.hid (show On W w7 from On.step H5W.out (On.step H6.out hb7))
  clear hb7
  go_wp2_with fail
  refine (awake_any _).mono ?_
  rintro ee wf ⟨rfl, hb⟩
  have HBf := Lib.hid (HF.out _ (On.step H7.out hb))
  clear hb
  go_wp2
  go_ret
  exact ⟨rfl, HBf.out⟩
end Go.Proofs.Ytnfjhpdpeihheaa
