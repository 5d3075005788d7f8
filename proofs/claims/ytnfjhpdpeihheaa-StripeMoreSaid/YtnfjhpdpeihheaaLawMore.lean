/- StripeMore: what is enough is enough with more answers, too. -/
import Derived.Test.YtnfjhpdpeihheaaMore
import Derived.Test.YtnfjhpdpeihheaaLawCounts
import Derived.Deep.Cut
import Derived.Deep.RegionLaw
namespace Go.Proofs.Ytnfjhpdpeihheaa
open Go.RowKit Go.Maps Go.Shelf
theorem ps_kept {w w' : World} {z n c b : Nat} {l : List PL} (h : PsAt w (.slice (some ⟨z, 0, none⟩) n c) l) (hg : w.grownBy w' (some b)) (hn : z ≠ b) : PsAt w' (.slice (some ⟨z, 0, none⟩) n c) l := by
  obtain ⟨a, cap, hv, h1, h2, h3, h4⟩ := h
  refine ⟨a, cap, hv, h1, h2, h3, fun h0 => ?_⟩
  obtain ⟨b', off, ha, hb, hc⟩ := h4 h0
  cases hv
  cases ha
  have := hg.size
  exact ⟨_, _, rfl, by omega, fun j x hj => ⟨(hc j x hj).1, fun r hr => by rw [cell_grown hg hb hn]; exact (hc j x hj).2 r hr⟩⟩
/-- what the law hands to long -/
def MW (w : World) (f : Int) (u r1 r2 : Value) (y : PL) : World := (((w.alloc (.cells #[.int .u64 f, u] 25)).alloc (.cells #[.int .i64 y.n, .int .u64 y.s] 38)).alloc (.cells #[.int .u64 f, u] 25)).alloc (.cells #[r1, r2] 23)
theorem MW.size (w : World) (f : Int) (u r1 r2 : Value) (y : PL) : (MW w f u r1 r2 y).heap.size = w.heap.size + 4 := by unfold MW; simp only [World.size_alloc]
theorem MW.below (w : World) (f : Int) (u r1 r2 : Value) (y : PL) : Below w.heap.size w (MW w f u r1 r2 y) := by
  unfold MW
  exact ((((Below.refl _ w).alloc (Nat.le_refl _) _).alloc (by simp only [World.size_alloc]; omega) _).alloc (by simp only [World.size_alloc]; omega) _).alloc (by simp only [World.size_alloc]; omega) _
theorem MW.box (w : World) (f : Int) (u r1 r2 : Value) (y : PL) : Box25 (MW w f u r1 r2 y) w.heap.size f u ∧ (MW w f u r1 r2 y).heap[w.heap.size + 1]? = some (.cells #[.int .i64 y.n, .int .u64 y.s] 38 (0, 0)) := by
  unfold MW
  refine ⟨(((Box25.new w f u).alloc _).alloc _).alloc _, ?_⟩
  have h1 : ((w.alloc (.cells #[.int .u64 f, u] 25)).alloc (.cells #[.int .i64 y.n, .int .u64 y.s] 38)).heap[w.heap.size + 1]? = some (.cells #[.int .i64 y.n, .int .u64 y.s] 38 (0, 0)) := by
    have := heap_alloc_new (w.alloc (.cells #[.int .u64 f, u] 25)) (.cells #[.int .i64 y.n, .int .u64 y.s] 38)
    rw [World.size_alloc] at this
    exact this
  rw [heap_alloc_old (h := by have := lt_of_block h1; rw [World.size_alloc]; omega), heap_alloc_old (h := lt_of_block h1)]
  exact h1
theorem MW.long (w : World) (f n : Int) (a a1 a2 : Option Addr) (E c S c1 M c2 : Nat) (y : PL) :
    Calls Try.prog 10 #[.slice (some ⟨w.heap.size + 1 + 1, 0, none⟩) 1 1, .int .i64 n, .slice (some ⟨w.heap.size + 1 + 1 + 1, 0, none⟩) 2 2] (MW w f (.slice a E c) (.slice a1 S c1) (.slice a2 M c2) y) fun e w' => e = .returned (.bool (longB E n [S, M])) ∧ w' = MW w f (.slice a E c) (.slice a1 S c1) (.slice a2 M c2) y := by
  have h1 := OneFrag.new ((w.alloc (.cells #[.int .u64 f, .slice a E c] 25)).alloc (.cells #[.int .i64 y.n, .int .u64 y.s] 38)) f a E c
  rw [World.size_alloc, World.size_alloc] at h1
  have hs : w.heap.size + 1 + 1 + 1 = (((w.alloc (.cells #[.int .u64 f, .slice a E c] 25)).alloc (.cells #[.int .i64 y.n, .int .u64 y.s] 38)).alloc (.cells #[.int .u64 f, .slice a E c] 25)).heap.size := by simp only [World.size_alloc]
  refine long_any _ 0 1 f n a E c _ [S, M] _ (h1.below (Go.Joins.below_alloc1 _ (.cells #[.slice a1 S c1, .slice a2 M c2] 23))) ⟨_, 2, rfl, by simp, fun j L hj => ?_⟩
  match j with
  | 0 =>
    simp at hj
    subst hj
    refine ⟨_, 0, a1, c1, rfl, ?_⟩
    unfold MW
    rw [hs, World.cell?_alloc_new]; rfl
  | 1 =>
    simp at hj
    subst hj
    refine ⟨_, 0, a2, c2, rfl, ?_⟩
    unfold MW
    rw [hs, World.cell?_alloc_new]; rfl
  | (j + 2) => simp at hj
set_option maxRecDepth 100000 in
set_option maxHeartbeats 8000000 in
theorem more_any (f n x : Int) (a : Option Addr) (c : Nat) (v u : Value) (row l m : List PL) (y : PL) (w : World) (hp : PsAt w (.slice a row.length c) row) (hl : PsAt w v l) (hm : PsAt w u m) (hy : y.ok) :
    Calls Try.prog 9 #[.agg #[.int .u64 f, .slice a row.length c], v, .int .i64 n, .int .i64 x, u, y.val] w fun e w' => e = .returned (.bool true) ∧ Below w.heap.size w w' := by
  have HP := Lib.hid hp
  have HL := Lib.hid hl
  have HM := Lib.hid hm
  have HY := Lib.hid hy
  obtain ⟨va, vc, rfl, -, -, -⟩ := hl.form
  obtain ⟨ua, uc, rfl, -, -, -⟩ := hm.form
  clear hp hl hm hy
  obtain ⟨E, hE⟩ : ∃ E, row.length = E := ⟨_, rfl⟩
  obtain ⟨S, hS⟩ : ∃ S, l.length = S := ⟨_, rfl⟩
  obtain ⟨M, hM⟩ : ∃ M, m.length = M := ⟨_, rfl⟩
  rw [hE] at HP ⊢
  rw [hS] at HL ⊢
  rw [hM] at HM ⊢
  have HE := Lib.hid hE
  have HS := Lib.hid hS
  have HMM := Lib.hid hM
  clear hE hS hM
  have HLG := Lib.hid (MW.long w f n a va ua E c S vc M uc y)
  have HLB := Lib.hid (MW.below w f (.slice a E c) (.slice va S vc) (.slice ua M uc) y)
  have HBX := Lib.hid (MW.box w f (.slice a E c) (.slice va S vc) (.slice ua M uc) y)
  have HLS := Lib.hid (MW.size w f (.slice a E c) (.slice va S vc) (.slice ua M uc) y)
  obtain ⟨LB, hLB⟩ : ∃ LB, longB E n [S, M] = LB := ⟨_, rfl⟩
  rw [hLB] at HLG
  have hcase : LB = true ∨ (LB = false ∧ x < -1000) ∨ (LB = false ∧ ¬ x < -1000 ∧ 1000 < x) ∨ (LB = false ∧ ¬ x < -1000 ∧ ¬ 1000 < x ∧ n < -1000) ∨ (LB = false ∧ ¬ x < -1000 ∧ ¬ 1000 < x ∧ ¬ n < -1000) := by
    cases LB <;> simp <;> omega
  rcases hcase with rfl | ⟨rfl, h1⟩ | ⟨rfl, h1, h2⟩ | ⟨rfl, h1, h2, h3⟩ | ⟨rfl, h1, h2, h3⟩
  iterate 4
    · go_enter Try.func9, Try.ntmps9
      go_wp2_with fail
      change Calls _ _ _ (MW w f (.slice a E c) (.slice va S vc) (.slice ua M uc) y) _
      refine HLG.out.mono ?_
      rintro e w1 ⟨rfl, rfl⟩
      go_wp2_with fail
      refine (awake_any _).mono ?_
      rintro e w2 ⟨rfl, hb⟩
      have HB := Lib.hid (HLB.out.trans (hb.mono HLB.out.size))
      clear hb
      go_wp2
      go_ret
      exact ⟨rfl, HB.out⟩
  obtain ⟨b1, b2, b3, b4⟩ := longB_two hLB
  obtain ⟨W, hW⟩ : ∃ W, W = MW w f (.slice a E c) (.slice va S vc) (.slice ua M uc) y := ⟨_, rfl⟩
  rw [← hW] at HLB HBX
  have HC := Lib.hid (show ∀ W', On W W' → (W'.cell? ⟨w.heap.size, 0, none⟩ = some (.int .u64 f) ∧ W'.cell? ⟨w.heap.size, 1, none⟩ = some (.slice a E c)) ∧ W'.cell? ⟨w.heap.size + 1, 0, none⟩ = some (.int .i64 y.n) ∧ W'.cell? ⟨w.heap.size + 1, 1, none⟩ = some (.int .u64 y.s) from fun W' hb => by
    have h := HBX.out.1.below hb
    have h2 := (Below.block hb _ (lt_of_block HBX.out.2)).trans HBX.out.2
    exact ⟨⟨h.c0, h.c1⟩, by rw [Go.Joins.cell_of_block h2]; rfl, by rw [Go.Joins.cell_of_block h2]; rfl⟩)
  go_enter Try.func9, Try.ntmps9
  go_wp2_with fail
  change Calls _ _ _ (MW w f (.slice a E c) (.slice va S vc) (.slice ua M uc) y) _
  refine HLG.out.mono ?_
  rintro e w1 ⟨rfl, rfl⟩
  rw [← hW]
  clear hW HLG
  obtain ⟨⟨c0, c1⟩, y0, y1⟩ := HC.out W (Below.refl _ _)
  go_upto_region 3 with fail
  go_cut [13] from 34 (fun s wx => Hid (OwnPs W.heap.size wx s (m ++ [y]) ∧ On W wx))
  case first =>
    have HYA := Lib.hid (show ∀ W', On W W' → W'.cell? ⟨w.heap.size + 1, 0, none⟩ = some (.int .i64 y.n) ∧ W'.cell? ⟨w.heap.size + 1, 1, none⟩ = some (.int .u64 y.s) from fun W' hb => (HC.out W' hb).2)
    have z0a : ∀ o, (W.alloc o).cell? ⟨w.heap.size + 1, 0, none⟩ = some (.int .i64 y.n) := fun o => (HYA.out _ (Go.Joins.below_alloc1 W o)).1
    have z1a : ∀ o, (W.alloc o).cell? ⟨w.heap.size + 1, 1, none⟩ = some (.int .u64 y.s) := fun o => (HYA.out _ (Go.Joins.below_alloc1 W o)).2
    have z0b : ∀ o o', ((W.alloc o).alloc o').cell? ⟨w.heap.size + 1, 0, none⟩ = some (.int .i64 y.n) := fun o o' => (HYA.out _ (Go.Joins.below_alloc2 W o o')).1
    have z1b : ∀ o o', ((W.alloc o).alloc o').cell? ⟨w.heap.size + 1, 1, none⟩ = some (.int .u64 y.s) := fun o o' => (HYA.out _ (Go.Joins.below_alloc2 W o o')).2
    have HA : Hid (∀ o, On W (W.drew.alloc o)) := fun o => (Below.drew (Below.refl _ W)).alloc (Nat.le_refl _) o
    have HAA : Hid (∀ o o', On W ((W.drew.alloc o).alloc o')) := fun o o' => ((Below.drew (Below.refl _ W)).alloc (Nat.le_refl _) o).alloc (by rw [World.size_alloc]; exact Nat.le_succ _) o'
    have HFR := Lib.hid (show ∀ W', On W W' → PsAt W' (.slice ua M uc) m from fun W' hb => (HM.out.below HLB.out).below hb)
    have HM1 : Hid (OwnPs W.heap.size (W.drew.alloc (.cells #[] 38)) (.slice (some ⟨W.heap.size, 0, none⟩) 0 0) []) := OwnPs.made W.drew W.heap.size (Nat.le_refl _)
    have HM2 : Hid (∀ o, OwnPs W.heap.size ((W.drew.alloc (.cells #[] 38)).alloc o) (.slice (some ⟨W.heap.size, 0, none⟩) 0 0) []) := fun o => OwnPs.kept (OwnPs.made W.drew W.heap.size (Nat.le_refl _)) (Go.Joins.below_alloc1 _ o) (Nat.le_refl _)
    have HM3 : Hid (∀ o, OwnPs W.heap.size ((W.drew.alloc o).alloc (.cells #[] 38)) (.slice (some ⟨W.heap.size + 1, 0, none⟩) 0 0) []) := fun o => by
      have := OwnPs.made (W.drew.alloc o) W.heap.size (by rw [World.size_alloc]; exact Nat.le_succ _)
      rw [World.size_alloc] at this
      exact this
    have HY2 : Hid (PsAt ((W.drew.alloc (.cells #[] 38)).alloc (.cells #[.int .i64 y.n, .int .u64 y.s] 38)) (.slice (some ⟨W.heap.size + 1, 0, none⟩) 1 1) [y]) := by
      have := ps_one (W.drew.alloc (.cells #[] 38)) y HY.out
      rw [World.size_alloc] at this
      exact this
    have HY3 : Hid (PsAt ((W.drew.alloc (.cells #[.int .i64 y.n, .int .u64 y.s] 38)).alloc (.cells #[] 38)) (.slice (some ⟨W.heap.size, 0, none⟩) 1 1) [y]) := (ps_one W.drew y HY.out).below (Go.Joins.below_alloc1 _ _)
    have HSM : Hid (([] : List PL).length + m.length ≤ 1000000 ∧ ([] ++ m).length + [y].length ≤ 1000000) := by
      unfold Hid; rw [List.nil_append, HMM.out]; simp only [List.length_nil, List.length_cons]; omega
    have HSZ : Hid (∀ o o', W.heap.size ≤ (W.drew.alloc o).heap.size ∧ W.heap.size ≤ ((W.drew.alloc o).alloc o').heap.size) := fun o o' => ⟨Below.size (HA.out o), Below.size (HAA.out o o')⟩
    go_region_law (first
      | (refine step_append_ps rfl (.tmp 34) (.tmp 35) rfl W.heap.size _ (.slice ua M uc) [] m HM1.out (HFR.out _ (HA.out _)) (by simp [Act.eval]) (by simp [Act.eval]) HSM.out.1 (Below.size (HA.out _)) ?_; intro v3 w3 ho3 hg3; have b3 := (HA.out _).grown hg3 (Below.size (HA.out _)) (fun j hj => HM1.out.own j hj); have HB3 := Lib.hid (show On W w3 from b3); have HO3 := Lib.hid ho3; obtain ⟨e0, e1⟩ := HYA.out w3 b3; clear ho3 hg3 b3)
      | (refine step_append_ps rfl (.tmp 34) (.tmp 35) rfl W.heap.size _ (.slice ua M uc) [] m (HM2.out _) (HFR.out _ (HAA.out _ _)) (by simp [Act.eval]) (by simp [Act.eval]) HSM.out.1 (Below.size (HAA.out _ _)) ?_; intro v3 w3 ho3 hg3; have HN3 := Lib.hid (ps_kept HY2.out hg3 (Nat.succ_ne_self _)); have b3 := (HAA.out _ _).grown hg3 (Below.size (HAA.out _ _)) (fun j hj => HM1.out.own j hj); have HB3 := Lib.hid (show On W w3 from b3); have HO3 := Lib.hid ho3; clear ho3 hg3 b3)
      | (refine step_append_ps rfl (.tmp 34) (.tmp 35) rfl W.heap.size _ (.slice ua M uc) [] m (HM3.out _) (HFR.out _ (HAA.out _ _)) (by simp [Act.eval]) (by simp [Act.eval]) HSM.out.1 (Below.size (HAA.out _ _)) ?_; intro v3 w3 ho3 hg3; have HN3 := Lib.hid (ps_kept HY3.out hg3 (Nat.ne_of_lt (Nat.lt_succ_self _))); have b3 := (HAA.out _ _).grown hg3 (Below.size (HAA.out _ _)) (fun j hj => OwnPs.own (HM3.out (.cells #[] 38)) j hj); have HB3 := Lib.hid (show On W w3 from b3); have HO3 := Lib.hid ho3; clear ho3 hg3 b3)
      | (refine step_append_ps rfl (.tmp 36) (.tmp 38) rfl W.heap.size v3 _ ([] ++ m) [y] (OwnPs.kept HO3.out (Go.Joins.below_alloc1 w3 _) (Nat.le_refl _)) (ps_one w3 y HY.out) (by simp [Act.eval]) (by simp [Act.eval]) HSM.out.2 (Below.size (On.step HB3.out (Go.Joins.below_alloc1 w3 _))) ?_; intro v5 w5 ho5 hg5; have b5 := Below.grown (On.step HB3.out (Go.Joins.below_alloc1 w3 _)) hg5 (Below.size (On.step HB3.out (Go.Joins.below_alloc1 w3 _))) (fun j hj => OwnPs.own HO3.out j hj); have HX := Lib.hid (show OwnPs W.heap.size w5 v5 (m ++ [y]) ∧ On W w5 from ⟨ho5, b5⟩); clear ho5 hg5 b5)
      | (refine step_append_ps rfl (.tmp 36) (.tmp 38) rfl W.heap.size v3 _ ([] ++ m) [y] HO3.out HN3.out (by simp [Act.eval]) (by simp [Act.eval]) HSM.out.2 (Below.size HB3.out) ?_; intro v5 w5 ho5 hg5; have b5 := Below.grown HB3.out hg5 (Below.size HB3.out) (fun j hj => OwnPs.own HO3.out j hj); have HX := Lib.hid (show OwnPs W.heap.size w5 v5 (m ++ [y]) ∧ On W w5 from ⟨ho5, b5⟩); clear ho5 hg5 b5))
    all_goals go_wp2_with fail
    all_goals go_meet
    all_goals exact HX.out
  case rest =>
    have HU := Lib.hid hcut.out
    clear hcut
    have HWC := Lib.hid (show Below w.heap.size w wc from HLB.out.trans (Below.mono HU.out.2 HLB.out.size))
    have HCW := Lib.hid (show ∀ W', On wc W' → W'.cell? ⟨w.heap.size, 0, none⟩ = some (.int .u64 f) ∧ W'.cell? ⟨w.heap.size, 1, none⟩ = some (.slice a E c) from fun W' hb => (HC.out W' (On.step HU.out.2 hb)).1)
    have HOK2 := Lib.hid (show ∀ q ∈ m ++ [y], q.ok from fun q hq => by
      rcases List.mem_append.1 hq with h | h
      · exact HM.out.ok q h
      · rw [List.mem_singleton] at h; rw [h]; exact HY.out)
    have HUA := Lib.hid (show PsAt wc u13 (m ++ [y]) from OwnPs.at HU.out.1 HOK2.out)
    have e1 : l.length ≤ 100000 := by rw [HS.out]; omega
    have e2 : m.length ≤ 100000 := by rw [HMM.out]; omega
    have e3 : row.length ≤ 100000 := by rw [HE.out]; omega
    have e4 : (m ++ [y]).length ≤ 100000 := by rw [List.length_append, HMM.out]; simp only [List.length_cons, List.length_nil]; omega
    have HF := Lib.hid (show ∀ W', On wc W' → Below w.heap.size w W' from fun W' hb => HWC.out.trans (Below.mono hb HWC.out.size))
    have A1 := Lib.hid (fun W' (hb : On wc W') => acked_any _ _ l m x W' (HL.out.below (HF.out W' hb)) (HM.out.below (HF.out W' hb)) e1 e2)
    have A2 := Lib.hid (fun W' (hb : On wc W') => acked_any _ u13 l (m ++ [y]) x W' (HL.out.below (HF.out W' hb)) (HUA.out.below hb) e1 e4)
    have M1 := Lib.hid (fun W' (hb : On wc W') => missing_any _ _ l m n x W' (HL.out.below (HF.out W' hb)) (HM.out.below (HF.out W' hb)) e1 e2 (by omega) (by omega))
    have M2 := Lib.hid (fun W' (hb : On wc W') => missing_any _ u13 l (m ++ [y]) n x W' (HL.out.below (HF.out W' hb)) (HUA.out.below hb) e1 e4 (by omega) (by omega))
    have V1 := Lib.hid (fun W' (hb : On wc W') => covered_any f n x a c (.slice ua M uc) row m W' (by rw [HE.out]; exact HP.out.below (HF.out W' hb)) (HM.out.below (HF.out W' hb)) e3 e2 (by omega) (by omega))
    have V2 := Lib.hid (fun W' (hb : On wc W') => covered_any f n x a c u13 row (m ++ [y]) W' (by rw [HE.out]; exact HP.out.below (HF.out W' hb)) (HUA.out.below hb) e3 e4 (by omega) (by omega))
    have V3 := Lib.hid (fun W' (hb : On wc W') => covered_any f n x a c (.slice a E c) row row W' (by rw [HE.out]; exact HP.out.below (HF.out W' hb)) (HP.out.below (HF.out W' hb)) e3 e3 (by omega) (by omega))
    have MF := Lib.hid (fun W' (hb : On wc W') => mayf_any W'.heap.size 0 1 n a c row (W'.alloc (.cells #[.int .u64 1, .slice a E c] 25)) (by rw [HE.out]; exact OneFrag.new _ _ _ _ _) (by rw [HE.out]; exact (HP.out.below (HF.out W' hb)).below (Go.Joins.below_alloc1 _ _)))
    have HCA := Lib.hid (fun (h : MayRow row) (h1 : 1 ≤ n) (h2 : n ≤ (row.length : Int)) (h3 : 1 ≤ x) => cov_all h ⟨h1, h2⟩ h3)
    rw [HE.out] at V1 V2 V3 MF
    have I1 := @acked_mono _ _ (more_mem m y) l x
    have I2 := @miss_mono _ _ (more_mem m y) l n x
    have I3 := @cov_mono _ _ (more_mem m y) row n x
    generalize ackedB m.contains l x = R1 at A1 I1
    generalize ackedB (m ++ [y]).contains l x = R1' at A2 I1
    generalize missB m.contains l n x = R2 at M1 I2
    generalize missB (m ++ [y]).contains l n x = R2' at M2 I2
    generalize covB m.contains row n x = R3 at V1 I3
    generalize covB (m ++ [y]).contains row n x = R3' at V2 I3
    obtain ⟨R4, hR4⟩ : ∃ R4, covB row.contains row n x = R4 := ⟨_, rfl⟩
    rw [hR4] at V3 HCA
    have H0 := Lib.hid (show On wc wc from Below.refl _ _)
    obtain ⟨c0, c1⟩ := HCW.out wc H0.out
    clear e1 e2 e3 e4 b1 b2 b3 b4 hR4 y0 y1
    cases R1
    · go_wp2_with fail
      refine (A1.out _ H0.out).mono ?_
      rintro e p1 ⟨rfl, hb⟩
      have H1 := Lib.hid (On.step H0.out hb)
      obtain ⟨c0, c1⟩ := HCW.out p1 H1.out
      clear hb
      cases R2
      · go_wp2_with fail
        refine (M1.out _ H1.out).mono ?_
        rintro e p2 ⟨rfl, hb⟩
        have H2 := Lib.hid (On.step H1.out hb)
        obtain ⟨c0, c1⟩ := HCW.out p2 H2.out
        clear hb
        cases R3
        · go_wp2_with fail
          refine (V1.out _ H2.out).mono ?_
          rintro e p3 ⟨rfl, hb⟩
          have H3 := Lib.hid (On.step H2.out hb)
          obtain ⟨c0, c1⟩ := HCW.out p3 H3.out
          clear hb
          go_wp2_with fail
          refine (MF.out _ H3.out).mono ?_
          rintro e p4 ⟨R, rfl, hiff, hb⟩
          have H4 := Lib.hid (On.step (On.step H3.out (Go.Joins.below_alloc1 _ _)) hb)
          obtain ⟨c0, c1⟩ := HCW.out p4 H4.out
          clear hb
          have hcs : R = false ∨ (R = true ∧ n < 1) ∨ (R = true ∧ ¬ n < 1 ∧ x < 1) ∨ (R = true ∧ ¬ n < 1 ∧ ¬ x < 1 ∧ n < x) ∨ (R = true ∧ R4 = true ∧ 1 ≤ n ∧ 1 ≤ x ∧ x ≤ n) := by
            cases R
            · exact .inl rfl
            · by_cases g1 : n < 1
              · exact .inr (.inl ⟨rfl, g1⟩)
              · by_cases g2 : x < 1
                · exact .inr (.inr (.inl ⟨rfl, g1, g2⟩))
                · by_cases g3 : n < x
                  · exact .inr (.inr (.inr (.inl ⟨rfl, g1, g2, g3⟩)))
                  · obtain ⟨k1, -, k2⟩ := hiff.1 rfl
                    have := HE.out
                    exact .inr (.inr (.inr (.inr ⟨rfl, HCA.out k2 (by omega) (by omega) (by omega), by omega, by omega, by omega⟩)))
          clear hiff
          rcases hcs with rfl | ⟨rfl, g1⟩ | ⟨rfl, g1, g2⟩ | ⟨rfl, g1, g2, g3⟩ | ⟨rfl, hr4, g1, g2, g3⟩
          iterate 4
            · go_wp2_with fail
              refine (awake_any _).mono ?_
              rintro e wf ⟨rfl, hb⟩
              have HB := Lib.hid (HF.out _ (On.step H4.out hb))
              clear hb
              go_wp2
              go_ret
              exact ⟨rfl, HB.out⟩
          rw [hr4] at V3
          clear hr4
          go_wp2_with fail
          refine (V3.out _ H4.out).mono ?_
          rintro e wv ⟨rfl, hb⟩
          have HV := Lib.hid (On.step H4.out hb)
          clear hb
          go_wp2_with fail
          refine (awake_any _).mono ?_
          rintro e wf ⟨rfl, hb⟩
          have HB := Lib.hid (HF.out _ (On.step HV.out hb))
          clear hb
          go_wp2
          go_ret
          exact ⟨rfl, HB.out⟩
        · obtain rfl : R3' = true := I3 rfl
          go_wp2_with fail
          refine (V1.out _ H2.out).mono ?_
          rintro e p5 ⟨rfl, hb⟩
          have H5 := Lib.hid (On.step H2.out hb)
          obtain ⟨c0, c1⟩ := HCW.out p5 H5.out
          clear hb
          go_wp2_with fail
          refine (V2.out _ H5.out).mono ?_
          rintro e p6 ⟨rfl, hb⟩
          have H6 := Lib.hid (On.step H5.out hb)
          obtain ⟨c0, c1⟩ := HCW.out p6 H6.out
          clear hb
          go_wp2_with fail
          refine (MF.out _ H6.out).mono ?_
          rintro e p7 ⟨R, rfl, hiff, hb⟩
          have H7 := Lib.hid (On.step (On.step H6.out (Go.Joins.below_alloc1 _ _)) hb)
          obtain ⟨c0, c1⟩ := HCW.out p7 H7.out
          clear hb
          have hcs : R = false ∨ (R = true ∧ n < 1) ∨ (R = true ∧ ¬ n < 1 ∧ x < 1) ∨ (R = true ∧ ¬ n < 1 ∧ ¬ x < 1 ∧ n < x) ∨ (R = true ∧ R4 = true ∧ 1 ≤ n ∧ 1 ≤ x ∧ x ≤ n) := by
            cases R
            · exact .inl rfl
            · by_cases g1 : n < 1
              · exact .inr (.inl ⟨rfl, g1⟩)
              · by_cases g2 : x < 1
                · exact .inr (.inr (.inl ⟨rfl, g1, g2⟩))
                · by_cases g3 : n < x
                  · exact .inr (.inr (.inr (.inl ⟨rfl, g1, g2, g3⟩)))
                  · obtain ⟨k1, -, k2⟩ := hiff.1 rfl
                    have := HE.out
                    exact .inr (.inr (.inr (.inr ⟨rfl, HCA.out k2 (by omega) (by omega) (by omega), by omega, by omega, by omega⟩)))
          clear hiff
          rcases hcs with rfl | ⟨rfl, g1⟩ | ⟨rfl, g1, g2⟩ | ⟨rfl, g1, g2, g3⟩ | ⟨rfl, hr4, g1, g2, g3⟩
          iterate 4
            · go_wp2_with fail
              refine (awake_any _).mono ?_
              rintro e wf ⟨rfl, hb⟩
              have HB := Lib.hid (HF.out _ (On.step H7.out hb))
              clear hb
              go_wp2
              go_ret
              exact ⟨rfl, HB.out⟩
          rw [hr4] at V3
          clear hr4
          go_wp2_with fail
          refine (V3.out _ H7.out).mono ?_
          rintro e wv ⟨rfl, hb⟩
          have HV := Lib.hid (On.step H7.out hb)
          clear hb
          go_wp2_with fail
          refine (awake_any _).mono ?_
          rintro e wf ⟨rfl, hb⟩
          have HB := Lib.hid (HF.out _ (On.step HV.out hb))
          clear hb
          go_wp2
          go_ret
          exact ⟨rfl, HB.out⟩
      · obtain rfl : R2' = true := I2 rfl
        go_wp2_with fail
        refine (M1.out _ H1.out).mono ?_
        rintro e p8 ⟨rfl, hb⟩
        have H8 := Lib.hid (On.step H1.out hb)
        obtain ⟨c0, c1⟩ := HCW.out p8 H8.out
        clear hb
        go_wp2_with fail
        refine (M2.out _ H8.out).mono ?_
        rintro e p9 ⟨rfl, hb⟩
        have H9 := Lib.hid (On.step H8.out hb)
        obtain ⟨c0, c1⟩ := HCW.out p9 H9.out
        clear hb
        cases R3
        · go_wp2_with fail
          refine (V1.out _ H9.out).mono ?_
          rintro e p10 ⟨rfl, hb⟩
          have H10 := Lib.hid (On.step H9.out hb)
          obtain ⟨c0, c1⟩ := HCW.out p10 H10.out
          clear hb
          go_wp2_with fail
          refine (MF.out _ H10.out).mono ?_
          rintro e p11 ⟨R, rfl, hiff, hb⟩
          have H11 := Lib.hid (On.step (On.step H10.out (Go.Joins.below_alloc1 _ _)) hb)
          obtain ⟨c0, c1⟩ := HCW.out p11 H11.out
          clear hb
          have hcs : R = false ∨ (R = true ∧ n < 1) ∨ (R = true ∧ ¬ n < 1 ∧ x < 1) ∨ (R = true ∧ ¬ n < 1 ∧ ¬ x < 1 ∧ n < x) ∨ (R = true ∧ R4 = true ∧ 1 ≤ n ∧ 1 ≤ x ∧ x ≤ n) := by
            cases R
            · exact .inl rfl
            · by_cases g1 : n < 1
              · exact .inr (.inl ⟨rfl, g1⟩)
              · by_cases g2 : x < 1
                · exact .inr (.inr (.inl ⟨rfl, g1, g2⟩))
                · by_cases g3 : n < x
                  · exact .inr (.inr (.inr (.inl ⟨rfl, g1, g2, g3⟩)))
                  · obtain ⟨k1, -, k2⟩ := hiff.1 rfl
                    have := HE.out
                    exact .inr (.inr (.inr (.inr ⟨rfl, HCA.out k2 (by omega) (by omega) (by omega), by omega, by omega, by omega⟩)))
          clear hiff
          rcases hcs with rfl | ⟨rfl, g1⟩ | ⟨rfl, g1, g2⟩ | ⟨rfl, g1, g2, g3⟩ | ⟨rfl, hr4, g1, g2, g3⟩
          iterate 4
            · go_wp2_with fail
              refine (awake_any _).mono ?_
              rintro e wf ⟨rfl, hb⟩
              have HB := Lib.hid (HF.out _ (On.step H11.out hb))
              clear hb
              go_wp2
              go_ret
              exact ⟨rfl, HB.out⟩
          rw [hr4] at V3
          clear hr4
          go_wp2_with fail
          refine (V3.out _ H11.out).mono ?_
          rintro e wv ⟨rfl, hb⟩
          have HV := Lib.hid (On.step H11.out hb)
          clear hb
          go_wp2_with fail
          refine (awake_any _).mono ?_
          rintro e wf ⟨rfl, hb⟩
          have HB := Lib.hid (HF.out _ (On.step HV.out hb))
          clear hb
          go_wp2
          go_ret
          exact ⟨rfl, HB.out⟩
        · obtain rfl : R3' = true := I3 rfl
          go_wp2_with fail
          refine (V1.out _ H9.out).mono ?_
          rintro e p12 ⟨rfl, hb⟩
          have H12 := Lib.hid (On.step H9.out hb)
          obtain ⟨c0, c1⟩ := HCW.out p12 H12.out
          clear hb
          go_wp2_with fail
          refine (V2.out _ H12.out).mono ?_
          rintro e p13 ⟨rfl, hb⟩
          have H13 := Lib.hid (On.step H12.out hb)
          obtain ⟨c0, c1⟩ := HCW.out p13 H13.out
          clear hb
          go_wp2_with fail
          refine (MF.out _ H13.out).mono ?_
          rintro e p14 ⟨R, rfl, hiff, hb⟩
          have H14 := Lib.hid (On.step (On.step H13.out (Go.Joins.below_alloc1 _ _)) hb)
          obtain ⟨c0, c1⟩ := HCW.out p14 H14.out
          clear hb
          have hcs : R = false ∨ (R = true ∧ n < 1) ∨ (R = true ∧ ¬ n < 1 ∧ x < 1) ∨ (R = true ∧ ¬ n < 1 ∧ ¬ x < 1 ∧ n < x) ∨ (R = true ∧ R4 = true ∧ 1 ≤ n ∧ 1 ≤ x ∧ x ≤ n) := by
            cases R
            · exact .inl rfl
            · by_cases g1 : n < 1
              · exact .inr (.inl ⟨rfl, g1⟩)
              · by_cases g2 : x < 1
                · exact .inr (.inr (.inl ⟨rfl, g1, g2⟩))
                · by_cases g3 : n < x
                  · exact .inr (.inr (.inr (.inl ⟨rfl, g1, g2, g3⟩)))
                  · obtain ⟨k1, -, k2⟩ := hiff.1 rfl
                    have := HE.out
                    exact .inr (.inr (.inr (.inr ⟨rfl, HCA.out k2 (by omega) (by omega) (by omega), by omega, by omega, by omega⟩)))
          clear hiff
          rcases hcs with rfl | ⟨rfl, g1⟩ | ⟨rfl, g1, g2⟩ | ⟨rfl, g1, g2, g3⟩ | ⟨rfl, hr4, g1, g2, g3⟩
          iterate 4
            · go_wp2_with fail
              refine (awake_any _).mono ?_
              rintro e wf ⟨rfl, hb⟩
              have HB := Lib.hid (HF.out _ (On.step H14.out hb))
              clear hb
              go_wp2
              go_ret
              exact ⟨rfl, HB.out⟩
          rw [hr4] at V3
          clear hr4
          go_wp2_with fail
          refine (V3.out _ H14.out).mono ?_
          rintro e wv ⟨rfl, hb⟩
          have HV := Lib.hid (On.step H14.out hb)
          clear hb
          go_wp2_with fail
          refine (awake_any _).mono ?_
          rintro e wf ⟨rfl, hb⟩
          have HB := Lib.hid (HF.out _ (On.step HV.out hb))
          clear hb
          go_wp2
          go_ret
          exact ⟨rfl, HB.out⟩
    · obtain rfl : R1' = true := I1 rfl
      go_wp2_with fail
      refine (A1.out _ H0.out).mono ?_
      rintro e p15 ⟨rfl, hb⟩
      have H15 := Lib.hid (On.step H0.out hb)
      obtain ⟨c0, c1⟩ := HCW.out p15 H15.out
      clear hb
      go_wp2_with fail
      refine (A2.out _ H15.out).mono ?_
      rintro e p16 ⟨rfl, hb⟩
      have H16 := Lib.hid (On.step H15.out hb)
      obtain ⟨c0, c1⟩ := HCW.out p16 H16.out
      clear hb
      cases R2
      · go_wp2_with fail
        refine (M1.out _ H16.out).mono ?_
        rintro e p17 ⟨rfl, hb⟩
        have H17 := Lib.hid (On.step H16.out hb)
        obtain ⟨c0, c1⟩ := HCW.out p17 H17.out
        clear hb
        cases R3
        · go_wp2_with fail
          refine (V1.out _ H17.out).mono ?_
          rintro e p18 ⟨rfl, hb⟩
          have H18 := Lib.hid (On.step H17.out hb)
          obtain ⟨c0, c1⟩ := HCW.out p18 H18.out
          clear hb
          go_wp2_with fail
          refine (MF.out _ H18.out).mono ?_
          rintro e p19 ⟨R, rfl, hiff, hb⟩
          have H19 := Lib.hid (On.step (On.step H18.out (Go.Joins.below_alloc1 _ _)) hb)
          obtain ⟨c0, c1⟩ := HCW.out p19 H19.out
          clear hb
          have hcs : R = false ∨ (R = true ∧ n < 1) ∨ (R = true ∧ ¬ n < 1 ∧ x < 1) ∨ (R = true ∧ ¬ n < 1 ∧ ¬ x < 1 ∧ n < x) ∨ (R = true ∧ R4 = true ∧ 1 ≤ n ∧ 1 ≤ x ∧ x ≤ n) := by
            cases R
            · exact .inl rfl
            · by_cases g1 : n < 1
              · exact .inr (.inl ⟨rfl, g1⟩)
              · by_cases g2 : x < 1
                · exact .inr (.inr (.inl ⟨rfl, g1, g2⟩))
                · by_cases g3 : n < x
                  · exact .inr (.inr (.inr (.inl ⟨rfl, g1, g2, g3⟩)))
                  · obtain ⟨k1, -, k2⟩ := hiff.1 rfl
                    have := HE.out
                    exact .inr (.inr (.inr (.inr ⟨rfl, HCA.out k2 (by omega) (by omega) (by omega), by omega, by omega, by omega⟩)))
          clear hiff
          rcases hcs with rfl | ⟨rfl, g1⟩ | ⟨rfl, g1, g2⟩ | ⟨rfl, g1, g2, g3⟩ | ⟨rfl, hr4, g1, g2, g3⟩
          iterate 4
            · go_wp2_with fail
              refine (awake_any _).mono ?_
              rintro e wf ⟨rfl, hb⟩
              have HB := Lib.hid (HF.out _ (On.step H19.out hb))
              clear hb
              go_wp2
              go_ret
              exact ⟨rfl, HB.out⟩
          rw [hr4] at V3
          clear hr4
          go_wp2_with fail
          refine (V3.out _ H19.out).mono ?_
          rintro e wv ⟨rfl, hb⟩
          have HV := Lib.hid (On.step H19.out hb)
          clear hb
          go_wp2_with fail
          refine (awake_any _).mono ?_
          rintro e wf ⟨rfl, hb⟩
          have HB := Lib.hid (HF.out _ (On.step HV.out hb))
          clear hb
          go_wp2
          go_ret
          exact ⟨rfl, HB.out⟩
        · obtain rfl : R3' = true := I3 rfl
          go_wp2_with fail
          refine (V1.out _ H17.out).mono ?_
          rintro e p20 ⟨rfl, hb⟩
          have H20 := Lib.hid (On.step H17.out hb)
          obtain ⟨c0, c1⟩ := HCW.out p20 H20.out
          clear hb
          go_wp2_with fail
          refine (V2.out _ H20.out).mono ?_
          rintro e p21 ⟨rfl, hb⟩
          have H21 := Lib.hid (On.step H20.out hb)
          obtain ⟨c0, c1⟩ := HCW.out p21 H21.out
          clear hb
          go_wp2_with fail
          refine (MF.out _ H21.out).mono ?_
          rintro e p22 ⟨R, rfl, hiff, hb⟩
          have H22 := Lib.hid (On.step (On.step H21.out (Go.Joins.below_alloc1 _ _)) hb)
          obtain ⟨c0, c1⟩ := HCW.out p22 H22.out
          clear hb
          have hcs : R = false ∨ (R = true ∧ n < 1) ∨ (R = true ∧ ¬ n < 1 ∧ x < 1) ∨ (R = true ∧ ¬ n < 1 ∧ ¬ x < 1 ∧ n < x) ∨ (R = true ∧ R4 = true ∧ 1 ≤ n ∧ 1 ≤ x ∧ x ≤ n) := by
            cases R
            · exact .inl rfl
            · by_cases g1 : n < 1
              · exact .inr (.inl ⟨rfl, g1⟩)
              · by_cases g2 : x < 1
                · exact .inr (.inr (.inl ⟨rfl, g1, g2⟩))
                · by_cases g3 : n < x
                  · exact .inr (.inr (.inr (.inl ⟨rfl, g1, g2, g3⟩)))
                  · obtain ⟨k1, -, k2⟩ := hiff.1 rfl
                    have := HE.out
                    exact .inr (.inr (.inr (.inr ⟨rfl, HCA.out k2 (by omega) (by omega) (by omega), by omega, by omega, by omega⟩)))
          clear hiff
          rcases hcs with rfl | ⟨rfl, g1⟩ | ⟨rfl, g1, g2⟩ | ⟨rfl, g1, g2, g3⟩ | ⟨rfl, hr4, g1, g2, g3⟩
          iterate 4
            · go_wp2_with fail
              refine (awake_any _).mono ?_
              rintro e wf ⟨rfl, hb⟩
              have HB := Lib.hid (HF.out _ (On.step H22.out hb))
              clear hb
              go_wp2
              go_ret
              exact ⟨rfl, HB.out⟩
          rw [hr4] at V3
          clear hr4
          go_wp2_with fail
          refine (V3.out _ H22.out).mono ?_
          rintro e wv ⟨rfl, hb⟩
          have HV := Lib.hid (On.step H22.out hb)
          clear hb
          go_wp2_with fail
          refine (awake_any _).mono ?_
          rintro e wf ⟨rfl, hb⟩
          have HB := Lib.hid (HF.out _ (On.step HV.out hb))
          clear hb
          go_wp2
          go_ret
          exact ⟨rfl, HB.out⟩
      · obtain rfl : R2' = true := I2 rfl
        go_wp2_with fail
        refine (M1.out _ H16.out).mono ?_
        rintro e p23 ⟨rfl, hb⟩
        have H23 := Lib.hid (On.step H16.out hb)
        obtain ⟨c0, c1⟩ := HCW.out p23 H23.out
        clear hb
        go_wp2_with fail
        refine (M2.out _ H23.out).mono ?_
        rintro e p24 ⟨rfl, hb⟩
        have H24 := Lib.hid (On.step H23.out hb)
        obtain ⟨c0, c1⟩ := HCW.out p24 H24.out
        clear hb
        cases R3
        · go_wp2_with fail
          refine (V1.out _ H24.out).mono ?_
          rintro e p25 ⟨rfl, hb⟩
          have H25 := Lib.hid (On.step H24.out hb)
          obtain ⟨c0, c1⟩ := HCW.out p25 H25.out
          clear hb
          go_wp2_with fail
          refine (MF.out _ H25.out).mono ?_
          rintro e p26 ⟨R, rfl, hiff, hb⟩
          have H26 := Lib.hid (On.step (On.step H25.out (Go.Joins.below_alloc1 _ _)) hb)
          obtain ⟨c0, c1⟩ := HCW.out p26 H26.out
          clear hb
          have hcs : R = false ∨ (R = true ∧ n < 1) ∨ (R = true ∧ ¬ n < 1 ∧ x < 1) ∨ (R = true ∧ ¬ n < 1 ∧ ¬ x < 1 ∧ n < x) ∨ (R = true ∧ R4 = true ∧ 1 ≤ n ∧ 1 ≤ x ∧ x ≤ n) := by
            cases R
            · exact .inl rfl
            · by_cases g1 : n < 1
              · exact .inr (.inl ⟨rfl, g1⟩)
              · by_cases g2 : x < 1
                · exact .inr (.inr (.inl ⟨rfl, g1, g2⟩))
                · by_cases g3 : n < x
                  · exact .inr (.inr (.inr (.inl ⟨rfl, g1, g2, g3⟩)))
                  · obtain ⟨k1, -, k2⟩ := hiff.1 rfl
                    have := HE.out
                    exact .inr (.inr (.inr (.inr ⟨rfl, HCA.out k2 (by omega) (by omega) (by omega), by omega, by omega, by omega⟩)))
          clear hiff
          rcases hcs with rfl | ⟨rfl, g1⟩ | ⟨rfl, g1, g2⟩ | ⟨rfl, g1, g2, g3⟩ | ⟨rfl, hr4, g1, g2, g3⟩
          iterate 4
            · go_wp2_with fail
              refine (awake_any _).mono ?_
              rintro e wf ⟨rfl, hb⟩
              have HB := Lib.hid (HF.out _ (On.step H26.out hb))
              clear hb
              go_wp2
              go_ret
              exact ⟨rfl, HB.out⟩
          rw [hr4] at V3
          clear hr4
          go_wp2_with fail
          refine (V3.out _ H26.out).mono ?_
          rintro e wv ⟨rfl, hb⟩
          have HV := Lib.hid (On.step H26.out hb)
          clear hb
          go_wp2_with fail
          refine (awake_any _).mono ?_
          rintro e wf ⟨rfl, hb⟩
          have HB := Lib.hid (HF.out _ (On.step HV.out hb))
          clear hb
          go_wp2
          go_ret
          exact ⟨rfl, HB.out⟩
        · obtain rfl : R3' = true := I3 rfl
          go_wp2_with fail
          refine (V1.out _ H24.out).mono ?_
          rintro e p27 ⟨rfl, hb⟩
          have H27 := Lib.hid (On.step H24.out hb)
          obtain ⟨c0, c1⟩ := HCW.out p27 H27.out
          clear hb
          go_wp2_with fail
          refine (V2.out _ H27.out).mono ?_
          rintro e p28 ⟨rfl, hb⟩
          have H28 := Lib.hid (On.step H27.out hb)
          obtain ⟨c0, c1⟩ := HCW.out p28 H28.out
          clear hb
          go_wp2_with fail
          refine (MF.out _ H28.out).mono ?_
          rintro e p29 ⟨R, rfl, hiff, hb⟩
          have H29 := Lib.hid (On.step (On.step H28.out (Go.Joins.below_alloc1 _ _)) hb)
          obtain ⟨c0, c1⟩ := HCW.out p29 H29.out
          clear hb
          have hcs : R = false ∨ (R = true ∧ n < 1) ∨ (R = true ∧ ¬ n < 1 ∧ x < 1) ∨ (R = true ∧ ¬ n < 1 ∧ ¬ x < 1 ∧ n < x) ∨ (R = true ∧ R4 = true ∧ 1 ≤ n ∧ 1 ≤ x ∧ x ≤ n) := by
            cases R
            · exact .inl rfl
            · by_cases g1 : n < 1
              · exact .inr (.inl ⟨rfl, g1⟩)
              · by_cases g2 : x < 1
                · exact .inr (.inr (.inl ⟨rfl, g1, g2⟩))
                · by_cases g3 : n < x
                  · exact .inr (.inr (.inr (.inl ⟨rfl, g1, g2, g3⟩)))
                  · obtain ⟨k1, -, k2⟩ := hiff.1 rfl
                    have := HE.out
                    exact .inr (.inr (.inr (.inr ⟨rfl, HCA.out k2 (by omega) (by omega) (by omega), by omega, by omega, by omega⟩)))
          clear hiff
          rcases hcs with rfl | ⟨rfl, g1⟩ | ⟨rfl, g1, g2⟩ | ⟨rfl, g1, g2, g3⟩ | ⟨rfl, hr4, g1, g2, g3⟩
          iterate 4
            · go_wp2_with fail
              refine (awake_any _).mono ?_
              rintro e wf ⟨rfl, hb⟩
              have HB := Lib.hid (HF.out _ (On.step H29.out hb))
              clear hb
              go_wp2
              go_ret
              exact ⟨rfl, HB.out⟩
          rw [hr4] at V3
          clear hr4
          go_wp2_with fail
          refine (V3.out _ H29.out).mono ?_
          rintro e wv ⟨rfl, hb⟩
          have HV := Lib.hid (On.step H29.out hb)
          clear hb
          go_wp2_with fail
          refine (awake_any _).mono ?_
          rintro e wf ⟨rfl, hb⟩
          have HB := Lib.hid (HF.out _ (On.step HV.out hb))
          clear hb
          go_wp2
          go_ret
          exact ⟨rfl, HB.out⟩
end Go.Proofs.Ytnfjhpdpeihheaa
