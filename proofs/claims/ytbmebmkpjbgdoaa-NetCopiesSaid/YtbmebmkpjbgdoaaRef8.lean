/- The document's net: Cut. -/
import Derived.Test.YtbmebmkpjbgdoaaRef7
namespace Go.Proofs.Ytbmebmkpjbgdoaa
open Go.RowKit
theorem pnews_block {w3 : World} {z : Nat} {x y : Int} (h : w3.heap[z]? = some (.cells #[.int .i64 x, .int .i64 y] 81 (0, 0))) : ∀ (j : Nat) t, ([((x, y) : Pr)].flatMap pc)[j]? = some t → w3.cell? ((⟨z, 0, none⟩ : Addr).add j) = some t := fun j t hj => by
  rw [Addr.add_lit, Nat.zero_add, Go.Joins.cell_of_block h]
  simpa [pc] using hj
theorem pone (x y : Int) : ∀ z ∈ [((x, y) : Pr)].flatMap pc, z.oneCell' = true := fun z hz => by
  simp [pc] at hz
  rcases hz with rfl | rfl <;> rfl
theorem pones (ps : List Pr) : ∀ z ∈ ps.flatMap pc, z.oneCell' = true := fun z hz => by
  obtain ⟨p, _, hp⟩ := List.mem_flatMap.1 hz
  simp [pc] at hp
  rcases hp with rfl | rfl <;> rfl
set_option maxRecDepth 100000 in
set_option maxHeartbeats 2000000 in
theorem rturn_any {w : World} {R : Bks} {q : Nat} {d : Nt} (h : RefAt w R q d) (a b : Int) :
    Calls Try.prog 38 #[.pointer (some ⟨q, 0, none⟩), .int .i64 a, .int .i64 b] w fun e w' => e = .returned (.int .i64 (d.turn a b true).1) ∧ RDoes w R q (d.turn a b true).2 w' := by
  have hA := h
  obtain ⟨ho, bv, cv, vs, ps, h⟩ := h
  have HST : Hid (∀ W, Below w.heap.size w W → RDoes w R q d W) := fun W hb => RDoes.still hA hb
  cases hl : d.links a b
  · have hres : d.turn a b true = (1, d) := by unfold Nt.turn; rw [if_neg (by simp [hl])]
    rw [hres]
    have HL := Lib.hid (link_false d a b w h.c0 hl)
    clear h ho hA hl hres
    go_enter Try.func38, Try.ntmps38
    go_wp2_with (go_at_call 51; refine HL.out.mono ?_; rintro e w1 ⟨rfl, hb⟩; have HB := Lib.hid hb; clear hb)
    go_ret
    exact ⟨rfl, HST.out _ (HB.out.alloc HB.out.size _)⟩
  · have HL := Lib.hid (link_true d a b w h.c0 hl)
    have HC : ∀ W, Below w.heap.size w W → Calls Try.prog 52 #[.pointer (some ⟨q, 0, none⟩), .agg #[.int .i64 (min a b), .int .i64 (max a b)]] W fun e w' => e = .returned (.bool (d.cuts.getD (place a b) false)) ∧ Below W.heap.size W w' := fun W hb => by
      have := rcut_any (h.below hb) (min a b) (max a b)
      rw [h.cuts a b hl] at this
      exact this
    have hres : (d.turn a b true).1 = 0 := by unfold Nt.turn; rw [if_pos hl]
    rw [hres]
    obtain ⟨lo, hlo⟩ : ∃ lo, min a b = lo := ⟨_, rfl⟩
    obtain ⟨hi, hhi⟩ : ∃ hi, max a b = hi := ⟨_, rfl⟩
    cases hB : d.cuts.getD (place a b) false
    · rw [hlo, hhi] at HL HC
      rw [hB] at HC
      have HC := Lib.hid HC
      obtain ⟨ca, cc, rfl⟩ := h.prs.form
      obtain ⟨CL, hCL⟩ : ∃ CL, ps.length = CL := ⟨_, rfl⟩
      have HCL := Lib.hid hCL
      have hmany := h.many
      rw [hCL] at hmany
      have HP := Lib.hid h
      have HOK : Hid (d.ok ∧ d.links a b = true ∧ d.cuts.getD (place a b) false = false) := ⟨ho, hl, hB⟩
      have HLH : Hid (min a b = lo ∧ max a b = hi) := ⟨hlo, hhi⟩
      clear h ho hA hl hres hB hlo hhi hCL HST
      go_enter Try.func38, Try.ntmps38
      go_wp2_with (first
        | (go_at_call 51; refine HL.out.mono ?_; rintro e w1 ⟨rfl, hb⟩; have HB := Lib.hid hb; clear hb)
        | (go_at_call 52; refine (HC.out _ (HB.out.alloc HB.out.size _)).mono ?_; rintro e w2 ⟨rfl, hb2⟩; have HB2 : Hid (Below w.heap.size w w2 ∧ w2.heap[w1.heap.size]? = some (.cells #[.int .i64 lo, .int .i64 hi] 81 (0, 0))) := ⟨(HB.out.alloc HB.out.size _).trans (hb2.mono (Below.size (HB.out.alloc HB.out.size _))), (hb2.block _ (by rw [World.size_alloc]; omega)).trans (heap_alloc_new _ _)⟩; clear hb2))
      have HKB : Hid (∀ W, Below w2.heap.size w2 W → Below w.heap.size w W ∧ W.heap[w1.heap.size]? = some (.cells #[.int .i64 lo, .int .i64 hi] 81 (0, 0))) := fun W hb => ⟨HB2.out.1.trans (hb.mono HB2.out.1.size), (hb.block _ (lt_of_block HB2.out.2)).trans HB2.out.2⟩
      have HK : Hid (∀ W, Below w2.heap.size w2 W → W.cell? ⟨q, 2, none⟩ = some (.slice ca CL cc) ∧ W.cell? ⟨w1.heap.size, 0, none⟩ = some (.int .i64 lo) ∧ W.cell? ⟨w1.heap.size, 1, none⟩ = some (.int .i64 hi)) := fun W hb => by
        obtain ⟨h1, h2⟩ := HKB.out W hb
        refine ⟨?_, by rw [Go.Joins.cell_of_block h2]; rfl, by rw [Go.Joins.cell_of_block h2]; rfl⟩
        rw [← HCL.out]
        exact (HP.out.below h1).c2
      have HFIN : Hid (∀ w5 v5, Below w2.heap.size w2 w5 → (∀ k, v5.ownBlock = some k → w2.heap.size ≤ k) → OwnPs w5 v5 (ps ++ [(lo, hi)]) → (w5.cell? ⟨q, 2, none⟩ = some (.slice ca CL cc) ∧ w5.frozen? ⟨q, 2, none⟩ = false) ∧ RDoes w R q (d.turn a b true).2 (w5.setCell ⟨q, 2, none⟩ v5)) := fun w5 v5 h1 h2 h3 => by
        rw [← HLH.out.1, ← HLH.out.2] at h3
        have := HP.out.cutted HOK.out.1 HOK.out.2.1 HOK.out.2.2 (HKB.out w5 h1).1 (fun k hk => Nat.le_trans HB2.out.1.size (h2 k hk)) h3
        rw [HCL.out] at this
        exact this
      have HR : Hid (∀ W, Below w2.heap.size w2 W → OwnPs W (.slice ca CL cc) ps) := fun W hb => by
        rw [← HCL.out]
        exact (HP.out.below (HKB.out W hb).1).prs
      have HSM : Hid (ps.length ≤ 1000000 ∧ ps.length + [((lo, hi) : Pr)].length ≤ 1000000) := by
        unfold Hid; rw [HCL.out]; simp; omega
      obtain ⟨c1, z0, z1⟩ := HK.out w2 (Below.refl _ _)
      have ca1 : ∀ o, _ := fun o => HK.out (w2.alloc o) (Go.Joins.below_alloc1 w2 o)
      have ca2 : ∀ o o', _ := fun o o' => HK.out ((w2.alloc o).alloc o') ((Go.Joins.below_alloc1 w2 o).alloc (by rw [World.size_alloc]; omega) o')
      have c1a := fun o => (ca1 o).1
      have z0a := fun o => (ca1 o).2.1
      have z1a := fun o => (ca1 o).2.2
      have c1b := fun o o' => (ca2 o o').1
      have z0b := fun o o' => (ca2 o o').2.1
      have z1b := fun o o' => (ca2 o o').2.2
      clear ca1 ca2 HC HL HB
      have HA : Hid (∀ o, Chg (fun _ => False) w2 (w2.drew.alloc o)) := fun o => ((Chg.refl _ w2).drew).alloc o
      have HAA : Hid (∀ o o', Chg (fun _ => False) w2 ((w2.drew.alloc o).alloc o')) := fun o o' => (((Chg.refl _ w2).drew).alloc o).alloc o'
      have HM1 : Hid (OwnPs (w2.drew.alloc (.cells #[] 81)) (.slice (some ⟨w2.heap.size, 0, none⟩) 0 0) []) := OwnPs.made w2.drew
      have HM2 : Hid (∀ o, OwnPs ((w2.drew.alloc (.cells #[] 81)).alloc o) (.slice (some ⟨w2.heap.size, 0, none⟩) 0 0) []) := fun o => (OwnPs.made w2.drew).chg ((Chg.refl (fun _ => False) _).alloc o) fun _ _ h => h
      have HM3 : Hid (∀ o, OwnPs ((w2.drew.alloc o).alloc (.cells #[] 81)) (.slice (some ⟨w2.heap.size + 1, 0, none⟩) 0 0) []) := fun o => by
        have := OwnPs.made (w2.drew.alloc o)
        rw [World.size_alloc] at this
        exact this
      have HZ3 : Hid (∀ o, ((w2.drew.alloc (.cells #[.int .i64 lo, .int .i64 hi] 81)).alloc o).heap[w2.heap.size]? = some (.cells #[.int .i64 lo, .int .i64 hi] 81 (0, 0))) := fun o => by
        have h1 : (w2.drew.alloc (.cells #[.int .i64 lo, .int .i64 hi] 81)).heap[w2.heap.size]? = some (.cells #[.int .i64 lo, .int .i64 hi] 81 (0, 0)) := heap_alloc_new w2.drew _
        rw [heap_alloc_old (h := lt_of_block h1)]
        exact h1
      have HNEW : Hid (∀ w3 : World, ∀ (j : Nat) t, ([((lo, hi) : Pr)].flatMap pc)[j]? = some t → (w3.alloc (.cells #[.int .i64 lo, .int .i64 hi] 81)).cell? ((⟨w3.heap.size, 0, none⟩ : Addr).add j) = some t) := fun w3 => pnews_block (heap_alloc_new _ _)
      go_region_law (first
        | (refine step_append_prow rfl (.tmp 23) (.tmp 27) rfl w2.heap.size (.slice ca CL cc) ps HM1.out (HR.out _ ((HA.out _).below (Nat.le_refl _) fun _ h => h.elim)) (by simp [Act.eval]) (by simp [Act.eval]) (pones ps) HSM.out.1 ?_; intro a3 l3 c3 w3 ho3 hg3 hp3; obtain ⟨b3, v3⟩ := dup_mid (HA.out _) (Nat.le_refl _) hg3 hp3; have HB3 := Lib.hid b3; have HV3 := Lib.hid v3; have HO3 := Lib.hid ho3; obtain ⟨d1, e0, e1⟩ := HK.out w3 b3; clear ho3 hg3 hp3 b3 v3)
        | (refine step_append_prow rfl (.tmp 23) (.tmp 27) rfl w2.heap.size (.slice ca CL cc) ps (HM2.out _) (HR.out _ ((HAA.out _ _).below (Nat.le_refl _) fun _ h => h.elim)) (by simp [Act.eval]) (by simp [Act.eval]) (pones ps) HSM.out.1 ?_; intro a3 l3 c3 w3 ho3 hg3 hp3; obtain ⟨b3, v3⟩ := dup_mid (HAA.out _ _) (Nat.le_refl _) hg3 hp3; have HN3 := Lib.hid (pnews_block (kept_block hg3 (heap_alloc_new _ _) (by rw [World.size_alloc]; exact Nat.succ_ne_self _))); have HB3 := Lib.hid b3; have HV3 := Lib.hid v3; have HO3 := Lib.hid ho3; obtain ⟨d1, e0, e1⟩ := HK.out w3 b3; clear ho3 hg3 hp3 b3 v3)
        | (refine step_append_prow rfl (.tmp 23) (.tmp 27) rfl (w2.heap.size + 1) (.slice ca CL cc) ps (HM3.out _) (HR.out _ ((HAA.out _ _).below (Nat.le_refl _) fun _ h => h.elim)) (by simp [Act.eval]) (by simp [Act.eval]) (pones ps) HSM.out.1 ?_; intro a3 l3 c3 w3 ho3 hg3 hp3; obtain ⟨b3, v3⟩ := dup_mid (HAA.out _ _) (Nat.le_succ _) hg3 hp3; have HN3 := Lib.hid (pnews_block (kept_block hg3 (HZ3.out _) (Nat.ne_of_lt (Nat.lt_succ_self _)))); have HB3 := Lib.hid b3; have HV3 := Lib.hid v3; have HO3 := Lib.hid ho3; obtain ⟨d1, e0, e1⟩ := HK.out w3 b3; clear ho3 hg3 hp3 b3 v3)
        | (refine step_append_ps rfl (.tmp 28) (.tmp 30) rfl (.slice a3 l3 c3) ps [((lo, hi) : Pr)] (HO3.out.chg ((Chg.refl (fun _ => False) w3).alloc _) fun _ _ h => h) ⟨w3.heap.size, 0, none⟩ 1 1 (by simp [Act.eval]) (by simp [Act.eval]) rfl (HNEW.out w3) (pone lo hi) HSM.out.2 ?_; intro a5 l5 c5 w5 ho5 hg5 hp5; obtain ⟨b5, v5⟩ := dup_end (HB3.out.alloc HB3.out.size _) HV3.out hg5 hp5; obtain ⟨⟨c15, f15⟩, hx⟩ := HFIN.out w5 _ b5 v5 ho5; have HX := Lib.hid hx; clear ho5 hg5 hp5 b5 v5 hx)
        | (refine step_append_ps rfl (.tmp 28) (.tmp 30) rfl (.slice a3 l3 c3) ps [((lo, hi) : Pr)] HO3.out ⟨_, 0, none⟩ 1 1 (by simp [Act.eval]) (by simp [Act.eval]) rfl HN3.out (pone lo hi) HSM.out.2 ?_; intro a5 l5 c5 w5 ho5 hg5 hp5; obtain ⟨b5, v5⟩ := dup_end HB3.out HV3.out hg5 hp5; obtain ⟨⟨c15, f15⟩, hx⟩ := HFIN.out w5 _ b5 v5 ho5; have HX := Lib.hid hx; clear ho5 hg5 hp5 b5 v5 hx))
      all_goals go_wp2
      all_goals go_ret
      all_goals exact ⟨rfl, HX.out⟩
    · have ht : (d.turn a b true).2 = d := by
        unfold Nt.turn
        rw [if_pos hl]
        show { d with cuts := d.cuts.set (place a b) true } = d
        rw [set_same ho hl true hB]
      rw [ht]
      rw [hlo, hhi] at HL HC
      rw [hB] at HC
      have HC := Lib.hid HC
      clear h ho hA hl hres hB hlo hhi ht
      go_enter Try.func38, Try.ntmps38
      go_wp2_with (first
        | (go_at_call 51; refine HL.out.mono ?_; rintro e w1 ⟨rfl, hb⟩; have HB := Lib.hid hb; clear hb)
        | (go_at_call 52; refine (HC.out _ (HB.out.alloc HB.out.size _)).mono ?_; rintro e w2 ⟨rfl, hb2⟩; have HB2 : Hid (Below w.heap.size w w2) := (HB.out.alloc HB.out.size _).trans (hb2.mono (Below.size (HB.out.alloc HB.out.size _))); clear hb2))
      go_ret
      exact ⟨rfl, HST.out _ HB2.out⟩
end Go.Proofs.Ytbmebmkpjbgdoaa
