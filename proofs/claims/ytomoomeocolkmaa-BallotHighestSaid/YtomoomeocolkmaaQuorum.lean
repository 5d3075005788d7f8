/- Quorum. -/
import Derived.Test.YtomoomeocolkmaaMet
import Derived.Test.YtomoomeocolkmaaSmallC
import Derived.Test.YtomoomeocolkmaaShelf
import Derived.Sort.OwnSortedInts
namespace Go.Proofs.Ytomoomeocolkmaa
open Go.RowKit Go.Sort Go.Lib
theorem clone_ints (v : Value) (l : List Int) (w : World) (hp : IntsAt w v l) (hl : l.length ≤ 100000) :
    Calls Try.prog 35 #[v] w fun e w' => ∃ v', e = .returned v' ∧ w'.ownsRow w.heap.size 3 1 v' l.length (l.map (Value.int .i64)) ∧ Below w.heap.size w w' := by
  obtain ⟨a, cap, rfl, _, hlc, hn, h⟩ := hp
  cases a with
  | none =>
    have := hn rfl
    have h0 : l = [] := List.eq_nil_of_length_eq_zero (by omega)
    subst h0
    refine (Try.slices_Clone_int_nil _ _ _).mono ?_
    rintro e w' ⟨rfl, rfl⟩
    exact ⟨_, rfl, World.ownsRow_nil _ _ _ _, Below.refl _ _⟩
  | some ad =>
    by_cases h0 : l = []
    · subst h0
      refine (Try.slices_Clone_int_zero _ _ _).mono ?_
      rintro e w' ⟨v', rfl, ho, _, hb⟩
      exact ⟨_, rfl, ho, hb⟩
    · obtain ⟨b, off, ha, hb, hc⟩ := h (List.length_pos_iff.2 h0)
      cases ha
      refine (Try.slices_Clone_int b off l.length cap l w (Nat.le_refl _) (by omega) fun j hj => ?_).mono ?_
      · obtain ⟨_, hr⟩ := hc j _ (List.getElem?_eq_getElem hj)
        have := hr 0 (by omega)
        rw [Nat.mul_one, Nat.add_zero] at this
        rw [this, List.getD_eq_getElem?_getD, List.getElem?_eq_getElem hj]; rfl
      · rintro e w' ⟨v', rfl, ho, _, hb⟩
        rw [List.take_length] at ho
        exact ⟨_, rfl, ho, hb⟩
def outB (n : Int) (x : Int) : Bool := decide (x < 1) || decide (n < x)
theorem gives36 (n x : Int) (B : Nat) (W : World) (hc : W.cell? ⟨B, 0, none⟩ = some (.int .i64 n)) :
    FnGives Try.prog 36 #[.pointer (some ⟨B, 0, none⟩)] #[.int .i64 x] (.bool (outB n x)) W := by
  show Calls Try.prog 36 #[.int .i64 x, .pointer (some ⟨B, 0, none⟩)] W _
  unfold outB
  by_cases h1 : x < 1
  · go_enter Try.func36, Try.ntmps36
    go_wp2
    go_ret
    exact ⟨by simp [h1], 0, rfl⟩
  · go_enter Try.func36, Try.ntmps36
    go_wp2
    go_ret
    refine ⟨?_, 0, rfl⟩
    simp_all
    intros; omega
theorem enters36 : ∀ args w, (callFunc 36 args).run Try.prog w = .ok (.enter 36 args) w := enters_of Try.func36 (by kernel_rfl) rfl
theorem delete_none (c : Nat) (fv : Value) (w : World) : Calls Try.prog 34 #[.slice none 0 c, fv] w fun e w' => e = .returned (.slice none 0 c) ∧ w' = w := by
  have HI := fun w => Try.slices_IndexFunc_empty (α := Int) none c fv w
  go_enter Try.func34, Try.ntmps34
  go_wp2_with (go_at_call 47; refine (HI _).mono ?_; rintro e w1 ⟨rfl, rfl⟩)
  go_ret
  exact ⟨rfl, rfl⟩
theorem row_chg {w : World} {g n : Nat} {os : Array Obj} (d : Array Int) : Chg (fun k => k = g) w (grow (putRow (Value.int .i64) (Sort.ahead w n) g 0 d) os) :=
  (Chg.refl _ w).grown (grownBy_sortedI d) fun k hk => .inl (by injection hk with hk; exact hk.symm)
theorem row_chg' {w : World} {g n : Nat} (d : Array Int) : Chg (fun k => k = g) w (putRow (Value.int .i64) (Sort.ahead w n) g 0 d) := by
  have := row_chg (w := w) (g := g) (n := n) (os := #[]) d
  rwa [grow_empty] at this
theorem holds_pre {w : World} {g off : Nat} {a b : List Int} (h : Holds (Value.int .i64) w g off (a ++ b).toArray) : Holds (Value.int .i64) w g off a.toArray := by
  intro j hj
  have hj' : j < a.length := by simpa using hj
  have := h j (by simp; omega)
  rw [getElem!_pos _ j (by simp; omega)] at this
  rw [getElem!_pos _ j (by simpa using hj')]
  simpa [List.getElem_append_left hj'] using this
set_option maxRecDepth 100000 in
set_option maxHeartbeats 1000000 in
theorem quorum_any (n : Int) (v : Value) (l : List Int) (w : World) (hn : -9223372036854775808 ≤ n ∧ n ≤ 9223372036854775807) (hp : IntsAt w v l) (hl : l.length ≤ 100000) :
    Calls Try.prog 22 #[.int .i64 n, v] w fun e w' => e = .returned (.bool (quorum n l)) ∧ Below w.heap.size w w' := by
  obtain ⟨W, hW⟩ : ∃ W, W = w.alloc (.cells #[.int .i64 n] 3) := ⟨_, rfl⟩
  have hB : Below w.heap.size w W := by rw [hW]; exact Go.Joins.below_alloc1 w _
  have hsz : W.heap.size = w.heap.size + 1 := by rw [hW, World.size_alloc]
  have c0 : W.cell? ⟨w.heap.size, 0, none⟩ = some (.int .i64 n) := by rw [hW, World.cell?_alloc_new]; rfl
  by_cases h1 : n < 1
  · have hq : quorum n l = false := by simp only [quorum, decide_eq_false (show ¬ 1 ≤ n by omega), Bool.false_and]
    rw [hq]
    have HB := Lib.hid hB
    clear hB hp hq hsz c0
    go_enter Try.func22, Try.ntmps22
    go_wp2
    rw [← hW]
    go_ret
    exact ⟨rfl, HB.out⟩
  · have HCL := Lib.hid (clone_ints v l W (hp.below hB) hl)
    have HB := Lib.hid hB
    have HLL := Lib.hid hl
    obtain ⟨Q, hQ⟩ : ∃ Q, quorum n l = Q := ⟨_, rfl⟩
    rw [hQ]
    have HQ := Lib.hid (show Q = decide (half n ≤ (met n.toNat l : Int)) by rw [← hQ]; simp only [quorum, decide_eq_true (show 1 ≤ n by omega), Bool.true_and])
    have HN1 := Lib.hid (show 1 ≤ n by omega)
    have HHALF := Lib.hid (fun w => half_any n hn.2 w)
    clear hp hB hQ hl
    go_enter Try.func22, Try.ntmps22
    go_wp2_with fail
    rw [← hW]
    clear hW
    refine HCL.out.mono ?_
    rintro e w2 ⟨v2, rfl, ho2, hb2⟩
    have d0 : w2.cell? ⟨w.heap.size, 0, none⟩ = some (.int .i64 n) := by rw [hb2.cell (show (⟨w.heap.size, 0, none⟩ : Addr).block < _ by show w.heap.size < _; omega)]; exact c0
    have HB2 := Lib.hid (HB.out.trans (hb2.mono HB.out.size))
    have hlt2 : w.heap.size < w2.heap.size := by have := hb2.size; omega
    rcases ho2.2 with ⟨rfl, h0⟩ | ⟨g, cap, cur, rfl, hbg, hg, hnc, hcm, hcs, htake⟩
    · have hl0 : l = [] := List.eq_nil_of_length_eq_zero h0
      subst hl0
      have HD := Lib.hid (fun w => delete_none 0 (.func (.func 36) #[] #[.pointer (some ⟨w2.heap.size, 0, none⟩)]) w)
      have HS := Lib.hid (fun w => Try.slices_Sort_int_none none 0 w)
      have HC := Lib.hid (fun w => Try.slices_Compact_int_empty none 0 w)
      have HD := Lib.hid (fun w' => delete_none 0 (.func (.func 36) #[] #[.pointer (some ⟨w.heap.size, 0, none⟩)]) w')
      have HM0 := Lib.hid (met_nil n.toNat)
      rw [met_nil] at HQ
      clear ho2 hb2 c0 hsz hlt2 h0
      go_wp2_with (first | (go_at_call 34; refine (HD.out _).mono ?_; rintro e w3 ⟨rfl, rfl⟩) | (go_at_call 37; refine (HS.out _).mono ?_; rintro e w4 ⟨rfl, rfl⟩))
      go_region_held (fun W' => W'.cell? ⟨w.heap.size, 0, none⟩ = some (.int .i64 n)) (exact d0) (first
        | (go_at_call 38; refine (HC.out _).mono ?_; rintro e w5 ⟨rfl, rfl⟩)
        | (go_at_call 20; refine (HHALF.out _).mono ?_; rintro e w6 ⟨rfl, rfl⟩))
      all_goals go_wp2
      all_goals go_ret
      all_goals exact ⟨by rw [HQ.out]; rfl, HB2.out.drew⟩
    · rw [hsz] at hbg
      have hne : w.heap.size ≠ g := by omega
      have HBG := Lib.hid (show w.heap.size ≤ g by omega)
      rw [Nat.mul_one] at htake hcs
      have hH : Holds (Value.int .i64) w2 g 0 l.toArray := holds_of_blockI hg (by simpa using htake)
      have hgl := (Array.getElem?_eq_some_iff.1 hg).1
      have hpred : PredAt Try.prog 36 #[.pointer (some ⟨w.heap.size, 0, none⟩)] (Value.int .i64) (outB n) w2 := fun W x hb => gives36 n x w.heap.size W ((hb.cell (p := ⟨w.heap.size, 0, none⟩) hlt2).trans d0)
      have hover : PredOver Try.prog 36 #[.pointer (some ⟨w.heap.size, 0, none⟩)] (Value.int .i64) (outB n) g 0 l.toArray.size w2 := fun m os dk x _ => gives36 n x w.heap.size _ (by
        unfold sortWorld
        rw [cell?_grow _ _ _ (by show w.heap.size < (putRow _ _ _ _ _).heap.size; rw [size_putRow]; exact hlt2), cell?_putRow_other _ _ g 0 _ _ (Or.inl hne)]
        exact d0)
      obtain ⟨F, hF⟩ : ∃ F, l.filter (fun x => !outB n x) = F := ⟨_, rfl⟩
      obtain ⟨S, hS⟩ : ∃ S, F.mergeSort (fun x y => decide (x ≤ y)) = S := ⟨_, rfl⟩
      have hFl : F.length ≤ l.length := by rw [← hF]; exact List.length_filter_le _ _
      have hSl : S.length = F.length := by rw [← hS]; exact List.length_mergeSort F
      have HM := Lib.hid (show (Lib.compact S).length = met n.toNat l by rw [← hS, ← hF]; exact sort_met n l HN1.out)
      have HD := Try.slices_DeleteFunc (Value.int .i64) (fun _ => rfl) (outB n) 36 #[.pointer (some ⟨w.heap.size, 0, none⟩)] enters36 0 Try.zeroValue3 g 0 cap l.toArray w2 hpred hover hH (by have := HLL.out; simp; omega) (by simpa using hnc)
      have HD : Hid (Calls Try.prog 34 #[.slice (some ⟨g, 0, none⟩) l.length cap, .func (.func 36) #[] #[.pointer (some ⟨w.heap.size, 0, none⟩)]] w2 fun e w' => e = .returned (.slice (some ⟨g, 0, none⟩) F.length cap) ∧ ∃ q, w' = putRow (Value.int .i64) (Sort.ahead w2 q) g 0 (F ++ List.replicate (l.length - F.length) 0).toArray) := by
        rw [← hF]; exact HD
      have HLS := Lib.hid (And.intro hFl (And.intro hSl (And.intro hnc hgl)))
      have HH := Lib.hid hH
      have HNE := Lib.hid (And.intro hne (And.intro hlt2 hS))
      clear hpred hover hF hS hFl hSl hnc hgl hH hne hlt2 hg hbg hcm hcs htake ho2 hb2 c0 hsz
      go_wp2_with fail
      refine HD.out.mono ?_
      rintro e w3 ⟨rfl, q3, hw3⟩
      have h3 : Chg (fun k => k = g) w2 w3 := by rw [hw3]; exact row_chg' _
      have hH3 : Holds (Value.int .i64) w3 g 0 (F ++ List.replicate (l.length - F.length) 0).toArray := by
        rw [hw3]; exact holds_putRow _ _ g 0 l.toArray _ (holds_ahead _ _ _ _ _ _ HH.out) (by have := HLS.out.1; simp; omega)
      have hF3 := holds_pre hH3
      have hl3 : g < w3.heap.size := by have := h3.size; have := HLS.out.2.2.2; omega
      have hS3 := Try.slices_Sort_int g 0 cap F w3 hF3 hl3 (by have := HLS.out.1; have := HLL.out; omega)
      rw [HNE.out.2.2] at hS3
      have HS3 := Lib.hid hS3
      have HF3 := Lib.hid hF3
      have H3 := Lib.hid (And.intro h3 hl3)
      clear hw3 h3 hH3 hF3 hl3 hS3 HD
      go_wp2_with fail
      refine HS3.out.mono ?_
      rintro e w4 ⟨rfl, q4, os4, hw4⟩
      have h4 : Chg (fun k => k = g) w3 w4 := by rw [hw4]; exact row_chg _
      have hH4 : Holds (Value.int .i64) w4 g 0 S.toArray := by
        rw [hw4]
        exact holds_grow _ _ _ _ _ _ (by rw [size_putRow]; exact H3.out.2) (holds_putRow _ _ g 0 F.toArray _ (holds_ahead _ _ _ _ _ _ HF3.out) (by have := HLS.out.2.1; simp; omega))
      have hC4 := H3.out.1.trans h4
      have hB4 : Below w.heap.size w w4 := HB2.out.trans (hC4.below (Nat.le_of_lt HNE.out.2.1) fun k hk => by have := HBG.out; omega)
      have d4 : w4.cell? ⟨w.heap.size, 0, none⟩ = some (.int .i64 n) := by
        rw [← d0]; exact World.cell?_of_block (hC4.block _ HNE.out.2.1 HNE.out.1)
      have hlt4 : w.heap.size < w4.heap.size := by have := hC4.size; have := HNE.out.2.1; omega
      have hC := Try.slices_Compact_int g 0 cap S w4.drew hH4 (by have := HLS.out; have := HLL.out; omega) (by have := HLS.out; omega)
      rw [HM.out, HLS.out.2.1] at hC
      have HC := Lib.hid hC
      have HF := Lib.hid (show ∀ w5 q d, w5 = putRow (Value.int .i64) (Sort.ahead w4.drew q) g 0 d → w5.cell? ⟨w.heap.size, 0, none⟩ = some (.int .i64 n) ∧ Below w.heap.size w w5 from fun w5 q d h5 => by
        have hc5 : Chg (fun k => k = g) w4.drew w5 := by rw [h5]; exact row_chg' _
        exact ⟨by rw [← d4]; exact World.cell?_of_block (hc5.block _ hlt4 HNE.out.1), hB4.drew.trans (hc5.below (Nat.le_of_lt hlt4) fun k hk => by have := HBG.out; omega)⟩)
      clear hw4 h4 hH4 hC4 hB4 hlt4 hC d0
      go_wp2_with fail
      go_region_held (fun W' => W'.cell? ⟨w.heap.size, 0, none⟩ = some (.int .i64 n)) ((first | exact d4 | exact d5)) (first
        | (go_at_call 38; refine HC.out.mono ?_; rintro e w5 ⟨rfl, q5, h5⟩; obtain ⟨d5, hb5⟩ := HF.out w5 q5 _ h5; have HB5 := Lib.hid hb5; clear h5 hb5)
        | (go_at_call 20; refine (HHALF.out _).mono ?_; rintro e w6 ⟨rfl, rfl⟩))
      all_goals go_wp2
      all_goals go_ret
      all_goals exact ⟨by rw [HQ.out]; rfl, HB5.out⟩
end Go.Proofs.Ytomoomeocolkmaa
