/- Insertion sort. -/
import Derived.Test.YtclchlcfcnlmhaaFl
namespace Go.Proofs.Ytclchlcfcnlmhaa
open Go.RowKit Go.Maps Go.Shelf
set_option linter.unusedSimpArgs false
theorem two_mid {base : Nat} {w wr : World} {g L cap : Nat} {U W : List MK} {x y : MK} (h : InP base w wr g L cap (U ++ y :: x :: W)) {k : Nat} (hk : U.length = k) : (U ++ y :: x :: W)[k]? = some y ∧ (U ++ y :: x :: W)[k + 1]? = some x ∧ k + 1 < L := by
  subst hk
  refine ⟨mid_a (V := []), mid_b (V := []), ?_⟩
  have := h.len
  simp at this
  omega
theorem InP.fz {base : Nat} {w wr : World} {g L cap : Nat} {T : List MK} (h : InP base w wr g L cap T) {i : Nat} (hi : i < L) :
    (∃ e, wr.cell? ⟨g, i * 3, none⟩ = some e) ∧ (∃ e, wr.cell? ⟨g, i * 3 + 1, none⟩ = some e) ∧ (∃ e, wr.cell? ⟨g, i * 3 + 2, none⟩ = some e) ∧ wr.frozen? ⟨g, i * 3, none⟩ = false ∧ wr.frozen? ⟨g, i * 3 + 1, none⟩ = false ∧ wr.frozen? ⟨g, i * 3 + 2, none⟩ = false :=
  h.own.has h.len i hi
theorem srt_ins {P Q : List MK} {x y : MK} (h : Srt (P ++ y :: Q)) (hxy : y.p ≤ x.p) (hq : ∀ q ∈ Q, x.p < q.p) : Srt (P ++ y :: x :: Q) := by
  unfold Srt at h ⊢
  rw [List.pairwise_append] at h ⊢
  obtain ⟨h1, h2, h3⟩ := h
  rw [List.pairwise_cons] at h2
  refine ⟨h1, ?_, ?_⟩
  · rw [List.pairwise_cons, List.pairwise_cons]
    refine ⟨fun z hz => ?_, fun z hz => Int.le_of_lt (hq z hz), h2.2⟩
    rcases List.mem_cons.1 hz with rfl | hz
    · exact hxy
    · exact h2.1 z hz
  · intro z hz v hv
    rcases List.mem_cons.1 hv with rfl | hv
    · exact h3 z hz v (by simp)
    · rcases List.mem_cons.1 hv with rfl | hv
      · have := h3 z hz y (by simp); omega
      · exact h3 z hz v (by simp [hv])
set_option maxRecDepth 100000 in
set_option maxHeartbeats 4000000 in
theorem inss_any (base : Nat) (w0 : World) (g L cap a b : Nat) (A M B : List MK) (w : World) (h : InP base w0 w g L cap (A ++ (M ++ B))) (ha : A.length = a) (hb : a + M.length = b) (hL : L ≤ 100000) :
    Calls Try.prog 60 #[.slice (some ⟨g, 0, none⟩) L cap, .int .i64 (a : Nat), .int .i64 (b : Nat), ordV] w fun e w' => e = .returned (.tuple #[]) ∧ ∃ M', InP base w0 w' g L cap (A ++ (M' ++ B)) ∧ St M M' ∧ Srt M' := by
  have H := Lib.hid h
  have HA := Lib.hid ha
  have HB := Lib.hid hb
  have hbL : b ≤ L := by have := h.len; simp at this; omega
  have hab : a ≤ b := by omega
  have hen := enters_of (P := Try.prog) (f := 46) Try.func46 (by kernel_rfl) rfl
  clear h ha hb
  unfold ordV
  go_enter Try.func60, Try.ntmps60
  go_wp2
  go_loopw [8] (fun iv wr => ∃ (n : Nat) (S : List MK), 1 ≤ n ∧ (n = 1 ∨ a + n ≤ b) ∧ iv = .int .i64 ((a + n : Nat) : Int) ∧ Hid (InP base w0 wr g L cap (A ++ (S ++ (M.drop n ++ B))) ∧ St (M.take n) S ∧ Srt S)) (fun iv _ => b - (intOf iv).toNat)
  case atStart => exact ⟨1, M.take 1, Nat.le_refl _, .inl rfl, by go_num, Lib.hid ⟨by have := H.out; rwa [← List.append_assoc (M.take 1), List.take_append_drop], St.refl _, by cases M <;> simp [Srt]⟩⟩
  case round =>
    obtain ⟨n, S, hn1, hn, rfl, HR⟩ := hrel
    obtain ⟨I, hI⟩ : ∃ I, a + n = I := ⟨_, rfl⟩
    rw [hI]
    by_cases hlt : I < b
    · have hltz : (I : Int) < (b : Int) := by omega
      obtain ⟨x, hx⟩ : ∃ x, M[n]? = some x := ⟨_, List.getElem?_eq_getElem (by have := HB.out; omega)⟩
      have HX := Lib.hid (show M.drop n = x :: M.drop (n + 1) ∧ M.take (n + 1) = M.take n ++ [x] from ⟨drop_cons hx, take_snoc hx⟩)
      have HI := Lib.hid (And.intro hI (And.intro hn1 hlt))
      obtain ⟨C, hC⟩ : ∃ C, M.drop (n + 1) ++ B = C := ⟨_, rfl⟩
      have HC := Lib.hid hC
      have HSl := Lib.hid (show S.length = n by rw [HR.out.2.1.len, List.length_take]; have := HB.out; omega)
      clear hI hx hC hn hn1
      obtain ⟨wo, rfl⟩ : ∃ wo : World, wo = wr := ⟨_, rfl⟩
      go_wp2
      go_loopw [9] (fun jv wx => ∃ (P Q : List MK), jv = .int .i64 ((a + P.length : Nat) : Int) ∧ Hid (P.length + Q.length = n ∧ InP base w0 wx g L cap ((A ++ P) ++ x :: (Q ++ C)) ∧ St (M.take (n + 1)) (P ++ x :: Q) ∧ Srt (P ++ Q) ∧ ∀ q ∈ Q, x.p < q.p)) (fun jv _ => (intOf jv).toNat)
      case atStart => exact ⟨S, [], by rw [HSl.out, HI.out.1], Lib.hid ⟨by rw [HSl.out]; rfl, by have := HR.out.1; rwa [HX.out.1, List.cons_append, HC.out, ← List.append_assoc] at this, by rw [HX.out.2]; exact HR.out.2.1.app (St.refl _), by rw [List.append_nil]; exact HR.out.2.2, by simp⟩⟩
      case round =>
        obtain ⟨P, Q, rfl, HJ⟩ := hrel
        obtain ⟨wx, rfl⟩ : ∃ wx : World, wx = wr := ⟨_, rfl⟩
        have HEND := Lib.hid (show Srt (P ++ x :: Q) → InP base w0 wx g L cap (A ++ ((P ++ x :: Q) ++ (M.drop (n + 1) ++ B))) ∧ St (M.take (n + 1)) (P ++ x :: Q) ∧ Srt (P ++ x :: Q) from fun hs => ⟨by have := HJ.out.2.1; rwa [List.append_assoc, show P ++ x :: (Q ++ C) = (P ++ x :: Q) ++ C by simp, ← HC.out] at this, HJ.out.2.2.1, hs⟩)
        rcases List.eq_nil_or_concat P with hP | ⟨P', y, hP⟩
        · subst hP
          have HE := Lib.hid (HEND.out (by
            rw [List.nil_append]; have := HJ.out.2.2.2.1; rw [List.nil_append] at this
            exact List.pairwise_cons.2 ⟨fun q hq => Int.le_of_lt (HJ.out.2.2.2.2 q hq), this⟩))
          have hg : ¬ ((a + ([] : List MK).length : Nat) : Int) < (a : Int) := by simp
          have hg2 : ¬ (a : Int) < ((a + ([] : List MK).length : Nat) : Int) := by simp
          go_wp2_with fail
          go_quiet (fail)
          go_wp2
          go_roundw
          case rel => exact ⟨n + 1, x :: Q, by omega, .inr (by have := HI.out; omega), by have := HI.out.1; subst this; go_num, Lib.hid ⟨HE.out.1.below (drewN_below (Below.refl _ _) _), HE.out.2⟩⟩
          case measure => simp [intOf]; have := HI.out; omega
        · rw [List.concat_eq_append] at hP
          obtain ⟨k, hk⟩ : ∃ k, a + P'.length = k := ⟨_, rfl⟩
          have HK := Lib.hid (show (A ++ P').length = k by rw [List.length_append, HA.out, hk])
          have hPl : a + P.length = k + 1 := by rw [hP, List.length_append]; simp; omega
          have HT := Lib.hid (show InP base w0 wx g L cap ((A ++ P') ++ y :: x :: (Q ++ C)) by have := HJ.out.2.1; rw [hP] at this; simpa using this)
          have hm := two_mid HT.out HK.out
          have HXY := Lib.hid hm
          rw [hPl]
          have hkL := hm.2.2
          have hkz : (k : Int) + 1 < (L : Int) := by omega
          have hkz2 : (k : Int) < (L : Int) := by omega
          have hgt : (a : Int) < (k : Int) + 1 := by omega
          have HCE := Lib.hid (show ∀ W', On wx W' → (W'.cell? ⟨g, (k + 1) * 3, none⟩ = some (.int .i64 x.p) ∧ W'.cell? ⟨g, (k + 1) * 3 + 1, none⟩ = some (.int .u64 x.s) ∧ W'.cell? ⟨g, (k + 1) * 3 + 2, none⟩ = some (.int .u64 x.o)) ∧ (W'.cell? ⟨g, k * 3, none⟩ = some (.int .i64 y.p) ∧ W'.cell? ⟨g, k * 3 + 1, none⟩ = some (.int .u64 y.s) ∧ W'.cell? ⟨g, k * 3 + 2, none⟩ = some (.int .u64 y.o)) from fun W' hb => ⟨HT.out.cells HXY.out.2.1 W' hb, HT.out.cells HXY.out.1 W' hb⟩)
          have HPP := Lib.hid (And.intro hP (And.intro hk hPl))
          clear hm hP hk hPl
          by_cases hxy : x.p < y.p
          · have HO := Lib.hid (show ∀ W, Calls Try.prog 46 #[x.val, y.val] W fun e w' => e = .returned (.int .i64 (-1)) ∧ Below W.heap.size W w' from fun W => by have := order_any x y W; rwa [show cmpI x.p y.p = -1 by unfold cmpI; rw [if_pos hxy]] at this)
            have HXY2 := Lib.hid hxy
            clear hxy
            go_wp2_with fail
            refine region_on (by kernel_rfl) (by kernel_rfl) wx (Below.refl _ _) ?_
            repeat (first
              | go_big_quiet_skip
              | (go_big_quiet_want; go_big_quiet_op; (first
                | go_big_quiet_on
                | (apply Exists.intro; refine ⟨fun _ hC => ?_, ?_⟩; with_reducible (first
                    | exact rfl
                    | exact calls_on hC (HO.out _)
                    | (have hcell := HCE.out _ hC; simp only [hcell, Result.andThen]; (first | exact rfl | exact ⟨rfl, rfl⟩ | exact ⟨trivial, rfl⟩))); go_big_quiet_on))))
            refine wpQuiet_nil ?_
            intro wm hO
            obtain ⟨⟨c0, c1, c2⟩, c3, c4, c5⟩ := HCE.out wm hO
            obtain ⟨-, -, -, z3, z4, z5⟩ := (HT.out.below hO).fz (show k < L by omega)
            obtain ⟨-, -, -, z0, z1, z2⟩ := (HT.out.below hO).fz (show k + 1 < L by omega)
            have HWM := Lib.hid (show InP base w0 (put3 (put3 wm g ((k + 1) * 3) y) g (k * 3) x).drew g L cap ((A ++ P') ++ x :: y :: (Q ++ C)) from (HT.out.below hO).swb (V := []) HK.out rfl)
            clear hO
            go_wp2_with fail
            go_region
            go_wp2
            go_roundw
            case rel => exact ⟨P', y :: Q, by rw [HPP.out.2.1], Lib.hid ⟨by have h1 := HJ.out.1; have h2 := HPP.out.1; rw [h2, List.length_append] at h1; simp at h1 ⊢; omega, HWM.out, by
              have h1 := HJ.out.2.2.1; rw [HPP.out.1, List.append_assoc] at h1; exact h1.trans (St.swap (fun e => by have := HXY2.out; omega)), by
              have h1 := HJ.out.2.2.2.1; rw [HPP.out.1, List.append_assoc] at h1; exact h1, fun q hq => by
              rcases List.mem_cons.1 hq with rfl | hq
              · exact HXY2.out
              · exact HJ.out.2.2.2.2 q hq⟩⟩
            case measure => simp [intOf]
          · have HO := Lib.hid (show ∃ z : Int, 0 ≤ z ∧ ∀ W, Calls Try.prog 46 #[x.val, y.val] W fun e w' => e = .returned (.int .i64 z) ∧ Below W.heap.size W w' from ⟨_, by unfold cmpI; rw [if_neg hxy]; split <;> omega, fun W => order_any x y W⟩)
            obtain ⟨z, hz, hO1⟩ := HO.out
            have HO1 := Lib.hid hO1
            have HE := Lib.hid (HEND.out (by
              have h1 := HJ.out.2.2.2.1
              rw [HPP.out.1, List.append_assoc] at h1 ⊢
              exact srt_ins h1 (by omega) HJ.out.2.2.2.2))
            have hz2 : ¬ z < 0 := by omega
            clear hxy hO1 HO hz
            go_wp2_with fail
            refine region_on (by kernel_rfl) (by kernel_rfl) wx (Below.refl _ _) ?_
            repeat (first
              | go_big_quiet_skip
              | (go_big_quiet_want; go_big_quiet_op; (first
                | go_big_quiet_on
                | (apply Exists.intro; refine ⟨fun _ hC => ?_, ?_⟩; with_reducible (first
                    | exact rfl
                    | exact calls_on hC (HO1.out _)
                    | (have hcell := HCE.out _ hC; simp only [hcell, Result.andThen]; (first | exact rfl | exact ⟨rfl, rfl⟩ | exact ⟨trivial, rfl⟩))); go_big_quiet_on))))
            refine wpQuiet_nil ?_
            intro wm hO
            clear HCE
            go_wp2
            go_roundw
            case rel => exact ⟨n + 1, P ++ x :: Q, by omega, .inr (by have := HI.out; omega), by have := HI.out.1; subst this; go_num, Lib.hid ⟨HE.out.1.below hO, HE.out.2⟩⟩
            case measure => simp [intOf]; have := HI.out; omega
    · have HEND := Lib.hid (show InP base w0 wr g L cap (A ++ (S ++ B)) ∧ St M S ∧ Srt S from by
        have hl : M.length ≤ n := by have := HB.out; omega
        have := HR.out
        rwa [List.drop_of_length_le hl, List.take_of_length_le hl, List.nil_append] at this)
      have hltz : ¬ (I : Int) < (b : Int) := by omega
      go_wp2
      exact bodyPost_end (results_none rfl _ _ _) rfl ⟨rfl, S, HEND.out⟩
end Go.Proofs.Ytclchlcfcnlmhaa
