/- Of what is alike beside each other the first one. -/
import Derived.Test.YtclchlcfcnlmhaaFm
namespace Go.Proofs.Ytclchlcfcnlmhaa
open Go.RowKit Go.Maps Go.Shelf
set_option linter.unusedSimpArgs false
set_option linter.unusedVariables false
theorem like_any (x y : MK) (w : World) : Calls Try.prog 49 #[x.val, y.val] w fun e w' => e = .returned (.bool (decide (x.p = y.p))) ∧ Below w.heap.size w w' := by
  obtain ⟨W, hW⟩ : ∃ W, W = (w.alloc (.cells #[.int .i64 x.p, .int .u64 x.s, .int .u64 x.o] 26)).alloc (.cells #[.int .i64 y.p, .int .u64 y.s, .int .u64 y.o] 26) := ⟨_, rfl⟩
  have HB := Lib.hid (show Below w.heap.size w W by rw [hW]; exact Go.Joins.below_alloc2 w _ _)
  have h1 : BoxC W w.heap.size 26 x.cells.toArray := by rw [hW]; exact (BoxC.new w 26 x.cells.toArray).alloc _
  have h2 : BoxC W (w.heap.size + 1) 26 y.cells.toArray := by rw [hW]; have := BoxC.new (w.alloc (.cells #[.int .i64 x.p, .int .u64 x.s, .int .u64 x.o] 26)) 26 y.cells.toArray; rwa [World.size_alloc] at this
  have x0 : W.cell? ⟨w.heap.size, 0, none⟩ = some (.int .i64 x.p) := h1.cell 0
  have y0 : W.cell? ⟨w.heap.size + 1, 0, none⟩ = some (.int .i64 y.p) := h2.cell 0
  have hbq : (x.p == y.p) = decide (x.p = y.p) := by by_cases h : x.p = y.p <;> simp [h]
  clear h1 h2
  go_enter Try.func49, Try.ntmps49
  go_upto_region 1 with fail
  rw [← hW]
  clear hW
  go_wp2
  go_ret
  exact ⟨by first | rfl | rw [hbq] | simp, HB.out⟩
def keeps (T : List MK) (n : Nat) : Prop := n = 0 ∨ (T.getD n default).p ≠ (T.getD (n - 1) default).p
instance (T : List MK) (n : Nat) : Decidable (keeps T n) := by unfold keeps; infer_instance
/-- of the first n: those that are not as the one before -/
def cpt (T : List MK) : Nat → List MK
  | 0 => []
  | n + 1 => cpt T n ++ if keeps T n then [T.getD n default] else []
theorem cpt_len (T : List MK) : ∀ n, (cpt T n).length ≤ n
  | 0 => Nat.le_refl _
  | n + 1 => by have := cpt_len T n; rw [cpt, List.length_append]; split <;> simp <;> omega
theorem keeps_iff {T : List MK} {n : Nat} {x z : MK} (hx : T[n + 1]? = some x) (hz : T[n]? = some z) : keeps T (n + 1) ↔ x.p ≠ z.p := by
  unfold keeps
  rw [Nat.add_sub_cancel, List.getD_eq_getElem?_getD, hx, List.getD_eq_getElem?_getD, hz]
  simp
theorem cpt_keep {T : List MK} {n : Nat} {x z : MK} (hx : T[n + 1]? = some x) (hz : T[n]? = some z) (h : x.p ≠ z.p) : cpt T (n + 1 + 1) = cpt T (n + 1) ++ [x] := by
  rw [cpt, if_pos ((keeps_iff hx hz).2 h), List.getD_eq_getElem?_getD, hx]; rfl
theorem cpt_skip {T : List MK} {n : Nat} {x z : MK} (hx : T[n + 1]? = some x) (hz : T[n]? = some z) (h : x.p = z.p) : cpt T (n + 1 + 1) = cpt T (n + 1) := by
  rw [cpt, if_neg (fun e => (keeps_iff hx hz).1 e h), List.append_nil]
theorem cpt_one {T : List MK} {x : MK} (hx : T[0]? = some x) : cpt T 1 = T.take 1 := by
  rw [cpt, cpt, if_pos (.inl rfl), List.getD_eq_getElem?_getD, hx, take_snoc hx]; rfl
theorem KeptAt.any {w : World} {g cap : Nat} {l : List MK} {cur : Array Value} (hg : w.heap[g]? = some (.cells cur 26 (0, 0))) (hcs : cur.size = cap * 3) (htake : cur.toList.take (l.length * 3) = l.flatMap MK.cells) (k j : Nat) : KeptAt w g cap l j (l.take k) := by
  have hcell : ∀ (t : Nat) x, l[t]? = some x → ∀ r, r < 3 → cur[t * 3 + r]? = x.cells[r]? := fun t x hx r hr => by
    have htl := (List.getElem?_eq_some_iff.1 hx).1
    have e : (cur.toList.take (l.length * 3))[t * 3 + r]? = (l.flatMap MK.cells)[t * 3 + r]? := by rw [htake]
    rw [List.getElem?_take_of_lt (by omega), Array.getElem?_toList, flat_at (k := 3) (enc := MK.cells) (fun _ => rfl) _ _ _ hr, hx] at e
    exact e
  exact ⟨cur, hg, hcs, fun t x hx => hcell t x (by rw [List.getElem?_take] at hx; split at hx; exact hx; cases hx), fun t x _ hx => hcell t x hx⟩
def likeV : Value := .func (.func 49) #[] #[]
set_option maxRecDepth 100000 in
set_option maxHeartbeats 4000000 in
theorem compact_any (base : Nat) (w0 : World) (g L cap : Nat) (T : List MK) (w : World) (h : InP base w0 w g L cap T) (hL : L ≤ 100000) :
    Calls Try.prog 48 #[.slice (some ⟨g, 0, none⟩) L cap, likeV] w fun e w' => e = .returned (.slice (some ⟨g, 0, none⟩) (cpt T L).length cap) ∧ OwnMs base w' (.slice (some ⟨g, 0, none⟩) (cpt T L).length cap) (cpt T L) ∧ Chg (fun k => k = g) w0 w' := by
  have H := Lib.hid h
  have hen := enters_of (P := Try.prog) (f := 49) Try.func49 (by kernel_rfl) rfl
  rcases h.own.2 with ⟨h0, _⟩ | ⟨g', cap', cur, hv, hbg, hg, hnc, hcm, hcs, htake⟩
  · cases h0
  · rw [h.len] at hv hnc
    cases hv
    have HL := Lib.hid h.len
    have hgl := (Array.getElem?_eq_some_iff.1 hg).1
    have HK := Lib.hid (show ∀ k j, KeptAt w g cap T j (T.take k) from fun k j => KeptAt.any hg hcs htake k j)
    have HG := Lib.hid (And.intro hgl (And.intro hbg (And.intro hcm hnc)))
    clear h hg hcs htake hgl hbg hcm hnc
    unfold likeV
    by_cases hsm : L < 2
    · have HE := Lib.hid (show cpt T L = T from by
        have hl := HL.out
        rcases (show L = 0 ∨ L = 1 by omega) with rfl | rfl
        · rw [List.eq_nil_of_length_eq_zero hl]; rfl
        · obtain ⟨x, rfl⟩ := List.length_eq_one_iff.1 hl; rfl)
      have HW := Lib.hid (show T.length = L ∧ OwnMs base w (.slice (some ⟨g, 0, none⟩) L cap) T ∧ Chg (fun k => k = g) w0 w from ⟨HL.out, H.out.own, H.out.chg⟩)
      have hsz : (L : Int) < 2 := by omega
      rw [HE.out, HW.out.1]
      go_enter Try.func48, Try.ntmps48
      go_wp2
      go_ret
      exact ⟨rfl, HW.out.2⟩
    · have hsz : ¬ (L : Int) < 2 := by omega
      go_enter Try.func48, Try.ntmps48
      go_wp2
      go_loopw [5] (fun iv wr => ∃ q : Nat, q + 1 ≤ L ∧ iv = .int .i64 ((q + 1 : Nat) : Int) ∧ Hid (On w wr ∧ cpt T (q + 1) = T.take (q + 1))) (fun iv _ => L - (intOf iv).toNat)
      case atStart => exact ⟨0, by omega, rfl, Lib.hid ⟨Below.refl _ _, by have := HL.out; exact cpt_one (List.getElem?_eq_getElem (by omega))⟩⟩
      case round =>
        obtain ⟨q, hq, rfl, HR⟩ := hrel
        obtain ⟨wx, rfl⟩ : ∃ wx : World, wx = wr := ⟨_, rfl⟩
        by_cases hlt : q + 1 < L
        · have hltz : (q : Int) + 1 < (L : Int) := by omega
          have hqL : (q : Int) < (L : Int) := by omega
          obtain ⟨x, hx⟩ : ∃ x, T[q + 1]? = some x := ⟨_, List.getElem?_eq_getElem (by have := HL.out; omega)⟩
          obtain ⟨z, hz⟩ : ∃ z, T[q]? = some z := ⟨_, List.getElem?_eq_getElem (by have := HL.out; omega)⟩
          have HT := Lib.hid (H.out.below HR.out.1)
          have HXZ := Lib.hid (And.intro hx hz)
          have HCE := Lib.hid (show ∀ W', On wx W' → (W'.cell? ⟨g, (q + 1) * 3, none⟩ = some (.int .i64 x.p) ∧ W'.cell? ⟨g, (q + 1) * 3 + 1, none⟩ = some (.int .u64 x.s) ∧ W'.cell? ⟨g, (q + 1) * 3 + 2, none⟩ = some (.int .u64 x.o)) ∧ (W'.cell? ⟨g, q * 3, none⟩ = some (.int .i64 z.p) ∧ W'.cell? ⟨g, q * 3 + 1, none⟩ = some (.int .u64 z.s) ∧ W'.cell? ⟨g, q * 3 + 2, none⟩ = some (.int .u64 z.o)) from fun W' hb => ⟨HT.out.cells HXZ.out.1 W' hb, HT.out.cells HXZ.out.2 W' hb⟩)
          have HO := Lib.hid (show ∀ W, Calls Try.prog 49 #[x.val, z.val] W fun e w' => e = .returned (.bool (decide (x.p = z.p))) ∧ Below W.heap.size W w' from fun W => like_any x z W)
          clear hx hz
          by_cases hxz : x.p = z.p
          · rw [decide_eq_true hxz] at HO
            have HEQ := Lib.hid hxz
            clear hxz
            go_wp2_with fail
            refine region_on (by kernel_rfl) (by kernel_rfl) wx (Below.refl _ _) ?_
            repeat (first
              | go_big_quiet_skip
              | (go_big_quiet_want; go_big_quiet_op; (first
                | go_big_quiet_on
                | (apply Exists.intro; refine ⟨fun _ hC => ?_, ?_⟩; with_reducible (first
                    | exact rfl
                    | exact calls_on hC (HO.out _)
                    | (have hcell := HCE.out _ hC; simp only [hcell, Result.andThen]; (first | exact rfl | exact ⟨rfl, rfl⟩ | exact ⟨trivial, rfl⟩))); go_big_quiet_on))))
            refine wpQuiet_nil ?_
            intro wm hO
            clear HCE
            obtain ⟨s, hs⟩ : ∃ s, q + 1 = s := ⟨_, rfl⟩
            have hcq : q + 1 < cap := by have := HG.out; omega
            obtain ⟨N2, hN2⟩ : ∃ N2, L - (q + 1) = N2 := ⟨_, rfl⟩
            have H0 := Lib.hid (show cpt T (s + 1) = T.take s from by rw [← hs, cpt_skip HXZ.out.1 HXZ.out.2 HEQ.out, HR.out.2])
            have HSN := Lib.hid (And.intro hs (And.intro hN2 (And.intro hlt hcq)))
            have HWM := Lib.hid (HR.out.1.trans (hO.mono (Below.size HR.out.1)))
            have hsc : s < cap := by omega
            have hsl : s < L := by omega
            have hN2' : L - s = N2 := by omega
            rw [show q + 1 = s from hs]
            clear hO hltz hqL hcq hq hlt hN2 hs
            go_wp2
            go_loopw [5, 7] (fun iv kv wr => ∃ t : Nat, t + 1 ≤ N2 ∧ kv = .int .i64 ((t + 1 : Nat) : Int) ∧ iv = .int .i64 ((cpt T (s + t + 1)).length : Nat) ∧ Hid (Chg (fun k => k = g) w0 wr ∧ KeptAt wr g cap T (s + t) (cpt T (s + t + 1)) ∧ (cpt T (s + t + 1)).length ≤ s + t)) (fun _ kv _ => N2 - (intOf kv).toNat)
            case atStart =>
              have hl : (T.take s).length = s := by rw [List.length_take]; have := HL.out; omega
              refine ⟨0, by omega, rfl, ?_, Lib.hid ⟨H.out.chg.trans (Chg.of_below HWM.out (Nat.le_refl _)), ?_, ?_⟩⟩
              · rw [Nat.add_zero, H0.out, hl]
              · rw [Nat.add_zero, H0.out]; exact (HK.out s s).chg (HWM.out.block g HG.out.1)
              · rw [Nat.add_zero, H0.out, hl]; exact Nat.le_refl _
            case round =>
              obtain ⟨t, ht, rfl, rfl, HJ⟩ := hrel
              obtain ⟨wx, rfl⟩ : ∃ wx : World, wx = wr := ⟨_, rfl⟩
              obtain ⟨F, hF⟩ : ∃ F, cpt T (s + t + 1) = F := ⟨_, rfl⟩
              rw [hF] at HJ ⊢
              have HFF := Lib.hid hF
              obtain ⟨i, hi⟩ : ∃ i, F.length = i := ⟨_, rfl⟩
              have HI := Lib.hid hi
              rw [hi]
              have hit : i ≤ s + t := by have := HJ.out.2.2; omega
              have hgx : g < wx.heap.size := by have := HJ.out.1.size; have := H.out.lt; omega
              clear hF hi
              by_cases hlt2 : t + 1 < N2
              · have hltz : (t : Int) + 1 < (N2 : Int) := by omega
                have htz : (t : Int) < (N2 : Int) := by omega
                obtain ⟨y, hy⟩ : ∃ y, T[s + t + 1]? = some y := ⟨_, List.getElem?_eq_getElem (by have := HL.out; omega)⟩
                obtain ⟨v, hv⟩ : ∃ v, T[s + t]? = some v := ⟨_, List.getElem?_eq_getElem (by have := HL.out; omega)⟩
                have HYV := Lib.hid (And.intro hy hv)
                have HKX := Lib.hid (show ∀ W', On wx W' → KeptAt W' g cap T (s + t) F from fun W' hb => HJ.out.2.1.chg (hb.block g hgx))
                have HCE := Lib.hid (show ∀ W', On wx W' → (W'.cell? ⟨g, s * 3 + (t + 1) * 3, none⟩ = some (.int .i64 y.p) ∧ W'.cell? ⟨g, s * 3 + (t + 1) * 3 + 1, none⟩ = some (.int .u64 y.s) ∧ W'.cell? ⟨g, s * 3 + (t + 1) * 3 + 2, none⟩ = some (.int .u64 y.o)) ∧ (W'.cell? ⟨g, s * 3 + t * 3, none⟩ = some (.int .i64 v.p) ∧ W'.cell? ⟨g, s * 3 + t * 3 + 1, none⟩ = some (.int .u64 v.s) ∧ W'.cell? ⟨g, s * 3 + t * 3 + 2, none⟩ = some (.int .u64 v.o)) from fun W' hb => by
                  have k := HKX.out W' hb
                  have a1 : s * 3 + (t + 1) * 3 = (s + t + 1) * 3 := by omega
                  have a2 : s * 3 + t * 3 = (s + t) * 3 := by omega
                  rw [a1, a2]
                  exact ⟨⟨k.skip.cell HYV.out.1 0 (by omega), k.skip.cell HYV.out.1 1 (by omega), k.skip.cell HYV.out.1 2 (by omega)⟩, k.cell HYV.out.2 0 (by omega), k.cell HYV.out.2 1 (by omega), k.cell HYV.out.2 2 (by omega)⟩)
                have HO := Lib.hid (show ∀ W, Calls Try.prog 49 #[y.val, v.val] W fun e w' => e = .returned (.bool (decide (y.p = v.p))) ∧ Below W.heap.size W w' from fun W => like_any y v W)
                clear hy hv hgx
                by_cases hyv : y.p = v.p
                · rw [decide_eq_true hyv] at HO
                  have HEQ := Lib.hid (show cpt T (s + t + 1 + 1) = F from by rw [cpt_skip HYV.out.1 HYV.out.2 hyv]; exact HFF.out)
                  clear hyv
                  go_wp2_with fail
                  refine region_on (by kernel_rfl) (by kernel_rfl) wx (Below.refl _ _) ?_
                  repeat (first
                    | go_big_quiet_skip
                    | (go_big_quiet_want; go_big_quiet_op; (first
                      | go_big_quiet_on
                      | (apply Exists.intro; refine ⟨fun _ hC => ?_, ?_⟩; with_reducible (first
                          | exact rfl
                          | exact calls_on hC (HO.out _)
                          | (have hcell := HCE.out _ hC; simp only [hcell, Result.andThen]; (first | exact rfl | exact ⟨rfl, rfl⟩ | exact ⟨trivial, rfl⟩))); go_big_quiet_on))))
                  refine wpQuiet_nil ?_
                  intro wm hO
                  clear HCE
                  have HOK := Lib.hid (And.intro (HKX.out wm hO) (HJ.out.1.trans (Chg.of_below hO (Nat.le_refl _))))
                  clear hO
                  go_wp2
                  go_roundw
                  case rel => exact ⟨t + 1, by omega, by go_num, by rw [show s + (t + 1) + 1 = s + t + 1 + 1 by omega, HEQ.out, HI.out], Lib.hid ⟨HOK.out.2, by rw [show s + (t + 1) + 1 = s + t + 1 + 1 by omega, HEQ.out]; exact HOK.out.1.skip, by rw [show s + (t + 1) + 1 = s + t + 1 + 1 by omega, HEQ.out, HI.out]; omega⟩⟩
                  case measure => simp [intOf]; omega
                · rw [decide_eq_false hyv] at HO
                  have HEQ := Lib.hid (show cpt T (s + t + 1 + 1) = F ++ [y] from by rw [cpt_keep HYV.out.1 HYV.out.2 hyv]; rw [HFF.out])
                  clear hyv
                  go_wp2_with fail
                  refine region_on (by kernel_rfl) (by kernel_rfl) wx (Below.refl _ _) ?_
                  repeat (first
                    | go_big_quiet_skip
                    | (go_big_quiet_want; go_big_quiet_op; (first
                      | go_big_quiet_on
                      | (apply Exists.intro; refine ⟨fun _ hC => ?_, ?_⟩; with_reducible (first
                          | exact rfl
                          | exact calls_on hC (HO.out _)
                          | (have hcell := HCE.out _ hC; simp only [hcell, Result.andThen]; (first | exact rfl | exact ⟨rfl, rfl⟩ | exact ⟨trivial, rfl⟩))); go_big_quiet_on))))
                  refine wpQuiet_nil ?_
                  intro wm hO
                  obtain ⟨⟨c0, c1, c2⟩, -⟩ := HCE.out wm hO
                  have k2 := HKX.out wm hO
                  have kf := k2.fz
                  have hil : i < L := by have := HSN.out; omega
                  have hic : i < cap := by have := HG.out.2.2.2; omega
                  obtain ⟨e0, d0⟩ := k2.has (i * 3) (by omega)
                  obtain ⟨e1, d1⟩ := k2.has (i * 3 + 1) (by omega)
                  obtain ⟨e2, d2⟩ := k2.has (i * 3 + 2) (by omega)
                  have HOK := Lib.hid (show KeptAt (put3 wm g (i * 3) y) g cap T (s + t + 1) (F ++ [y]) ∧ Chg (fun k => k = g) w0 (put3 wm g (i * 3) y) from
                    ⟨by have := k2.keep y (by rw [HI.out]; exact hit) (by have := HSN.out; have := HG.out.2.2.2; omega); rw [HI.out] at this; exact this, put3_chg (HJ.out.1.trans (Chg.of_below hO (Nat.le_refl _))) g _ y (.inl rfl)⟩)
                  clear HCE hO k2 HKX
                  go_wp2
                  go_roundw
                  case rel => exact ⟨t + 1, by omega, by go_num, by rw [show s + (t + 1) + 1 = s + t + 1 + 1 by omega, HEQ.out, List.length_append, HI.out]; go_num, Lib.hid ⟨HOK.out.2, by rw [show s + (t + 1) + 1 = s + t + 1 + 1 by omega, HEQ.out]; exact HOK.out.1, by rw [show s + (t + 1) + 1 = s + t + 1 + 1 by omega, HEQ.out, List.length_append, HI.out]; simp; omega⟩⟩
                  case measure => simp [intOf]; omega
              · have hltz : ¬ (t : Int) + 1 < (N2 : Int) := by omega
                have hil : i < L := by have := HSN.out; omega
                have hFA : cpt T L = F := by rw [← HFF.out, show s + t + 1 = L by have := HSN.out; omega]
                have hk2 := HJ.out.2.1
                have hLc : L ≤ cap := HG.out.2.2.2
                have k := fun ty c => run_clear_ps wx ty g (i * 3) (L - i) c (by omega) (fun n hn => ⟨by obtain ⟨e, he⟩ := hk2.has (i * 3 + n) (by omega); rw [he]; rfl, hk2.fz _⟩)
                have HE := Lib.hid (show (cpt T L).length = i ∧ OwnMs base (wx.setCells g (i * 3) (zRows (L - i))) (.slice (some ⟨g, 0, none⟩) i cap) (cpt T L) ∧ Chg (fun k => k = g) w0 (wx.setCells g (i * 3) (zRows (L - i))) from by
                  have h := hk2.done (base := base) (zRows (L - i)) (by rw [HI.out, zRows_len]; omega) HG.out.2.2.1 HG.out.2.1
                  rw [HI.out] at h
                  exact ⟨by rw [hFA]; exact HI.out, by rw [hFA]; exact h, chg_setCells g _ _ _ _ HJ.out.1 rfl⟩)
                have hic : i < cap := by omega
                clear hFA hk2 HJ hlt2
                go_wp2
                go_ret
                rw [HE.out.1]
                exact ⟨rfl, HE.out.2.1, HE.out.2.2⟩
          · rw [decide_eq_false hxz] at HO
            have HEQ := Lib.hid hxz
            clear hxz
            go_wp2_with fail
            refine region_on (by kernel_rfl) (by kernel_rfl) wx (Below.refl _ _) ?_
            repeat (first
              | go_big_quiet_skip
              | (go_big_quiet_want; go_big_quiet_op; (first
                | go_big_quiet_on
                | (apply Exists.intro; refine ⟨fun _ hC => ?_, ?_⟩; with_reducible (first
                    | exact rfl
                    | exact calls_on hC (HO.out _)
                    | (have hcell := HCE.out _ hC; simp only [hcell, Result.andThen]; (first | exact rfl | exact ⟨rfl, rfl⟩ | exact ⟨trivial, rfl⟩))); go_big_quiet_on))))
            refine wpQuiet_nil ?_
            intro wm hO
            clear HCE
            have HOK := Lib.hid hO
            clear hO
            go_wp2
            go_roundw
            case rel => exact ⟨q + 1, by omega, by go_num, Lib.hid ⟨HR.out.1.trans (HOK.out.mono (Below.size HR.out.1)), by rw [cpt_keep HXZ.out.1 HXZ.out.2 HEQ.out, HR.out.2, take_snoc HXZ.out.1]⟩⟩
            case measure => simp [intOf]; omega
        · obtain rfl : L = q + 1 := by omega
          have hltz : ¬ (q : Int) + 1 < ((q + 1 : Nat) : Int) := by omega
          have HE := Lib.hid (show cpt T (q + 1) = T from by rw [HR.out.2, List.take_of_length_le (by have := HL.out; omega)])
          have HW := Lib.hid (show T.length = q + 1 ∧ OwnMs base wx (.slice (some ⟨g, 0, none⟩) (q + 1) cap) T ∧ Chg (fun k => k = g) w0 wx from ⟨HL.out, (H.out.below HR.out.1).own, (H.out.below HR.out.1).chg⟩)
          go_wp2
          go_ret
          rw [HE.out, HW.out.1]
          exact ⟨rfl, HW.out.2⟩
end Go.Proofs.Ytclchlcfcnlmhaa
