/- SeenOnce: the law. -/
import Derived.Test.YtclchlcfcnlmhaaOnceM
namespace Go.Proofs.Ytclchlcfcnlmhaa
open Go.RowKit Go.Maps Go.Shelf
set_option linter.unusedSimpArgs false
set_option maxRecDepth 100000 in
set_option maxHeartbeats 8000000 in
theorem once_any (v : Value) (l : List EN) (w : World) (hp : EsAt w v l) : Calls Try.prog 6 #[v] w fun e w' => e = .returned (.bool true) ∧ Below w.heap.size w w' := by
  have HP := Lib.hid hp
  have HLO := Lib.hid (long_any v l w hp)
  obtain ⟨a0, cap, rfl, hlen, -⟩ := hp
  obtain ⟨L, hL⟩ : ∃ L, l.length = L := ⟨_, rfl⟩
  rw [hL] at HP HLO hlen ⊢
  have HL := Lib.hid hL
  clear hL
  go_enter Try.func6, Try.ntmps6
  go_wp2_with fail
  refine HLO.out.mono ?_
  rintro e w1 ⟨b1, rfl, h1, hb1⟩
  have HB := Lib.hid hb1
  cases b1
  rotate_left
  · clear h1 hb1
    go_wp2_with fail
    refine (awake_any _).mono ?_
    rintro e wz ⟨rfl, hbz⟩
    have HZ := Lib.hid (HB.out.trans (hbz.mono HB.out.size))
    clear hbz
    go_wp2
    go_ret
    exact ⟨rfl, HZ.out⟩
  have HL1 := Lib.hid (h1 rfl)
  clear h1 hb1 HLO
  go_wp2_with fail
  go_loopw [3, 4, 5] (fun mv lv iv wr => ∃ (i : Nat) (R : List MK) (LG : List EN), i ≤ L ∧ iv = .int .i64 (i : Nat) ∧ Hid (OnceAt w wr mv lv R LG i)) (fun _ _ iv _ => L - (intOf iv).toNat)
  case atStart => exact ⟨0, [], [], Nat.zero_le _, rfl, ⟨World.ownsRow_nil _ _ _ _, World.ownsRow_nil _ _ _ _, fun b h => (by cases h), HB.out, Once.nil, Nat.le_refl _⟩⟩
  case round =>
    obtain ⟨i, R, LG, hi, rfl, HR⟩ := hrel
    by_cases hlt : i < L
    · obtain ⟨x, hx⟩ : ∃ x, l[i]? = some x := ⟨_, List.getElem?_eq_getElem (by rw [HL.out]; exact hlt)⟩
      have hltz : (i : Int) < (L : Int) := by omega
      have HXO := Lib.hid (HP.out.ok x (List.mem_of_getElem? hx))
      obtain ⟨b0, o0, rfl, -, hc⟩ := EsAt.cell HP.out hx
      have HC0 := Lib.hid (show ∀ W, Below w.heap.size w W → W.cell? ⟨b0, o0 + i * 3, none⟩ = some (.int .i64 x.p) ∧ W.cell? ⟨b0, o0 + i * 3 + 1, none⟩ = some (.int .u64 x.s) ∧ W.cell? ⟨b0, o0 + i * 3 + 2, none⟩ = some (.slice x.a x.n x.c) from hc)
      obtain ⟨c0, c1, c2⟩ := hc wr HR.out.bel
      clear hc hx
      have HMY := Lib.hid (remay_any x wr)
      by_cases hmay : x.may
      rotate_left
      · rw [decide_eq_false hmay] at HMY
        clear hmay
        go_wp2_with fail
        refine HMY.out.mono ?_
        rintro e wa ⟨rfl, hba⟩
        have hoa := HR.out.below hba
        have HOA := Lib.hid (show OnceAt w wa _ _ R LG (i + 1) from ⟨hoa.ms, hoa.ls, hoa.sep, hoa.bel, hoa.on, by have := hoa.len; omega⟩)
        clear hba hoa c0 c1 c2
        go_wp2
        go_roundw
        case rel => exact ⟨i + 1, R, LG, by omega, by go_num, HOA.out⟩
        case measure => simp [intOf]; omega
      · rw [decide_eq_true hmay] at HMY
        have HMX := Lib.hid hmay
        obtain ⟨n, hn⟩ : ∃ n, LG.length = n := ⟨_, rfl⟩
        obtain ⟨mv, rfl⟩ : ∃ mv, mv = u3 := ⟨_, rfl⟩
        obtain ⟨lv, rfl⟩ : ∃ lv, lv = u4 := ⟨_, rfl⟩
        obtain ⟨ma, mc, rfl, -⟩ := HR.out.mat.form
        obtain ⟨la, lc, rfl, hnl, -⟩ := HR.out.lat
        rw [hn] at HR ⊢
        have HN := Lib.hid hn
        have hnb : n ≤ 1000 := by have := HR.out.len; have := HL1.out; omega
        clear hmay
        go_wp2_with fail
        refine HMY.out.mono ?_
        rintro e wq ⟨rfl, hbq⟩
        have HQ := Lib.hid (HR.out.below hbq)
        obtain ⟨wh, at', hA⟩ : ∃ wh at', askV R x.p x.s = (wh, at') := ⟨_, _, rfl⟩
        have HASK := Lib.hid (show ∀ W, On wq W → Calls Try.prog 12 #[.slice ma R.length mc, .int .i64 x.p, .int .u64 x.s] W fun e w' => e = .returned (.tuple #[.int .i64 wh, .int .u64 at']) ∧ Below W.heap.size W w' from fun W hW => by
          have := ask_any _ R x.p x.s W (HQ.out.mat.below hW)
          rw [hA] at this
          exact this)
        have HC := Lib.hid (show ∀ W, On wq W → W.cell? ⟨b0, o0 + i * 3, none⟩ = some (.int .i64 x.p) ∧ W.cell? ⟨b0, o0 + i * 3 + 1, none⟩ = some (.int .u64 x.s) from fun W hW => by
          have := HC0.out W (HQ.out.bel.trans (Below.mono hW HQ.out.bel.size))
          exact ⟨this.1, this.2.1⟩)
        have HAA := Lib.hid hA
        clear hbq c0 c1 c2 hA hn hnl
        go_wp2_with fail
        refine region_on (by kernel_rfl) (by kernel_rfl) wq (Below.refl _ _) ?_
        repeat (first
          | go_big_quiet_skip
          | (go_big_quiet_want; go_big_quiet_op; (first
            | go_big_quiet_on
            | (apply Exists.intro; refine ⟨fun _ hC => ?_, ?_⟩; with_reducible (first
                | exact rfl
                | exact calls_on hC (HASK.out _ hC)
                | (have hcell := HC.out _ hC; simp only [hcell, Result.andThen]; (first | exact rfl | exact ⟨rfl, rfl⟩ | exact ⟨trivial, rfl⟩))); go_big_quiet_on))))
        refine wpQuiet_nil ?_
        intro wm hO
        have HOA := Lib.hid (HQ.out.below hO)
        have HWH := Lib.hid (show ∀ e ∈ LG, e.p = x.p → e.s = x.s → wh ≠ 0 from fun e he hp hs => by
          rcases HOA.out.on.cases x with ⟨_, _, h, -⟩ | ⟨h, -⟩ | ⟨h, -, hne, -⟩ | ⟨h, -⟩
          · rw [HAA.out] at h; cases h; decide
          · rw [HAA.out] at h; cases h; decide
          · exact absurd hs (hne e he hp)
          · rw [HAA.out] at h; cases h; decide)
        have HCX := Lib.hid (show ∀ W, Below wm.heap.size wm W → W.cell? ⟨b0, o0 + i * 3, none⟩ = some (.int .i64 x.p) ∧ W.cell? ⟨b0, o0 + i * 3 + 1, none⟩ = some (.int .u64 x.s) ∧ W.cell? ⟨b0, o0 + i * 3 + 2, none⟩ = some (.slice x.a x.n x.c) from fun W hW => HC0.out W (HOA.out.bel.trans (hW.mono HOA.out.bel.size)))
        clear hO
        obtain ⟨wo, rfl⟩ : ∃ wo : World, wo = wr := ⟨_, rfl⟩
        go_wp2
        go_loopw [8, 9] (fun lt kv wx => ∃ k : Nat, k ≤ n ∧ kv = .int .i64 (k : Nat) ∧ lt = .bool (later (LG.take k) x) ∧ Hid (Below wm.heap.size wm wx)) (fun _ kv _ => n - (intOf kv).toNat)
        case atStart => exact ⟨0, Nat.zero_le _, rfl, by simp [later], Below.refl _ _⟩
        case round =>
          obtain ⟨k, hk, rfl, rfl, HRI⟩ := hrel
          obtain ⟨wx, rfl⟩ : ∃ wx : World, wx = wr := ⟨_, rfl⟩
          have cl := HCX.out wx HRI.out
          have hoa := HOA.out.below HRI.out
          by_cases hkn : k < n
          · obtain ⟨e, he⟩ : ∃ e, LG[k]? = some e := ⟨_, List.getElem?_eq_getElem (by rw [HN.out]; exact hkn)⟩
            have hkz : (k : Int) < (n : Int) := by omega
            obtain ⟨bl, ol, hla, -, hcl⟩ := EsAt.cell hoa.lat he
            subst hla
            obtain ⟨q0, q1, q2⟩ := hcl wx (Below.refl _ _)
            obtain ⟨c0, c1, c2⟩ := cl
            have HLS := Lib.hid (later_snoc (x := x) he)
            have HWE := Lib.hid (HWH.out e (List.mem_of_getElem? he))
            have HBI := Lib.hid HRI.out
            clear hcl hoa he
            by_cases hp : e.p = x.p
            · have e0 : (e.p != x.p) = false := by simp [hp]
              have HLS := Lib.hid (show later (LG.take (k + 1)) x = (later (LG.take k) x || decide (x.s < e.s)) by rw [HLS.out, decide_eq_true hp, Bool.true_and])
              obtain ⟨lt, hlt'⟩ : ∃ lt, later (LG.take k) x = lt := ⟨_, rfl⟩
              rw [hlt'] at HLS ⊢
              clear hlt'
              by_cases hs : e.s = x.s
              · have e1 : (e.s == x.s) = true := by simp [hs]
                have e2 : (wh == 0) = false := by have := HWE.out hp hs; simp [this]
                clear hp hs
                cases lt
                · go_wp2_with fail
                  go_quiet (fail)
                  go_wp2_with fail
                  go_quiet (fail)
                  go_wp2_with fail
                  go_quiet (fail)
                  go_wp2
                  go_roundw
                  case rel => exact ⟨k + 1, by omega, by go_num, by rw [HLS.out]; simp, drewN_below HBI.out _⟩
                  case measure => simp [intOf]; omega
                · go_wp2_with fail
                  go_quiet (fail)
                  go_wp2_with fail
                  go_quiet (fail)
                  go_wp2_with fail
                  go_quiet (fail)
                  go_wp2
                  go_roundw
                  case rel => exact ⟨k + 1, by omega, by go_num, by rw [HLS.out]; simp, drewN_below HBI.out _⟩
                  case measure => simp [intOf]; omega
              · have e1 : (e.s == x.s) = false := by simp [hs]
                clear hp hs
                cases lt
                · go_wp2_with fail
                  go_quiet (fail)
                  go_wp2_with fail
                  go_quiet (fail)
                  go_wp2_with fail
                  go_quiet (fail)
                  go_wp2
                  go_roundw
                  case rel => exact ⟨k + 1, by omega, by go_num, by rw [HLS.out]; simp, drewN_below HBI.out _⟩
                  case measure => simp [intOf]; omega
                · go_wp2_with fail
                  go_quiet (fail)
                  go_wp2_with fail
                  go_quiet (fail)
                  go_wp2_with fail
                  go_quiet (fail)
                  go_wp2
                  go_roundw
                  case rel => exact ⟨k + 1, by omega, by go_num, by rw [HLS.out]; simp, drewN_below HBI.out _⟩
                  case measure => simp [intOf]; omega
            · have e0 : (e.p != x.p) = true := by simp [hp]
              have HLS := Lib.hid (show later (LG.take (k + 1)) x = later (LG.take k) x by rw [HLS.out, decide_eq_false hp, Bool.false_and, Bool.or_false])
              clear hp
              go_wp2_with fail
              go_quiet (fail)
              go_wp2
              go_roundw
              case rel => exact ⟨k + 1, by omega, by go_num, by rw [HLS.out], drewN_below HBI.out _⟩
              case measure => simp [intOf]; omega
          · obtain rfl : k = n := by omega
            have HLT : Hid (later (LG.take k) x = later LG x) := by unfold Hid; rw [take_all HN.out]
            rw [HLT.out]
            have HWX := Lib.hid hoa
            clear hoa
            rcases HOA.out.on.cases x with ⟨ka, ea, hA, hka, hkp, hks⟩ | ⟨hA, hlt'⟩ | ⟨hA, hlt', hne, hnew, hroom⟩ | ⟨hA, hlt', h6⟩
            · rw [HAA.out] at hA
              cases hA
              have hka' := (List.getElem?_eq_some_iff.1 hka).1
              have hkz : (ka : Int) < (k : Int) := by have := HN.out; omega
              obtain ⟨bl, ol, hla, -, hcl⟩ := EsAt.cell HWX.out.lat hka
              subst hla
              obtain ⟨q0, q1, q2⟩ := hcl wx (Below.refl _ _)
              obtain ⟨c0, c1, c2⟩ := cl
              have e0 : (ea.p != x.p) = false := by simp [hkp]
              have e1 : (ea.s != x.s) = false := by simp [hks]
              have hwn : IntKind.u64.wrap (k : Int) = (k : Int) := wrap_u64 (by omega) (by omega)
              have hle : decide ((k : Int) ≤ (ka : Int)) = false := decide_eq_false (by omega)
              have hle2 : decide (k ≤ ka) = false := decide_eq_false (by omega)
              have hle3 : ¬ k ≤ ka := by omega
              obtain ⟨lt, hlt'⟩ : ∃ lt, later LG x = lt := ⟨_, rfl⟩
              rw [hlt']
              have HZ := Lib.hid (fun q => (show OnceAt w (wx.drewN q) _ _ R LG (i + 1) from (fun h => ⟨h.ms, h.ls, h.sep, h.bel, h.on, by have := h.len; omega⟩) (HWX.out.below (drewN_below (Below.refl _ wx) q))))
              clear hka hkp hks hka' hcl hlt'
              go_wp2_with fail
              go_quiet (fail)
              go_wp2
              go_roundw
              case rel => exact ⟨i + 1, R, LG, by omega, by go_num, HZ.out _⟩
              case measure => simp [intOf]; omega
            · rw [HAA.out] at hA
              cases hA
              rw [hlt']
              have HZ := Lib.hid (show OnceAt w wx _ _ R LG (i + 1) from (fun h => ⟨h.ms, h.ls, h.sep, h.bel, h.on, by have := h.len; omega⟩) HWX.out)
              clear cl hlt'
              go_wp2
              go_roundw
              case rel => exact ⟨i + 1, R, LG, by omega, by go_num, HZ.out⟩
              case measure => simp [intOf]; omega
            · rw [HAA.out] at hA
              cases hA
              rw [hlt']
              have hnx := HWX.out.on.next HMX.out (by have := HN.out; omega) hnew hroom
              rw [HN.out] at hnx
              have hst : Stands (k : Int) [x] := .inr ⟨by simp; omega, fun e he => by rw [List.mem_singleton.1 he]; exact HMX.out⟩
              have HNX := Lib.hid (And.intro hnx hst)
              obtain ⟨R', hR'⟩ : ∃ R', merge R (stand (k : Int) [x]) = R' := ⟨_, rfl⟩
              have HRR := Lib.hid hR'
              obtain ⟨W1, hW1⟩ : ∃ W1, W1 = wx.alloc (.cells #[.int .i64 x.p, .int .u64 x.s, .slice x.a x.n x.c] 51) := ⟨_, rfl⟩
              have hb1 : Below wx.heap.size wx W1 := by rw [hW1]; exact Go.Joins.below_alloc1 wx _
              have HE1 := Lib.hid (show EsAt W1 (.slice (some ⟨wx.heap.size, 0, none⟩) 1 1) [x] from es_one HMX.out.ok (by rw [hW1]; exact BoxC.new wx 51 x.cells.toArray))
              have HB1 := Lib.hid hb1
              have HT := Lib.hid (take_any _ _ R (k : Int) [x] W1 ⟨by omega, by omega⟩ (HWX.out.mat.below hb1) HE1.out (by simp))
              have hwn : IntKind.u64.wrap (k : Int) = (k : Int) := wrap_u64 (by omega) (by omega)
              obtain ⟨c0, c1, c2⟩ := cl
              clear hnx hst hR' hb1 hne hnew hroom hlt'
              go_wp2_with fail
              rw [← hW1]
              clear hW1 c0 c1 c2
              refine HT.out.mono ?_
              rintro e w2 ⟨v2, z2, rfl, h2, hb2⟩
              have h2c := h2.cases HWX.out.on.may HNX.out.2
              rw [HRR.out] at h2c
              have hnx2 := HNX.out.1
              rw [HRR.out] at hnx2
              rcases h2c with ⟨-, rfl, o2⟩ | ⟨h, -⟩
              rotate_left
              · exfalso; have := hnx2.1; omega
              have HN2 := Lib.hid hnx2
              have HO2 := Lib.hid o2
              have HB2 := Lib.hid (HB1.out.trans (hb2.mono HB1.out.size))
              have HM2 := Lib.hid (mayR_any v2 R' w2 (o2.at (ms_ok hnx2.2.may)))
              clear h2 hb2 hnx2 o2 HT
              go_wp2_with fail
              refine HM2.out.mono ?_
              rintro e w3 ⟨b3, rfl, hb3', hb3⟩
              obtain rfl : b3 = true := hb3'.2 HN2.out.2.may
              have HB3 := Lib.hid (HB2.out.trans (hb3.mono HB2.out.size))
              have HO3 := Lib.hid (HO2.out.kept hb3 (Nat.le_refl _))
              have hw3 := HWX.out.below HB3.out
              obtain ⟨c0, c1, c2⟩ := HC0.out w3 hw3.bel
              have HW3 := Lib.hid hw3
              have HL4 := Lib.hid (show OwnEs w.heap.size (w3.alloc (.cells #[.int .i64 x.p, .int .u64 x.s, .slice x.a x.n x.c] 51)) (.slice la k lc) LG ∧ BoxC (w3.alloc (.cells #[.int .i64 x.p, .int .u64 x.s, .slice x.a x.n x.c] 51)) w3.heap.size 51 x.cells.toArray ∧ w.heap.size ≤ (w3.alloc (.cells #[.int .i64 x.p, .int .u64 x.s, .slice x.a x.n x.c] 51)).heap.size from
                ⟨(hw3.below (Go.Joins.below_alloc1 w3 _)).ls, BoxC.new w3 51 x.cells.toArray, (hw3.below (Go.Joins.below_alloc1 w3 _)).bel.size⟩)
              have HONE := Lib.hid (show ∀ u ∈ x.cells, u.oneCell' = true from fun u hu => es_oneCell [x] u (by simpa using hu))
              have HSM := Lib.hid (show LG.length + 1 ≤ 1000000 by have := HN.out; omega)
              clear hb3 hb3' hw3
              go_wp2_with (at_builtin; refine wpList_app_one rfl _ _ 38 51 3 40 _ EN.cells rfl Try.underlying38 info51 rfl (by decide) (by decide) (fun _ => rfl) w.heap.size _ LG x w3.heap.size rfl rfl HL4.out.1 HL4.out.2.1 HONE.out HSM.out HL4.out.2.2 ?_; intro g5 c5 w5 hg5; have HG5 := Lib.hid hg5; clear hg5)
              have HZ := Lib.hid (show OnceAt w w5 v2 (.slice (some ⟨g5, 0, none⟩) (LG.length + 1) c5) R' (LG ++ [x]) (i + 1) from once_next HWX.out HB1.out.size HB3.out HO3.out HN2.out.2 HG5.out)
              clear c0 c1 c2
              go_roundw
              case rel => exact ⟨i + 1, R', LG ++ [x], by omega, by go_num, HZ.out⟩
              case measure => simp [intOf]; omega
            · rw [HAA.out] at hA
              cases hA
              rw [hlt']
              have e6 : ((R.length : Int) != 6) = false := by simp; omega
              have HZ := Lib.hid (show OnceAt w wx _ _ R LG (i + 1) from (fun h => ⟨h.ms, h.ls, h.sep, h.bel, h.on, by have := h.len; omega⟩) HWX.out)
              clear cl hlt' h6
              go_wp2
              go_roundw
              case rel => exact ⟨i + 1, R, LG, by omega, by go_num, HZ.out⟩
              case measure => simp [intOf]; omega
    · obtain rfl : i = L := by omega
      have HB := Lib.hid HR.out.bel
      clear HR
      go_wp2_with fail
      refine (awake_any _).mono ?_
      rintro e wz ⟨rfl, hbz⟩
      have HZ := Lib.hid (HB.out.trans (hbz.mono HB.out.size))
      clear hbz
      go_wp2
      go_ret
      exact ⟨rfl, HZ.out⟩
end Go.Proofs.Ytclchlcfcnlmhaa
