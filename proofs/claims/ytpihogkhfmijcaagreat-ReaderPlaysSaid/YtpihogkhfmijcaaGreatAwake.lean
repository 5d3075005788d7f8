/- awake. -/
import Derived.Test.YtpihogkhfmijcaaGreatPg
import Derived.Test.YtpihogkhfmijcaaGreatFSame
import Derived.Deep.RegionHeldLaw
namespace Go.Proofs.YtpihogkhfmijcaaGreat
open Go.RowKit Go.Maps Go.Shelf
set_option linter.unusedSimpArgs false
theorem says_0 (code node : Int) (hn : 0 ≤ node ∧ node ≤ 100) (w : World) : Calls Tryz.prog 20 #[.int .i64 code, .int .i64 node, .string ⟨#[]⟩] w fun e w' => ∃ a c, e = .returned (RsV.mk ⟨node, 1⟩ 3 code 1 2 5 0 a c []).val ∧ (RsV.mk ⟨node, 1⟩ 3 code 1 2 5 0 a c []).ok w' ∧ Below w.heap.size w w' := says_any code node [] (by decide) hn w
theorem says_x (code node : Int) (hn : 0 ≤ node ∧ node ≤ 100) (w : World) : Calls Tryz.prog 20 #[.int .i64 code, .int .i64 node, .string ⟨#[120]⟩] w fun e w' => ∃ a c, e = .returned (RsV.mk ⟨node, 1⟩ 3 code 1 2 5 0 a c [120]).val ∧ (RsV.mk ⟨node, 1⟩ 3 code 1 2 5 0 a c [120]).ok w' ∧ Below w.heap.size w w' := says_any code node [120] (by decide) hn w
theorem St.z {w0 W Z : World} {g : Nat} {y : FeV} {m : FeM} (_ : St w0 W g y m) (hb : Below W.heap.size W Z) : Below W.heap.size W Z := hb
theorem St.take {w0 W : World} {g : Nat} {y : FeV} {m : FeM} (h : St w0 W g y m) (hi : m.In) (hl : m.body.length ≤ 100000) (now : Int) (hn : u64ok now) (r : RsV) (hr : r.ok W) (hb : r.body.length ≤ 100000) {M : FeM × List RqM} (hM : m.still (m.takeM now r) = M) :
    Calls Tryz.prog 15 #[y.val, .int .u64 now, r.val] W fun e w' => FetPost M W e w' := by
  have e := h.m
  have := Take_any y now hn W h.ok (by rw [e]; exact hi) (by have : y.m.body.length ≤ 100000 := by rw [e]; exact hl
                                                             exact this) r hr hb
  rw [e, hM] at this
  exact this
theorem St.tick {w0 W : World} {g : Nat} {y : FeV} {m : FeM} (h : St w0 W g y m) (hi : m.In) (hl : m.body.length ≤ 100000) (now : Int) (hn : u64ok now) {M : FeM × List RqM} (hM : m.still (m.tickM now) = M) :
    Calls Tryz.prog 11 #[y.val, .int .u64 now] W fun e w' => FetPost M W e w' := by
  have e := h.m
  have := Tick_any y now hn W h.ok (by rw [e]; exact hi) (by have : y.m.body.length ≤ 100000 := by rw [e]; exact hl
                                                             exact this)
  rw [e, hM] at this
  exact this

set_option maxRecDepth 100000 in
set_option maxHeartbeats 16000000 in
theorem awake_any (w : World) : Calls Tryz.prog 5 #[] w fun e w' => e = .returned (.bool true) ∧ Below w.heap.size w w' := by
  have HT := Lib.hid (three_any w)
  go_enter Tryz.func5, Tryz.ntmps5
  go_wp2_with fail
  refine HT.out.mono ?_
  rintro e w1 ⟨a, b, rfl, hfs, hb1⟩
  have HN := Lib.hid (New_any (threeV a b) 2 5 3 w1 hfs (fun x hx => by simp [threeV] at hx; subst hx; show 3 ≤ 100000; omega) (by unfold u64ok threeV; dsimp only; omega) (by unfold u64ok; omega) (by unfold u64ok; omega) (by unfold u64ok; omega))
  have HB1 := Lib.hid hb1
  clear hb1 hfs HT
  go_wp2_with fail
  refine HN.out.mono ?_
  rintro e w2 hq
  obtain ⟨-, y, ra, rc, rfl, hm, hok, hrq, hb2, -⟩ := hq.resolve_right (fun h => h.1 (ok_three a b))
  rw [new_three] at hm hrq
  obtain ⟨g, hg⟩ : ∃ g, w2.heap.size = g := ⟨_, rfl⟩
  have hS := St.new (w0 := w) (HB1.out.trans (hb2.mono HB1.out.size)) hok hm
  have hR := Rq.new hrq (by decide) (.cells y.cs.toArray 32)
  clear hm hok hrq hb2 HN HB1 hq
  unfold FeV.cs at hS hR
  rw [hg] at hS hR
  go_wp2_with fail
  rename_i Q2 K2 hK2
  have HKK2 : Hid (∀ (u8 u9 u10 u11 u12 u13 u14 u15 u16 u17 u18 u19 : Value) (rb : Option Addr) (rcb : Nat) (y2 : FeV) (X : World), St w X g y2 (fe 0 3 0 []) → Rq X g ra rc [asks p8] → K2 { tmps := #[.bool false, pg g, .slice ra 1 rc, .int .i64 0, .slice rb 0 rcb, undef, undef, undef, u8, u9, u10, u11, u12, u13, u14, u15, u16, u17, u18, u19, undef, undef, undef, undef, undef, undef, undef, undef, undef, undef, undef, undef, undef, undef, undef, undef, undef, undef, undef, undef, undef, undef, undef, undef, undef, undef, undef, undef, undef, undef, undef, undef, undef, undef, undef, undef, undef, undef, undef, undef, undef, undef, undef, undef, undef, undef, undef, undef, undef, undef, undef, undef, undef, undef, undef, undef, undef, undef, undef, undef, undef, undef, undef, undef, undef, undef, undef, undef, undef, undef, undef, undef, undef, undef, undef, undef, undef, undef, undef, undef, undef, undef, undef, undef], defers := [] } X) := by
    intro u8 u9 u10 u11 u12 u13 u14 u15 u16 u17 u18 u19 rb rcb y X hS hR
    have HS := Lib.hid hS
    have HR := Lib.hid hR
    obtain ⟨c0, c1, c2, c3, c4, c5, c6, c7⟩ := hS.c8
    clear hS hR
    refine hK2 _ _ ?_
    clear hK2
    go_wp2_with fail
    rename_i Q3 K3 hK3
    have HKK3 : Hid (∀ (u8 u9 u10 u11 u12 u13 u14 u15 u16 u17 u18 u19 u20 u21 u22 u23 u24 u25 : Value) (rd : Option Addr) (rcd : Nat) (y2 : FeV) (X : World), St w X g y2 (fe 1 3 0 []) → Rq X g ra rc [asks p8] → Rq X g rd rcd [asks p9] → K3 { tmps := #[.bool false, pg g, .slice ra 1 rc, .int .i64 0, .slice rb 0 rcb, .slice rd 1 rcd, undef, undef, u8, u9, u10, u11, u12, u13, u14, u15, u16, u17, u18, u19, u20, u21, u22, u23, u24, u25, undef, undef, undef, undef, undef, undef, undef, undef, undef, undef, undef, undef, undef, undef, undef, undef, undef, undef, undef, undef, undef, undef, undef, undef, undef, undef, undef, undef, undef, undef, undef, undef, undef, undef, undef, undef, undef, undef, undef, undef, undef, undef, undef, undef, undef, undef, undef, undef, undef, undef, undef, undef, undef, undef, undef, undef, undef, undef, undef, undef, undef, undef, undef, undef, undef, undef, undef, undef, undef, undef, undef, undef, undef, undef, undef, undef, undef, undef], defers := [] } X) := by
      intro u8 u9 u10 u11 u12 u13 u14 u15 u16 u17 u18 u19 u20 u21 u22 u23 u24 u25 rd rcd y X hS hR hR2
      have HS := Lib.hid hS
      have HR := Lib.hid (And.intro hR hR2)
      obtain ⟨c0, c1, c2, c3, c4, c5, c6, c7⟩ := hS.c8
      have HTK := Lib.hid (hS.tick (fe_in _ _ _ _ (by decide)) (by decide) 5 (by unfold u64ok; omega) step_d)
      clear hS hR hR2
      refine hK3 _ _ ?_
      clear hK3
      go_wp2_with fail
      refine HTK.out.mono ?_
      rintro e wy ⟨y2, re, rce, rfl, q1, q2, q3, q4, q5⟩
      have HF := Lib.hid (HS.out.next (Below.refl _ _) q1 q2 q3 q4 q5)
      have hz2 := HS.out.below q4
      clear c0 c1 c2 c3 c4 c5 c6 c7 q1 q2 q3 q4 q5
      obtain ⟨c0, c1, c2, c3, c4, c5, c6, c7⟩ := hz2.c8
      have f0 := hz2.fz
      unfold put8n at HF
      clear hz2 HTK
      have HTK2 := Lib.hid (HF.out.1.tick (fe_in _ _ _ _ (by decide)) (by decide) 6 (by unfold u64ok; omega) step_g)
      have HR2 := Lib.hid (And.intro (HR.out.1.ch1 HF.out.2.2) (HR.out.2.ch1 HF.out.2.2))
      clear HR
      go_wp2_with fail
      refine HTK2.out.mono ?_
      rintro e wx ⟨y3, rg, rcg, rfl, q1, q2, q3, q4, q5⟩
      have HG := Lib.hid (HF.out.1.next (Below.refl _ _) q1 q2 q3 q4 q5)
      have hz3 := HF.out.1.below q4
      clear c0 c1 c2 c3 c4 c5 c6 c7 f0 q1 q2 q3 q4 q5
      obtain ⟨c0, c1, c2, c3, c4, c5, c6, c7⟩ := hz3.c8
      have f0 := hz3.fz
      unfold put8n at HG
      have HR3 := Lib.hid (And.intro (HR2.out.1.ch1 HG.out.2.2) (And.intro (HR2.out.2.ch1 HG.out.2.2) HG.out.2.1))
      have HS3 := Lib.hid HG.out.1
      clear hz3 HTK2 HF HS HG HR2
      go_wp2_with fail
      rename_i K6 hK6
      have HKK6 : Hid (∀ (u8 u9 u10 u11 u12 u13 u14 u15 u16 u17 u18 u19 u20 u21 u22 u23 u24 u25 u26 u27 u28 u29 u30 u31 u32 u33 u34 u35 u36 u37 u38 u39 u40 u41 : Value) (y : FeV) (X : World), St w X g y (fe 0 6 1 [120]) → Rq X g ra rc [asks p8] → Rq X g rd rcd [asks p9] → Rq X g rg rcg [asks p8] → K6 { tmps := #[.bool false, pg g, .slice ra 1 rc, .int .i64 0, .slice rb 0 rcb, .slice rd 1 rcd, .slice re 0 rce, .slice rg 1 rcg, u8, u9, u10, u11, u12, u13, u14, u15, u16, u17, u18, u19, u20, u21, u22, u23, u24, u25, u26, u27, u28, u29, u30, u31, u32, u33, u34, u35, u36, u37, u38, u39, u40, u41, undef, undef, undef, undef, undef, undef, undef, undef, undef, undef, undef, undef, undef, undef, undef, undef, undef, undef, undef, undef, undef, undef, undef, undef, undef, undef, undef, undef, undef, undef, undef, undef, undef, undef, undef, undef, undef, undef, undef, undef, undef, undef, undef, undef, undef, undef, undef, undef, undef, undef, undef, undef, undef, undef, undef, undef, undef, undef, undef, undef, undef, undef], defers := [] } X) := by
        intro u8 u9 u10 u11 u12 u13 u14 u15 u16 u17 u18 u19 u20 u21 u22 u23 u24 u25 u26 u27 u28 u29 u30 u31 u32 u33 u34 u35 u36 u37 u38 u39 u40 u41 y X hS h1 h2 h3
        refine hK6 _ _ ?_
        obtain ⟨ba, oa, rfl, -, -, ha⟩ := RowAt.cell h1.1.row (show [asks p8][0]? = some (asks p8) from rfl)
        obtain ⟨bd, od, rfl, -, -, hd⟩ := RowAt.cell h2.1.row (show [asks p9][0]? = some (asks p9) from rfl)
        obtain ⟨bg, og, rfl, -, -, hg'⟩ := RowAt.cell h3.1.row (show [asks p8][0]? = some (asks p8) from rfl)
        have e1 : y.done = 1 := congrArg FeM.done hS.m
        have e2 : y.body = [120] := congrArg FeM.body hS.m
        have HC := Lib.hid (show ∀ W', On X W' → (W'.cell? ⟨ba, oa, none⟩ = some (.int .i64 8) ∧ W'.cell? ⟨ba, oa + 1, none⟩ = some (.int .u64 1)) ∧ (W'.cell? ⟨bd, od, none⟩ = some (.int .i64 9) ∧ W'.cell? ⟨bd, od + 1, none⟩ = some (.int .u64 1)) ∧ (W'.cell? ⟨bg, og, none⟩ = some (.int .i64 8) ∧ W'.cell? ⟨bg, og + 1, none⟩ = some (.int .u64 1)) ∧ W'.cell? ⟨g, 6, none⟩ = some (.int .i64 1) ∧ W'.cell? ⟨g, 7, none⟩ = some (.slice y.ba 1 y.bc) ∧ (convert 30 9 (.slice y.ba 1 y.bc)).run Tryz.prog W' = .ok (.string ⟨#[120]⟩) W' from fun W' hO => by
          have hz := (hS.below hO).c8
          have hb := (hS.below hO).ok.bd
          obtain ⟨-, -, -, -, -, -, z6, z7⟩ := hz
          rw [e1] at z6
          rw [e2] at z7 hb
          exact ⟨⟨ha 0 (by omega) W' hO, ha 1 (by omega) W' hO⟩, ⟨hd 0 (by omega) W' hO, hd 1 (by omega) W' hO⟩, ⟨hg' 0 (by omega) W' hO, hg' 1 (by omega) W' hO⟩, z6, z7, bs_str hb⟩)
        have HPL := Lib.hid (fun n W => place_any n W)
        have k8 := fun W => eql38 p8 p8 W
        have k9 := fun W => eql38 p9 p9 W
        have kg := guard38
        have HBL := Lib.hid hS.bel
        rw [decide_eq_true rfl] at k8 k9
        clear hS h1 h2 h3 ha hd hg' e1 e2 hK6
        go_wp2_with fail
        refine region_on (by kernel_rfl) (by kernel_rfl) X (Below.refl _ _) ?_
        repeat (first
          | go_big_quiet_skip
          | (go_big_quiet_want; go_big_quiet_op; (first
            | go_big_quiet_on
            | (apply Exists.intro; refine ⟨fun _ hC => ?_, ?_⟩; with_reducible (first
                | exact rfl
                | exact calls_on hC (HPL.out _ _)
                | (have hcell := HC.out _ hC; simp only [hcell, Result.andThen]; (first | exact rfl | exact ⟨rfl, rfl⟩ | exact ⟨trivial, rfl⟩))); go_big_quiet_on))))
        refine wpQuiet_nil ?_
        intro wn hO
        go_wp2
        go_ret
        exact ⟨rfl, HBL.out.trans (Below.mono hO HBL.out.size)⟩
      refine via (fun Y => St w Y g y3 (fe 0 6 0 []) ∧ Rq Y g ra rc [asks p8] ∧ Rq Y g rd rcd [asks p9] ∧ Rq Y g rg rcg [asks p8]) ⟨HS3.out, HR3.out⟩ (fun Y hY => ?_)
      have HS := Lib.hid hY.1
      have HR := Lib.hid hY.2
      obtain ⟨c0, c1, c2, c3, c4, c5, c6, c7⟩ := hY.1.c8
      clear hY hK6 HS3 HR3 f0
      refine wp_region_held_drew (S := fun _ => True) (by kernel_rfl) trivial (fun hHeld => ?_)
      refine wpAnyH_ready (rs := [0, 1]) (by kernel_rfl) (by simp) ?_
      refine AllReadyH.cons rfl (fun K hK => ?_) ?_
      · go_simp
        refine hK.out _ _ ?_ (fun hHeld => ?_)
        · trivial
        clear hK K
        refine wpAnyH_ready (rs := [1]) (by kernel_rfl) (by simp) ?_
        refine AllReadyH.cons rfl (fun K hK => ?_) ?_
        · go_simp
          with_reducible refine Calls.mono (says_x _ _ (by decide) _) ?_
          rintro e wz ⟨az, cz, rfl, hrz, hbz⟩
          have HSZ := Lib.hid (HS.out.below (show Below _ _ wz by first | exact hbz | exact Below.trans (Below.drew (Below.refl _ _)) hbz))
          have HRZ := Lib.hid hrz
          have HBZ := Lib.hid (St.z HS.out (show Below _ _ wz by first | exact hbz | exact Below.trans (Below.drew (Below.refl _ _)) hbz))
          clear c0 c1 c2 c3 c4 c5 c6 c7 hrz hbz
          obtain ⟨c0, c1, c2, c3, c4, c5, c6, c7⟩ := HSZ.out.c8
          refine hK.out _ _ ?_ (fun hHeld => ?_)
          · trivial
          clear hK K
          refine wpAnyH_ready (rs := [2]) (by kernel_rfl) (by simp) ?_
          refine AllReadyH.cons rfl (fun K hK => ?_) ?_
          · go_simp
            with_reducible refine Calls.mono (HSZ.out.take (fe_in _ _ _ _ (by decide)) (by decide) 6 (by unfold u64ok; omega) (RsV.mk ⟨9, 1⟩ 3 0 1 2 5 0 az cz [120]) HRZ.out (by simp) (step_x _ ⟨rfl, rfl, rfl, rfl, rfl, rfl, rfl⟩)) ?_
            rintro e wy ⟨y2, rb, rcb, rfl, q1, q2, q3, q4, q5⟩
            have HF := Lib.hid (HS.out.next HBZ.out q1 q2 q3 q4 q5)
            have hz2 := HSZ.out.below q4
            clear c0 c1 c2 c3 c4 c5 c6 c7 q1 q2 q3 q4 q5
            obtain ⟨c0, c1, c2, c3, c4, c5, c6, c7⟩ := hz2.c8
            have f0 := hz2.fz
            unfold put8n at HF
            clear hz2
            refine hK.out _ _ ?_ (fun hHeld => ?_)
            · trivial
            clear hK K
            refine wpAnyH_take (i := 3) (oi := _) (v := ?v17) rfl (by kernel_rfl) (by kernel_rfl) (by kernel_rfl) (fun _ _ _ h => h) (Or.inl ⟨by rfl, ?h17⟩) hHeld ?r17
            case h17 => (intro w hSw; (try dsimp only at hSw); go_simp; try with_reducible rfl)
            try simp only [List.getElem_toArray, List.getElem_cons_succ, List.getElem_cons_zero, Act.put, List.setIfInBounds_toArray, List.set_cons_zero, List.set_cons_succ]
            refine wpAnyH_take (i := 4) (oi := _) (v := ?v18) rfl (by kernel_rfl) (by kernel_rfl) (by kernel_rfl) (fun _ _ _ h => h) (Or.inl ⟨by rfl, ?h18⟩) hHeld ?r18
            case h18 => (intro w hSw; (try dsimp only at hSw); go_simp; try with_reducible rfl)
            try simp only [List.getElem_toArray, List.getElem_cons_succ, List.getElem_cons_zero, Act.put, List.setIfInBounds_toArray, List.set_cons_zero, List.set_cons_succ]
            refine wpAnyH_take (i := 5) (oi := _) (v := ?v19) rfl (by kernel_rfl) (by kernel_rfl) (by kernel_rfl) (fun _ _ _ h => h) (Or.inl ⟨by rfl, ?h19⟩) hHeld ?r19
            case h19 => (intro w hSw; (try dsimp only at hSw); go_simp; try with_reducible rfl)
            try simp only [List.getElem_toArray, List.getElem_cons_succ, List.getElem_cons_zero, Act.put, List.setIfInBounds_toArray, List.set_cons_zero, List.set_cons_succ]
            refine wpAnyH_ready (rs := [6]) (by kernel_rfl) (by simp) ?_
            refine AllReadyH.cons rfl (fun K hK => ?_) ?_
            · go_simp
              refine hK.out _ _ ?_ (fun hHeld => ?_)
              · trivial
              clear hK K
              refine wpAnyH_done (by kernel_rfl) ?_ _
              exact HKK6.out _ _ _ _ _ _ _ _ _ _ _ _ _ _ _ _ _ _ _ _ _ _ _ _ _ _ _ _ _ _ _ _ _ _ _ _ HF.out.1 (HR.out.1.ch1 HF.out.2.2) (HR.out.2.1.ch1 HF.out.2.2) (HR.out.2.2.ch1 HF.out.2.2)
            exact AllReadyH.nil
          exact AllReadyH.nil
        exact AllReadyH.nil
      refine AllReadyH.cons rfl (fun K hK => ?_) ?_
      · go_simp
        with_reducible refine Calls.mono (says_x _ _ (by decide) _) ?_
        rintro e wz ⟨az, cz, rfl, hrz, hbz⟩
        have HSZ := Lib.hid (HS.out.below (show Below _ _ wz by first | exact hbz | exact Below.trans (Below.drew (Below.refl _ _)) hbz))
        have HRZ := Lib.hid hrz
        have HBZ := Lib.hid (St.z HS.out (show Below _ _ wz by first | exact hbz | exact Below.trans (Below.drew (Below.refl _ _)) hbz))
        clear c0 c1 c2 c3 c4 c5 c6 c7 hrz hbz
        obtain ⟨c0, c1, c2, c3, c4, c5, c6, c7⟩ := HSZ.out.c8
        refine hK.out _ _ ?_ (fun hHeld => ?_)
        · trivial
        clear hK K
        refine wpAnyH_ready (rs := [0]) (by kernel_rfl) (by simp) ?_
        refine AllReadyH.cons rfl (fun K hK => ?_) ?_
        · go_simp
          refine hK.out _ _ ?_ (fun hHeld => ?_)
          · trivial
          clear hK K
          refine wpAnyH_ready (rs := [2]) (by kernel_rfl) (by simp) ?_
          refine AllReadyH.cons rfl (fun K hK => ?_) ?_
          · go_simp
            with_reducible refine Calls.mono (HSZ.out.take (fe_in _ _ _ _ (by decide)) (by decide) 6 (by unfold u64ok; omega) (RsV.mk ⟨9, 1⟩ 3 0 1 2 5 0 az cz [120]) HRZ.out (by simp) (step_x _ ⟨rfl, rfl, rfl, rfl, rfl, rfl, rfl⟩)) ?_
            rintro e wy ⟨y2, rb, rcb, rfl, q1, q2, q3, q4, q5⟩
            have HF := Lib.hid (HS.out.next HBZ.out q1 q2 q3 q4 q5)
            have hz2 := HSZ.out.below q4
            clear c0 c1 c2 c3 c4 c5 c6 c7 q1 q2 q3 q4 q5
            obtain ⟨c0, c1, c2, c3, c4, c5, c6, c7⟩ := hz2.c8
            have f0 := hz2.fz
            unfold put8n at HF
            clear hz2
            refine hK.out _ _ ?_ (fun hHeld => ?_)
            · trivial
            clear hK K
            refine wpAnyH_take (i := 3) (oi := _) (v := ?v20) rfl (by kernel_rfl) (by kernel_rfl) (by kernel_rfl) (fun _ _ _ h => h) (Or.inl ⟨by rfl, ?h20⟩) hHeld ?r20
            case h20 => (intro w hSw; (try dsimp only at hSw); go_simp; try with_reducible rfl)
            try simp only [List.getElem_toArray, List.getElem_cons_succ, List.getElem_cons_zero, Act.put, List.setIfInBounds_toArray, List.set_cons_zero, List.set_cons_succ]
            refine wpAnyH_take (i := 4) (oi := _) (v := ?v21) rfl (by kernel_rfl) (by kernel_rfl) (by kernel_rfl) (fun _ _ _ h => h) (Or.inl ⟨by rfl, ?h21⟩) hHeld ?r21
            case h21 => (intro w hSw; (try dsimp only at hSw); go_simp; try with_reducible rfl)
            try simp only [List.getElem_toArray, List.getElem_cons_succ, List.getElem_cons_zero, Act.put, List.setIfInBounds_toArray, List.set_cons_zero, List.set_cons_succ]
            refine wpAnyH_take (i := 5) (oi := _) (v := ?v22) rfl (by kernel_rfl) (by kernel_rfl) (by kernel_rfl) (fun _ _ _ h => h) (Or.inl ⟨by rfl, ?h22⟩) hHeld ?r22
            case h22 => (intro w hSw; (try dsimp only at hSw); go_simp; try with_reducible rfl)
            try simp only [List.getElem_toArray, List.getElem_cons_succ, List.getElem_cons_zero, Act.put, List.setIfInBounds_toArray, List.set_cons_zero, List.set_cons_succ]
            refine wpAnyH_ready (rs := [6]) (by kernel_rfl) (by simp) ?_
            refine AllReadyH.cons rfl (fun K hK => ?_) ?_
            · go_simp
              refine hK.out _ _ ?_ (fun hHeld => ?_)
              · trivial
              clear hK K
              refine wpAnyH_done (by kernel_rfl) ?_ _
              exact HKK6.out _ _ _ _ _ _ _ _ _ _ _ _ _ _ _ _ _ _ _ _ _ _ _ _ _ _ _ _ _ _ _ _ _ _ _ _ HF.out.1 (HR.out.1.ch1 HF.out.2.2) (HR.out.2.1.ch1 HF.out.2.2) (HR.out.2.2.ch1 HF.out.2.2)
            exact AllReadyH.nil
          exact AllReadyH.nil
        exact AllReadyH.nil
      exact AllReadyH.nil
    refine wp_region_held_drew (S := fun _ => True) (by kernel_rfl) trivial (fun hHeld => ?_)
    refine wpAnyH_ready (rs := [0, 1]) (by kernel_rfl) (by simp) ?_
    refine AllReadyH.cons rfl (fun K hK => ?_) ?_
    · go_simp
      refine hK.out _ _ ?_ (fun hHeld => ?_)
      · trivial
      clear hK K
      refine wpAnyH_ready (rs := [1]) (by kernel_rfl) (by simp) ?_
      refine AllReadyH.cons rfl (fun K hK => ?_) ?_
      · go_simp
        with_reducible refine Calls.mono (says_0 _ _ (by decide) _) ?_
        rintro e wz ⟨az, cz, rfl, hrz, hbz⟩
        have HSZ := Lib.hid (HS.out.below (show Below _ _ wz by first | exact hbz | exact Below.trans (Below.drew (Below.refl _ _)) hbz))
        have HRZ := Lib.hid hrz
        have HBZ := Lib.hid (St.z HS.out (show Below _ _ wz by first | exact hbz | exact Below.trans (Below.drew (Below.refl _ _)) hbz))
        clear c0 c1 c2 c3 c4 c5 c6 c7 hrz hbz
        obtain ⟨c0, c1, c2, c3, c4, c5, c6, c7⟩ := HSZ.out.c8
        refine hK.out _ _ ?_ (fun hHeld => ?_)
        · trivial
        clear hK K
        refine wpAnyH_ready (rs := [2]) (by kernel_rfl) (by simp) ?_
        refine AllReadyH.cons rfl (fun K hK => ?_) ?_
        · go_simp
          with_reducible refine Calls.mono (HSZ.out.take (fe_in _ _ _ _ (by decide)) (by decide) 3 (by unfold u64ok; omega) (RsV.mk ⟨8, 1⟩ 3 3 1 2 5 0 az cz []) HRZ.out (by simp) (step_c _ ⟨rfl, rfl, rfl, rfl, rfl, rfl⟩)) ?_
          rintro e wy ⟨y2, rb, rcb, rfl, q1, q2, q3, q4, q5⟩
          have HF := Lib.hid (HS.out.next HBZ.out q1 q2 q3 q4 q5)
          have hz2 := HSZ.out.below q4
          clear c0 c1 c2 c3 c4 c5 c6 c7 q1 q2 q3 q4 q5
          obtain ⟨c0, c1, c2, c3, c4, c5, c6, c7⟩ := hz2.c8
          have f0 := hz2.fz
          unfold put8n at HF
          clear hz2
          refine hK.out _ _ ?_ (fun hHeld => ?_)
          · trivial
          clear hK K
          refine wpAnyH_take (i := 3) (oi := _) (v := ?v9) rfl (by kernel_rfl) (by kernel_rfl) (by kernel_rfl) (fun _ _ _ h => h) (Or.inl ⟨by rfl, ?h9⟩) hHeld ?r9
          case h9 => (intro w hSw; (try dsimp only at hSw); go_simp; try with_reducible rfl)
          try simp only [List.getElem_toArray, List.getElem_cons_succ, List.getElem_cons_zero, Act.put, List.setIfInBounds_toArray, List.set_cons_zero, List.set_cons_succ]
          refine wpAnyH_take (i := 4) (oi := _) (v := ?v10) rfl (by kernel_rfl) (by kernel_rfl) (by kernel_rfl) (fun _ _ _ h => h) (Or.inl ⟨by rfl, ?h10⟩) hHeld ?r10
          case h10 => (intro w hSw; (try dsimp only at hSw); go_simp; try with_reducible rfl)
          try simp only [List.getElem_toArray, List.getElem_cons_succ, List.getElem_cons_zero, Act.put, List.setIfInBounds_toArray, List.set_cons_zero, List.set_cons_succ]
          refine wpAnyH_take (i := 5) (oi := _) (v := ?v11) rfl (by kernel_rfl) (by kernel_rfl) (by kernel_rfl) (fun _ _ _ h => h) (Or.inl ⟨by rfl, ?h11⟩) hHeld ?r11
          case h11 => (intro w hSw; (try dsimp only at hSw); go_simp; try with_reducible rfl)
          try simp only [List.getElem_toArray, List.getElem_cons_succ, List.getElem_cons_zero, Act.put, List.setIfInBounds_toArray, List.set_cons_zero, List.set_cons_succ]
          refine wpAnyH_ready (rs := [6]) (by kernel_rfl) (by simp) ?_
          refine AllReadyH.cons rfl (fun K hK => ?_) ?_
          · go_simp
            refine hK.out _ _ ?_ (fun hHeld => ?_)
            · trivial
            clear hK K
            refine wpAnyH_take (i := 7) (oi := _) (v := ?v12) rfl (by kernel_rfl) (by kernel_rfl) (by kernel_rfl) (fun _ _ _ h => h) (Or.inl ⟨by rfl, ?h12⟩) hHeld ?r12
            case h12 => (intro w hSw; (try dsimp only at hSw); go_simp; try with_reducible rfl)
            try simp only [List.getElem_toArray, List.getElem_cons_succ, List.getElem_cons_zero, Act.put, List.setIfInBounds_toArray, List.set_cons_zero, List.set_cons_succ]
            refine wpAnyH_done (by kernel_rfl) ?_ _
            exact HKK3.out _ _ _ _ _ _ _ _ _ _ _ _ _ _ _ _ _ _ _ _ _ _ HF.out.1 (HR.out.ch1 HF.out.2.2) HF.out.2.1
          exact AllReadyH.nil
        exact AllReadyH.nil
      exact AllReadyH.nil
    refine AllReadyH.cons rfl (fun K hK => ?_) ?_
    · go_simp
      with_reducible refine Calls.mono (says_0 _ _ (by decide) _) ?_
      rintro e wz ⟨az, cz, rfl, hrz, hbz⟩
      have HSZ := Lib.hid (HS.out.below (show Below _ _ wz by first | exact hbz | exact Below.trans (Below.drew (Below.refl _ _)) hbz))
      have HRZ := Lib.hid hrz
      have HBZ := Lib.hid (St.z HS.out (show Below _ _ wz by first | exact hbz | exact Below.trans (Below.drew (Below.refl _ _)) hbz))
      clear c0 c1 c2 c3 c4 c5 c6 c7 hrz hbz
      obtain ⟨c0, c1, c2, c3, c4, c5, c6, c7⟩ := HSZ.out.c8
      refine hK.out _ _ ?_ (fun hHeld => ?_)
      · trivial
      clear hK K
      refine wpAnyH_ready (rs := [0]) (by kernel_rfl) (by simp) ?_
      refine AllReadyH.cons rfl (fun K hK => ?_) ?_
      · go_simp
        refine hK.out _ _ ?_ (fun hHeld => ?_)
        · trivial
        clear hK K
        refine wpAnyH_ready (rs := [2]) (by kernel_rfl) (by simp) ?_
        refine AllReadyH.cons rfl (fun K hK => ?_) ?_
        · go_simp
          with_reducible refine Calls.mono (HSZ.out.take (fe_in _ _ _ _ (by decide)) (by decide) 3 (by unfold u64ok; omega) (RsV.mk ⟨8, 1⟩ 3 3 1 2 5 0 az cz []) HRZ.out (by simp) (step_c _ ⟨rfl, rfl, rfl, rfl, rfl, rfl⟩)) ?_
          rintro e wy ⟨y2, rb, rcb, rfl, q1, q2, q3, q4, q5⟩
          have HF := Lib.hid (HS.out.next HBZ.out q1 q2 q3 q4 q5)
          have hz2 := HSZ.out.below q4
          clear c0 c1 c2 c3 c4 c5 c6 c7 q1 q2 q3 q4 q5
          obtain ⟨c0, c1, c2, c3, c4, c5, c6, c7⟩ := hz2.c8
          have f0 := hz2.fz
          unfold put8n at HF
          clear hz2
          refine hK.out _ _ ?_ (fun hHeld => ?_)
          · trivial
          clear hK K
          refine wpAnyH_take (i := 3) (oi := _) (v := ?v13) rfl (by kernel_rfl) (by kernel_rfl) (by kernel_rfl) (fun _ _ _ h => h) (Or.inl ⟨by rfl, ?h13⟩) hHeld ?r13
          case h13 => (intro w hSw; (try dsimp only at hSw); go_simp; try with_reducible rfl)
          try simp only [List.getElem_toArray, List.getElem_cons_succ, List.getElem_cons_zero, Act.put, List.setIfInBounds_toArray, List.set_cons_zero, List.set_cons_succ]
          refine wpAnyH_take (i := 4) (oi := _) (v := ?v14) rfl (by kernel_rfl) (by kernel_rfl) (by kernel_rfl) (fun _ _ _ h => h) (Or.inl ⟨by rfl, ?h14⟩) hHeld ?r14
          case h14 => (intro w hSw; (try dsimp only at hSw); go_simp; try with_reducible rfl)
          try simp only [List.getElem_toArray, List.getElem_cons_succ, List.getElem_cons_zero, Act.put, List.setIfInBounds_toArray, List.set_cons_zero, List.set_cons_succ]
          refine wpAnyH_take (i := 5) (oi := _) (v := ?v15) rfl (by kernel_rfl) (by kernel_rfl) (by kernel_rfl) (fun _ _ _ h => h) (Or.inl ⟨by rfl, ?h15⟩) hHeld ?r15
          case h15 => (intro w hSw; (try dsimp only at hSw); go_simp; try with_reducible rfl)
          try simp only [List.getElem_toArray, List.getElem_cons_succ, List.getElem_cons_zero, Act.put, List.setIfInBounds_toArray, List.set_cons_zero, List.set_cons_succ]
          refine wpAnyH_ready (rs := [6]) (by kernel_rfl) (by simp) ?_
          refine AllReadyH.cons rfl (fun K hK => ?_) ?_
          · go_simp
            refine hK.out _ _ ?_ (fun hHeld => ?_)
            · trivial
            clear hK K
            refine wpAnyH_take (i := 7) (oi := _) (v := ?v16) rfl (by kernel_rfl) (by kernel_rfl) (by kernel_rfl) (fun _ _ _ h => h) (Or.inl ⟨by rfl, ?h16⟩) hHeld ?r16
            case h16 => (intro w hSw; (try dsimp only at hSw); go_simp; try with_reducible rfl)
            try simp only [List.getElem_toArray, List.getElem_cons_succ, List.getElem_cons_zero, Act.put, List.setIfInBounds_toArray, List.set_cons_zero, List.set_cons_succ]
            refine wpAnyH_done (by kernel_rfl) ?_ _
            exact HKK3.out _ _ _ _ _ _ _ _ _ _ _ _ _ _ _ _ _ _ _ _ _ _ HF.out.1 (HR.out.ch1 HF.out.2.2) HF.out.2.1
          exact AllReadyH.nil
        exact AllReadyH.nil
      exact AllReadyH.nil
    exact AllReadyH.nil
  have HS := Lib.hid hS
  have HR := Lib.hid hR
  obtain ⟨c0, c1, c2, c3, c4, c5, c6, c7⟩ := hS.c8
  clear hS hR hK2
  refine wp_region_held_drew (S := fun _ => True) (by kernel_rfl) trivial (fun hHeld => ?_)
  refine wpAnyH_ready (rs := [0, 1]) (by kernel_rfl) (by simp) ?_
  refine AllReadyH.cons rfl (fun K hK => ?_) ?_
  · go_simp
    refine hK.out _ _ ?_ (fun hHeld => ?_)
    · trivial
    clear hK K
    refine wpAnyH_ready (rs := [1]) (by kernel_rfl) (by simp) ?_
    refine AllReadyH.cons rfl (fun K hK => ?_) ?_
    · go_simp
      with_reducible refine Calls.mono (says_0 _ _ (by decide) _) ?_
      rintro e wz ⟨az, cz, rfl, hrz, hbz⟩
      have HSZ := Lib.hid (HS.out.below (show Below _ _ wz by first | exact hbz | exact Below.trans (Below.drew (Below.refl _ _)) hbz))
      have HRZ := Lib.hid hrz
      have HBZ := Lib.hid (St.z HS.out (show Below _ _ wz by first | exact hbz | exact Below.trans (Below.drew (Below.refl _ _)) hbz))
      clear c0 c1 c2 c3 c4 c5 c6 c7 hrz hbz
      obtain ⟨c0, c1, c2, c3, c4, c5, c6, c7⟩ := HSZ.out.c8
      refine hK.out _ _ ?_ (fun hHeld => ?_)
      · trivial
      clear hK K
      refine wpAnyH_ready (rs := [2]) (by kernel_rfl) (by simp) ?_
      refine AllReadyH.cons rfl (fun K hK => ?_) ?_
      · go_simp
        with_reducible refine Calls.mono (HSZ.out.take (fe_in _ _ _ _ (by decide)) (by decide) 3 (by unfold u64ok; omega) (RsV.mk ⟨9, 1⟩ 3 3 1 2 5 0 az cz []) HRZ.out (by simp) (step_b _ ⟨rfl, rfl, rfl, rfl, rfl, rfl⟩)) ?_
        rintro e wy ⟨y2, rb, rcb, rfl, q1, q2, q3, q4, q5⟩
        have HF := Lib.hid (HS.out.next HBZ.out q1 q2 q3 q4 q5)
        have hz2 := HSZ.out.below q4
        clear c0 c1 c2 c3 c4 c5 c6 c7 q1 q2 q3 q4 q5
        obtain ⟨c0, c1, c2, c3, c4, c5, c6, c7⟩ := hz2.c8
        have f0 := hz2.fz
        unfold put8n at HF
        clear hz2
        refine hK.out _ _ ?_ (fun hHeld => ?_)
        · trivial
        clear hK K
        refine wpAnyH_take (i := 3) (oi := _) (v := ?v1) rfl (by kernel_rfl) (by kernel_rfl) (by kernel_rfl) (fun _ _ _ h => h) (Or.inl ⟨by rfl, ?h1⟩) hHeld ?r1
        case h1 => (intro w hSw; (try dsimp only at hSw); go_simp; try with_reducible rfl)
        try simp only [List.getElem_toArray, List.getElem_cons_succ, List.getElem_cons_zero, Act.put, List.setIfInBounds_toArray, List.set_cons_zero, List.set_cons_succ]
        refine wpAnyH_take (i := 4) (oi := _) (v := ?v2) rfl (by kernel_rfl) (by kernel_rfl) (by kernel_rfl) (fun _ _ _ h => h) (Or.inl ⟨by rfl, ?h2⟩) hHeld ?r2
        case h2 => (intro w hSw; (try dsimp only at hSw); go_simp; try with_reducible rfl)
        try simp only [List.getElem_toArray, List.getElem_cons_succ, List.getElem_cons_zero, Act.put, List.setIfInBounds_toArray, List.set_cons_zero, List.set_cons_succ]
        refine wpAnyH_take (i := 5) (oi := _) (v := ?v3) rfl (by kernel_rfl) (by kernel_rfl) (by kernel_rfl) (fun _ _ _ h => h) (Or.inl ⟨by rfl, ?h3⟩) hHeld ?r3
        case h3 => (intro w hSw; (try dsimp only at hSw); go_simp; try with_reducible rfl)
        try simp only [List.getElem_toArray, List.getElem_cons_succ, List.getElem_cons_zero, Act.put, List.setIfInBounds_toArray, List.set_cons_zero, List.set_cons_succ]
        refine wpAnyH_ready (rs := [6]) (by kernel_rfl) (by simp) ?_
        refine AllReadyH.cons rfl (fun K hK => ?_) ?_
        · go_simp
          refine hK.out _ _ ?_ (fun hHeld => ?_)
          · trivial
          clear hK K
          refine wpAnyH_take (i := 7) (oi := _) (v := ?v4) rfl (by kernel_rfl) (by kernel_rfl) (by kernel_rfl) (fun _ _ _ h => h) (Or.inl ⟨by rfl, ?h4⟩) hHeld ?r4
          case h4 => (intro w hSw; (try dsimp only at hSw); go_simp; try with_reducible rfl)
          try simp only [List.getElem_toArray, List.getElem_cons_succ, List.getElem_cons_zero, Act.put, List.setIfInBounds_toArray, List.set_cons_zero, List.set_cons_succ]
          refine wpAnyH_done (by kernel_rfl) ?_ _
          exact HKK2.out _ _ _ _ _ _ _ _ _ _ _ _ _ _ _ _ HF.out.1 (HR.out.ch1 HF.out.2.2)
        exact AllReadyH.nil
      exact AllReadyH.nil
    exact AllReadyH.nil
  refine AllReadyH.cons rfl (fun K hK => ?_) ?_
  · go_simp
    with_reducible refine Calls.mono (says_0 _ _ (by decide) _) ?_
    rintro e wz ⟨az, cz, rfl, hrz, hbz⟩
    have HSZ := Lib.hid (HS.out.below (show Below _ _ wz by first | exact hbz | exact Below.trans (Below.drew (Below.refl _ _)) hbz))
    have HRZ := Lib.hid hrz
    have HBZ := Lib.hid (St.z HS.out (show Below _ _ wz by first | exact hbz | exact Below.trans (Below.drew (Below.refl _ _)) hbz))
    clear c0 c1 c2 c3 c4 c5 c6 c7 hrz hbz
    obtain ⟨c0, c1, c2, c3, c4, c5, c6, c7⟩ := HSZ.out.c8
    refine hK.out _ _ ?_ (fun hHeld => ?_)
    · trivial
    clear hK K
    refine wpAnyH_ready (rs := [0]) (by kernel_rfl) (by simp) ?_
    refine AllReadyH.cons rfl (fun K hK => ?_) ?_
    · go_simp
      refine hK.out _ _ ?_ (fun hHeld => ?_)
      · trivial
      clear hK K
      refine wpAnyH_ready (rs := [2]) (by kernel_rfl) (by simp) ?_
      refine AllReadyH.cons rfl (fun K hK => ?_) ?_
      · go_simp
        with_reducible refine Calls.mono (HSZ.out.take (fe_in _ _ _ _ (by decide)) (by decide) 3 (by unfold u64ok; omega) (RsV.mk ⟨9, 1⟩ 3 3 1 2 5 0 az cz []) HRZ.out (by simp) (step_b _ ⟨rfl, rfl, rfl, rfl, rfl, rfl⟩)) ?_
        rintro e wy ⟨y2, rb, rcb, rfl, q1, q2, q3, q4, q5⟩
        have HF := Lib.hid (HS.out.next HBZ.out q1 q2 q3 q4 q5)
        have hz2 := HSZ.out.below q4
        clear c0 c1 c2 c3 c4 c5 c6 c7 q1 q2 q3 q4 q5
        obtain ⟨c0, c1, c2, c3, c4, c5, c6, c7⟩ := hz2.c8
        have f0 := hz2.fz
        unfold put8n at HF
        clear hz2
        refine hK.out _ _ ?_ (fun hHeld => ?_)
        · trivial
        clear hK K
        refine wpAnyH_take (i := 3) (oi := _) (v := ?v5) rfl (by kernel_rfl) (by kernel_rfl) (by kernel_rfl) (fun _ _ _ h => h) (Or.inl ⟨by rfl, ?h5⟩) hHeld ?r5
        case h5 => (intro w hSw; (try dsimp only at hSw); go_simp; try with_reducible rfl)
        try simp only [List.getElem_toArray, List.getElem_cons_succ, List.getElem_cons_zero, Act.put, List.setIfInBounds_toArray, List.set_cons_zero, List.set_cons_succ]
        refine wpAnyH_take (i := 4) (oi := _) (v := ?v6) rfl (by kernel_rfl) (by kernel_rfl) (by kernel_rfl) (fun _ _ _ h => h) (Or.inl ⟨by rfl, ?h6⟩) hHeld ?r6
        case h6 => (intro w hSw; (try dsimp only at hSw); go_simp; try with_reducible rfl)
        try simp only [List.getElem_toArray, List.getElem_cons_succ, List.getElem_cons_zero, Act.put, List.setIfInBounds_toArray, List.set_cons_zero, List.set_cons_succ]
        refine wpAnyH_take (i := 5) (oi := _) (v := ?v7) rfl (by kernel_rfl) (by kernel_rfl) (by kernel_rfl) (fun _ _ _ h => h) (Or.inl ⟨by rfl, ?h7⟩) hHeld ?r7
        case h7 => (intro w hSw; (try dsimp only at hSw); go_simp; try with_reducible rfl)
        try simp only [List.getElem_toArray, List.getElem_cons_succ, List.getElem_cons_zero, Act.put, List.setIfInBounds_toArray, List.set_cons_zero, List.set_cons_succ]
        refine wpAnyH_ready (rs := [6]) (by kernel_rfl) (by simp) ?_
        refine AllReadyH.cons rfl (fun K hK => ?_) ?_
        · go_simp
          refine hK.out _ _ ?_ (fun hHeld => ?_)
          · trivial
          clear hK K
          refine wpAnyH_take (i := 7) (oi := _) (v := ?v8) rfl (by kernel_rfl) (by kernel_rfl) (by kernel_rfl) (fun _ _ _ h => h) (Or.inl ⟨by rfl, ?h8⟩) hHeld ?r8
          case h8 => (intro w hSw; (try dsimp only at hSw); go_simp; try with_reducible rfl)
          try simp only [List.getElem_toArray, List.getElem_cons_succ, List.getElem_cons_zero, Act.put, List.setIfInBounds_toArray, List.set_cons_zero, List.set_cons_succ]
          refine wpAnyH_done (by kernel_rfl) ?_ _
          exact HKK2.out _ _ _ _ _ _ _ _ _ _ _ _ _ _ _ _ HF.out.1 (HR.out.ch1 HF.out.2.2)
        exact AllReadyH.nil
      exact AllReadyH.nil
    exact AllReadyH.nil
  exact AllReadyH.nil
end Go.Proofs.YtpihogkhfmijcaaGreat
