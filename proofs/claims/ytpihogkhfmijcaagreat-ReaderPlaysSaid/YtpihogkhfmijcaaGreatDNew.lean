/- The document: New. -/
import Derived.Test.YtpihogkhfmijcaaGreatDMove
namespace Go.Proofs.YtpihogkhfmijcaaGreat
open Go.RowKit Go.Maps Go.Shelf
set_option linter.unusedSimpArgs false
theorem a3_lies {w1 W' w3 : World} {a : Option Addr} {c n : Nat} {l : List PL} (h : OwnPs W'.heap.size w3 (.slice a n c) l) (hs : w1.heap.size ≤ W'.heap.size) : ∀ b, ab a = some b → w1.heap.size ≤ b ∧ b < w3.heap.size ∧ ∀ T cs, BoxC w3 b T cs → T = 40 := fun b e => by
  have h1 := OwnRow.ab h b e
  refine ⟨by omega, h1.2, fun T cs hb => ?_⟩
  rcases h.2 with ⟨h2, -⟩ | ⟨g, cap, cur, hv, -, hg, -⟩
  · cases h2; cases e
  · cases hv
    cases e
    have := hb.symm.trans hg
    injection this with this
    injection this
theorem put_fin {w1 w5 : World} {gv : Nat} {z : FeV} {ra : Option Addr} {n c : Nat} {L : List RqM} (hq : BoxC w5 gv 32 zero32) (hg : w1.heap.size ≤ gv) (h15 : Below w1.heap.size w1 w5) (p2 : z.ok w5) (p3 : QsAt w5 (.slice ra n c) L) (hne : ∀ b, z.blk b → b ≠ gv) :
    BoxC (put8n w5 gv z) gv 32 z.cs.toArray ∧ z.ok (put8n w5 gv z) ∧ QsAt (put8n w5 gv z) (.slice ra n c) L ∧ Below w1.heap.size w1 (put8n w5 gv z) := by
  rw [put8n_eq]
  have hc := Ch1.sets w5 gv z.cs
  exact ⟨hq.full z.cs rfl, p2.ch1 (fun b e => hne b (.inl e)) (fun b e => hne b (.inr e)) hc, p3.ch1 (p3.off hq (by decide)) hc, Below.sets hg z.cs h15⟩
theorem new_fin {l : LgV} {n tag now : Int} {w w1 V : World} {z : FeV} {ra : Option Addr} {rc R : Nat} (HG : NewOk l n) (hR1 : BoxC w1 R 32 zero32) (hwR : w.heap.size ≤ R) (hb1 : Below w.heap.size w w1) (p1 : z.m = (newM l n tag now).1) (h : z.ok V ∧ QsAt V (.slice ra (newM l n tag now).2.length rc) (newM l n tag now).2 ∧ Below w1.heap.size w1 V) (hsep : ∀ b, z.blk b → w1.heap.size ≤ b) (p6 : ∀ b, ab ra = some b → w1.heap.size ≤ b) :
    BoxC V R 32 zero32 ∧ BoxC (put8n V R z) R 32 z.cs.toArray ∧ NewPost l n tag now w (.returned (.tuple #[z.val, .slice ra (newM l n tag now).2.length rc, .int .i64 0])) (put8n V R z) := by
  have hV := hR1.below h.2.2
  have hlt := hR1.lt
  have hc := Ch1.sets V R z.cs
  refine ⟨hV, by rw [put8n_eq]; exact hV.full z.cs rfl, NewPost.good HG p1 ?_ ?_ ?_ (fun b e => Nat.le_trans hb1.size (e.elim (hsep b) (p6 b)))⟩
  · rw [put8n_eq]
    exact h.1.ch1 (fun b e => by have := hsep b (.inl e); omega) (fun b e => by have := hsep b (.inr e); omega) hc
  · rw [put8n_eq]
    exact h.2.1.ch1 (fun b e => by have := p6 b e; omega) hc
  · rw [put8n_eq]
    exact Below.sets hwR z.cs (hb1.trans (h.2.2.mono hb1.size))
theorem Below.via {a b c : World} (h : Below a.heap.size a b) (k : Below b.heap.size b c) : Below a.heap.size a c := h.trans (k.mono h.size)
set_option maxRecDepth 100000 in
set_option maxHeartbeats 4000000 in
theorem dnew_any (l : LgV) (n tag now : Int) (w : World) (hl : FsAt w (.slice l.a l.fs.length l.c) l.fs) (hs : ∀ x ∈ l.fs, x.ps.length ≤ 100000) (hi : u64ok l.i) (hn : u64ok n) (ht : u64ok tag) (hw : u64ok now) :
    Calls Tryz.prog 7 #[l.val, .int .u64 n, .int .u64 tag, .int .u64 now] w fun e w' => NewPost l n tag now w e w' := by
  obtain ⟨W, hW⟩ : ∃ W, W = (w.alloc (.cells l.arr 25)).alloc (.cells zero32 32) := ⟨_, rfl⟩
  have hbel : Below w.heap.size w W := by rw [hW]; exact Go.Joins.below_alloc2 w _ _
  have hB : BoxC W w.heap.size 25 l.arr := by rw [hW]; exact (BoxC.new _ _ _).alloc _
  have hR : BoxC W (w.heap.size + 1) 32 zero32 := by
    rw [hW]
    have := BoxC.new (w.alloc (.cells l.arr 25)) 32 zero32
    rwa [World.size_alloc] at this
  have HML := Lib.hid (mayl_any l W (hl.below hbel))
  have HW := Lib.hid (And.intro hbel (And.intro hB hR))
  have HU := Lib.hid (And.intro hi (And.intro hn (And.intro ht hw)))
  have HL := Lib.hid (And.intro hl hs)
  have b0 := hB.cell 0
  have b1 := hB.cell 1
  have b2 := hB.cell 2
  have b3 := hB.cell 3
  have b4 := hB.cell 4
  have b5 := hB.cell 5
  simp only [LgV.arr, List.getElem?_toArray, List.getElem?_cons_succ, List.getElem?_cons_zero] at b0 b1 b2 b3 b4 b5
  simp only [LgV.arr, zero32] at hW
  simp only [LgV.val, LgV.arr] at HML ⊢
  have hn1 := hn.1
  clear hbel hB hR hl hs hi hn ht hw
  go_enter Tryz.func7, Tryz.ntmps7
  go_upto_region 1 with fail
  rw [← hW]
  clear hW
  go_wp2_with fail
  refine HML.out.mono ?_
  rintro e w1 ⟨R, rfl, hR, hb1⟩
  have HB1 := Lib.hid (And.intro (HW.out.1.trans (hb1.mono HW.out.1.size)) (And.intro (HW.out.2.1.below hb1) (HW.out.2.2.below hb1)))
  have HR := Lib.hid hR
  have HBAD := Lib.hid (show ¬ NewOk l n → NewPost l n tag now w (.returned (.tuple #[feZero.val, .slice none 0 0, .int .i64 1])) (put8n w1 (w.heap.size + 1) feZero) from fun h => NewPost.bad h (below_zeros HB1.out.1))
  have HBX := Lib.hid (show BoxC (put8n w1 (w.heap.size + 1) feZero) (w.heap.size + 1) 32 feZero.cs.toArray from by rw [put8n_eq]; exact HB1.out.2.2.full feZero.cs rfl)
  clear b0 b1 b2 b3 b4 b5 hR hb1 HML
  have b0 := HB1.out.2.1.cell 0
  have b1 := HB1.out.2.1.cell 1
  have b3 := HB1.out.2.1.cell 3
  have b4 := HB1.out.2.1.cell 4
  have b5 := HB1.out.2.1.cell 5
  simp only [LgV.arr, List.getElem?_toArray, List.getElem?_cons_succ, List.getElem?_cons_zero] at b0 b1 b3 b4 b5
  obtain ⟨r0, r1, r2, r3, r4, r5, r6, r7⟩ := t8 HB1.out.2.2
  have g0 := HB1.out.2.2.fz
  cases R with
  | false =>
    have HF := Lib.hid (show ¬ NewOk l n from fun h => by have := HR.out.2 h.1; cases this)
    unfold put8n feZero at HBAD HBX
    go_wp2
    refine bodyPost_ret (results_f3 rfl _ _ (w.heap.size + 1) feZero rfl HBX.out) rfl ?_
    exact HBAD.out HF.out
  | true =>
    have HMA := Lib.hid (HR.out.1 rfl)
    by_cases k1 : n < 1
    · have HF := Lib.hid (show ¬ NewOk l n from fun h => by have := h.2.1; omega)
      have d1 : decide (n < 1) = true := decide_eq_true k1
      clear k1
      unfold put8n feZero at HBAD HBX
      go_wp2
      refine bodyPost_ret (results_f3 rfl _ _ (w.heap.size + 1) feZero rfl HBX.out) rfl ?_
      exact HBAD.out HF.out
    have d1 : decide (n < 1) = false := decide_eq_false k1
    by_cases k2 : 8 < n
    · have HF := Lib.hid (show ¬ NewOk l n from fun h => by have := h.2.2.1; omega)
      have d2 : decide (8 < n) = true := decide_eq_true k2
      clear k1 k2
      unfold put8n feZero at HBAD HBX
      go_wp2
      refine bodyPost_ret (results_f3 rfl _ _ (w.heap.size + 1) feZero rfl HBX.out) rfl ?_
      exact HBAD.out HF.out
    have d2 : decide (8 < n) = false := decide_eq_false k2
    have HN8 := Lib.hid (show 1 ≤ n ∧ n ≤ 8 by omega)
    by_cases k3 : l.cl = 1
    · have d3 : (l.cl == 1) = true := by simpa using k3
      have d3' : decide (l.cl = 1) = true := decide_eq_true k3
      by_cases k4 : l.last < n
      · have HF := Lib.hid (show ¬ NewOk l n from fun h => by have := h.2.2.2 k3; omega)
        have d4 : decide (l.last < n) = true := decide_eq_true k4
        clear k1 k2 k3 k4
        unfold put8n feZero at HBAD HBX
        go_wp2
        refine bodyPost_ret (results_f3 rfl _ _ (w.heap.size + 1) feZero rfl HBX.out) rfl ?_
        exact HBAD.out HF.out
      have d4 : decide (l.last < n) = false := decide_eq_false k4
      have HG := Lib.hid (show NewOk l n from ⟨HMA.out, HN8.out.1, HN8.out.2, fun _ => by omega⟩)
      clear k1 k2 k3 k4
      have HSE := Lib.hid (show ∀ Z, Below w.heap.size w Z → _ from fun Z hZ => rset_any (.slice l.a l.fs.length l.c) l.W n l.fs Z (HL.out.1.below hZ) HL.out.2 HU.out.2.1)
      have HLN := Lib.hid (show (setV l.fs l.W n).length = l.W.toNat ∧ 1 ≤ l.W ∧ l.W ≤ 5 from ⟨ledger_len HMA.out HN8.out.1, by have := HMA.out.2.1; omega, HMA.out.2.1.2.2⟩)
      have HSO := Lib.hid (setV_ok (n := l.W) (k := n) (fs_ok HL.out.1))
      have HAS := Lib.hid (show ∀ Z a c, PsAt Z (.slice a (setV l.fs l.W n).length c) (setV l.fs l.W n) → Calls Tryz.prog 26 #[.agg #[.int .u64 l.i, .int .u64 n, .slice a (setV l.fs l.W n).length c, .int .i64 0, .int .u64 0, .int .u64 tag, .int .i64 0, .slice none 0 0], .int .i64 0, .int .u64 now] Z fun e w' => RefPost ⟨l.i, n, a, c, setV l.fs l.W n, 0, 0, tag, 0, none, 0, []⟩ (newM l n tag now) Z e w' from fun Z a c hp => dask_at ⟨l.i, n, a, c, setV l.fs l.W n, 0, 0, tag, 0, none, 0, []⟩ 0 0 now Z (.inr ⟨by have := HLN.out; show (0 : Int) < ((setV l.fs l.W n).length : Int); omega, rfl⟩) ⟨⟨⟨HU.out.1, HU.out.2.1⟩, by unfold i64ok; dsimp only; omega, by unfold u64ok; dsimp only; omega, HU.out.2.2.1, by unfold i64ok; dsimp only; omega⟩, hp, RowAt.nil _⟩ (by omega) (by omega) (by have := HLN.out; show 0 < (setV l.fs l.W n).length; omega) (by have := HLN.out; show (setV l.fs l.W n).length ≤ 100000; omega) HU.out.2.2.2)
      clear HBAD HBX r0 r1 r2 r3 r4 r5 r6 r7 g0
      go_wp2_with fail
      have HS3 := Lib.hid (show ∀ Z, Below w1.heap.size w1 Z → Z.cell? ⟨w.heap.size, 0, none⟩ = some (.int .u64 l.i) ∧ Z.cell? ⟨w.heap.size, 1, none⟩ = some (.int .i64 l.W) ∧ Z.cell? ⟨w.heap.size, 3, none⟩ = some (.slice l.a l.fs.length l.c) from fun Z hZ => by
        have hb := HB1.out.2.1.below hZ
        exact ⟨hb.cell 0, hb.cell 1, hb.cell 3⟩)
      go_region_held (fun Z => Z.cell? ⟨w.heap.size, 0, none⟩ = some (.int .u64 l.i) ∧ Z.cell? ⟨w.heap.size, 1, none⟩ = some (.int .i64 l.W) ∧ Z.cell? ⟨w.heap.size, 3, none⟩ = some (.slice l.a l.fs.length l.c)) ((refine HS3.out _ ?_; (repeat' (first | (with_reducible exact Below.refl _ _) | (with_reducible exact Go.Joins.below_alloc1 _ _) | (with_reducible exact HB5.out.1) | (with_reducible exact HB3.out) | (with_reducible refine Below.drew ?_) | (with_reducible refine Below.alloc ?_ ?_ _) | (with_reducible refine Below.setCell ?_ ?_ _) | (with_reducible exact Nat.le_refl _) | (with_reducible exact HB5.out.1.size) | (with_reducible exact HB3.out.size))))) (first
        | (go_at_call 27; (with_reducible refine Calls.mono (HSE.out w1.drew (Below.via HB1.out.1 (Below.drew (Below.refl _ _)))) ?_); rintro e w3 ⟨v3, rfl, ho3, hb3⟩; obtain ⟨a3, k3, rfl⟩ := OwnPs.form ho3 HSO.out; have HB3 := Lib.hid (show Below w1.heap.size w1 w3 from Below.via (Below.drew (Below.refl _ _)) hb3); have HP3 := Lib.hid (OwnPs.at ho3 HSO.out); have HA3 := Lib.hid (a3_lies (w1 := w1) ho3 (Nat.le_refl _)); clear ho3 hb3)
        | (go_at_call 27; (with_reducible refine Calls.mono (HSE.out (w1.alloc (.cells #[.int .u64 0, .int .u64 0, .slice none 0 0, .int .i64 0, .int .u64 0, .int .u64 0, .int .i64 0, .slice none 0 0] 32)).drew (Below.via HB1.out.1 (Below.drew (Go.Joins.below_alloc1 _ _)))) ?_); rintro e w3 ⟨v3, rfl, ho3, hb3⟩; obtain ⟨a3, k3, rfl⟩ := OwnPs.form ho3 HSO.out; have HB3 := Lib.hid (show Below w1.heap.size w1 w3 from Below.via (Below.drew (Go.Joins.below_alloc1 _ _)) hb3); have HP3 := Lib.hid (OwnPs.at ho3 HSO.out); have HA3 := Lib.hid (a3_lies (w1 := w1) ho3 (Go.Joins.below_alloc1 w1 _).size); have HQ3 := Lib.hid (show BoxC w3 w1.heap.size 32 zero32 from (BoxC.drew (BoxC.new w1 32 zero32)).below hb3); clear ho3 hb3)
        | (go_at_call 26; (with_reducible refine Calls.mono (HAS.out w3 _ _ (PsAt.below HP3.out (Below.refl _ _))) ?_); rintro e w5 ⟨z, ra, rc, rfl, p1, p2, p3, p4, p5, p6⟩; have HB5 := Lib.hid (And.intro (show Below w1.heap.size w1 w5 from Below.via (Below.via HB3.out (Below.refl _ _)) p4) (And.intro (And.intro p1 p2) (And.intro (And.intro p3 p5) (fun b e => Nat.le_trans (Below.via HB3.out (Below.refl _ _)).size (p6 b e))))); (try (have hq := HQ3.out.below p4; have gq := hq.fz; obtain ⟨q0, q1, q2, q3, q4, q5, q6, q7⟩ := t8 hq; have HQ := Lib.hid hq; clear hq; skip)); clear p1 p2 p3 p4 p5 p6)
        | (go_at_call 26; (with_reducible refine Calls.mono (HAS.out (w3.alloc (.cells #[.int .u64 0, .int .u64 0, .slice none 0 0, .int .i64 0, .int .u64 0, .int .u64 0, .int .i64 0, .slice none 0 0] 32)) _ _ (PsAt.below HP3.out (Go.Joins.below_alloc1 _ _))) ?_); rintro e w5 ⟨z, ra, rc, rfl, p1, p2, p3, p4, p5, p6⟩; have HB5 := Lib.hid (And.intro (show Below w1.heap.size w1 w5 from Below.via (Below.via HB3.out (Go.Joins.below_alloc1 _ _)) p4) (And.intro (And.intro p1 p2) (And.intro (And.intro p3 p5) (fun b e => Nat.le_trans (Below.via HB3.out (Go.Joins.below_alloc1 _ _)).size (p6 b e))))); have hq : BoxC w5 w3.heap.size 32 zero32 := (BoxC.new w3 32 zero32).below p4; have gq := hq.fz; obtain ⟨q0, q1, q2, q3, q4, q5, q6, q7⟩ := t8 hq; have HQ := Lib.hid hq; clear hq; clear p1 p2 p3 p4 p5 p6))
      · have hblk : ∀ b, z.blk b → w1.heap.size ≤ b ∧ b < w3.heap.size ∧ ∀ T cs, BoxC w3 b T cs → T = 40 := fun b e => by
          rcases e with e | e
          · rw [HB5.out.2.2.1.2.1] at e
            exact HA3.out b e
          · rw [HB5.out.2.2.1.2.2] at e
            cases e
        refine via (fun V => BoxC V w5.heap.size 32 z.cs.toArray ∧ z.ok V ∧ QsAt V (.slice ra (newM l n tag now).2.length rc) (newM l n tag now).2 ∧ Below w1.heap.size w1 V) ⟨BoxC.new w5 32 z.cs.toArray, HB5.out.2.1.2.below (Go.Joins.below_alloc1 w5 _), QsAt.below HB5.out.2.2.1.1 (Go.Joins.below_alloc1 w5 _), Below.via HB5.out.1 (Go.Joins.below_alloc1 w5 _)⟩ (fun V hV => ?_)
        have hnf := new_fin HG.out HB1.out.2.2 (Nat.le_succ _) HB1.out.1 HB5.out.2.1.1 hV.2 (fun b e => (hblk b e).1) HB5.out.2.2.2
        have HNF := Lib.hid hnf
        (try clear q0 q1 q2 q3 q4 q5 q6 q7 gq)
        obtain ⟨c0, c1, c2, c3, c4, c5, c6, c7⟩ := FeV.c8 hV.1
        obtain ⟨r0, r1, r2, r3, r4, r5, r6, r7⟩ := t8 hnf.1
        have g0 := hnf.1.fz
        unfold put8n at HNF
        clear hnf hV hblk b0 b1 b3 b4 b5
        go_wp2
        refine bodyPost_ret (results_f3 rfl _ _ (w.heap.size + 1) z rfl HNF.out.2.1) rfl ?_
        exact HNF.out.2.2
      · have hblk : ∀ b, z.blk b → w1.heap.size ≤ b ∧ b < w3.heap.size ∧ ∀ T cs, BoxC w3 b T cs → T = 40 := fun b e => by
          rcases e with e | e
          · rw [HB5.out.2.2.1.2.1] at e
            exact HA3.out b e
          · rw [HB5.out.2.2.1.2.2] at e
            cases e
        refine via (fun V => BoxC V w3.heap.size 32 z.cs.toArray ∧ z.ok V ∧ QsAt V (.slice ra (newM l n tag now).2.length rc) (newM l n tag now).2 ∧ Below w1.heap.size w1 V) (put_fin HQ.out HB3.out.size HB5.out.1 HB5.out.2.1.2 HB5.out.2.2.1.1 (fun b e he => by have h3 := hblk b e; subst he; omega)) (fun V hV => ?_)
        have hnf := new_fin HG.out HB1.out.2.2 (Nat.le_succ _) HB1.out.1 HB5.out.2.1.1 hV.2 (fun b e => (hblk b e).1) HB5.out.2.2.2
        have HNF := Lib.hid hnf
        (try clear q0 q1 q2 q3 q4 q5 q6 q7 gq)
        obtain ⟨c0, c1, c2, c3, c4, c5, c6, c7⟩ := FeV.c8 hV.1
        obtain ⟨r0, r1, r2, r3, r4, r5, r6, r7⟩ := t8 hnf.1
        have g0 := hnf.1.fz
        unfold put8n at HNF
        clear hnf hV hblk b0 b1 b3 b4 b5
        go_wp2
        refine bodyPost_ret (results_f3 rfl _ _ (w.heap.size + 1) z rfl HNF.out.2.1) rfl ?_
        exact HNF.out.2.2
      · have hblk : ∀ b, z.blk b → w1.heap.size ≤ b ∧ b < w3.heap.size ∧ ∀ T cs, BoxC w3 b T cs → T = 40 := fun b e => by
          rcases e with e | e
          · rw [HB5.out.2.2.1.2.1] at e
            exact HA3.out b e
          · rw [HB5.out.2.2.1.2.2] at e
            cases e
        refine via (fun V => BoxC V w1.heap.size 32 z.cs.toArray ∧ z.ok V ∧ QsAt V (.slice ra (newM l n tag now).2.length rc) (newM l n tag now).2 ∧ Below w1.heap.size w1 V) (put_fin HQ.out (Nat.le_refl _) HB5.out.1 HB5.out.2.1.2 HB5.out.2.2.1.1 (fun b e he => by have h3 := hblk b e; subst he; have := h3.2.2 _ _ HQ3.out; cases this)) (fun V hV => ?_)
        have hnf := new_fin HG.out HB1.out.2.2 (Nat.le_succ _) HB1.out.1 HB5.out.2.1.1 hV.2 (fun b e => (hblk b e).1) HB5.out.2.2.2
        have HNF := Lib.hid hnf
        (try clear q0 q1 q2 q3 q4 q5 q6 q7 gq)
        obtain ⟨c0, c1, c2, c3, c4, c5, c6, c7⟩ := FeV.c8 hV.1
        obtain ⟨r0, r1, r2, r3, r4, r5, r6, r7⟩ := t8 hnf.1
        have g0 := hnf.1.fz
        unfold put8n at HNF
        clear hnf hV hblk b0 b1 b3 b4 b5
        go_wp2
        refine bodyPost_ret (results_f3 rfl _ _ (w.heap.size + 1) z rfl HNF.out.2.1) rfl ?_
        exact HNF.out.2.2
    · have d3 : (l.cl == 1) = false := by simpa using k3
      have d3' : decide (l.cl = 1) = false := decide_eq_false k3
      have HG := Lib.hid (show NewOk l n from ⟨HMA.out, HN8.out.1, HN8.out.2, fun h => absurd h k3⟩)
      clear k1 k2 k3
      have HSE := Lib.hid (show ∀ Z, Below w.heap.size w Z → _ from fun Z hZ => rset_any (.slice l.a l.fs.length l.c) l.W n l.fs Z (HL.out.1.below hZ) HL.out.2 HU.out.2.1)
      have HLN := Lib.hid (show (setV l.fs l.W n).length = l.W.toNat ∧ 1 ≤ l.W ∧ l.W ≤ 5 from ⟨ledger_len HMA.out HN8.out.1, by have := HMA.out.2.1; omega, HMA.out.2.1.2.2⟩)
      have HSO := Lib.hid (setV_ok (n := l.W) (k := n) (fs_ok HL.out.1))
      have HAS := Lib.hid (show ∀ Z a c, PsAt Z (.slice a (setV l.fs l.W n).length c) (setV l.fs l.W n) → Calls Tryz.prog 26 #[.agg #[.int .u64 l.i, .int .u64 n, .slice a (setV l.fs l.W n).length c, .int .i64 0, .int .u64 0, .int .u64 tag, .int .i64 0, .slice none 0 0], .int .i64 0, .int .u64 now] Z fun e w' => RefPost ⟨l.i, n, a, c, setV l.fs l.W n, 0, 0, tag, 0, none, 0, []⟩ (newM l n tag now) Z e w' from fun Z a c hp => dask_at ⟨l.i, n, a, c, setV l.fs l.W n, 0, 0, tag, 0, none, 0, []⟩ 0 0 now Z (.inr ⟨by have := HLN.out; show (0 : Int) < ((setV l.fs l.W n).length : Int); omega, rfl⟩) ⟨⟨⟨HU.out.1, HU.out.2.1⟩, by unfold i64ok; dsimp only; omega, by unfold u64ok; dsimp only; omega, HU.out.2.2.1, by unfold i64ok; dsimp only; omega⟩, hp, RowAt.nil _⟩ (by omega) (by omega) (by have := HLN.out; show 0 < (setV l.fs l.W n).length; omega) (by have := HLN.out; show (setV l.fs l.W n).length ≤ 100000; omega) HU.out.2.2.2)
      clear HBAD HBX r0 r1 r2 r3 r4 r5 r6 r7 g0
      go_wp2_with fail
      have HS3 := Lib.hid (show ∀ Z, Below w1.heap.size w1 Z → Z.cell? ⟨w.heap.size, 0, none⟩ = some (.int .u64 l.i) ∧ Z.cell? ⟨w.heap.size, 1, none⟩ = some (.int .i64 l.W) ∧ Z.cell? ⟨w.heap.size, 3, none⟩ = some (.slice l.a l.fs.length l.c) from fun Z hZ => by
        have hb := HB1.out.2.1.below hZ
        exact ⟨hb.cell 0, hb.cell 1, hb.cell 3⟩)
      go_region_held (fun Z => Z.cell? ⟨w.heap.size, 0, none⟩ = some (.int .u64 l.i) ∧ Z.cell? ⟨w.heap.size, 1, none⟩ = some (.int .i64 l.W) ∧ Z.cell? ⟨w.heap.size, 3, none⟩ = some (.slice l.a l.fs.length l.c)) ((refine HS3.out _ ?_; (repeat' (first | (with_reducible exact Below.refl _ _) | (with_reducible exact Go.Joins.below_alloc1 _ _) | (with_reducible exact HB5.out.1) | (with_reducible exact HB3.out) | (with_reducible refine Below.drew ?_) | (with_reducible refine Below.alloc ?_ ?_ _) | (with_reducible refine Below.setCell ?_ ?_ _) | (with_reducible exact Nat.le_refl _) | (with_reducible exact HB5.out.1.size) | (with_reducible exact HB3.out.size))))) (first
        | (go_at_call 27; (with_reducible refine Calls.mono (HSE.out w1.drew (Below.via HB1.out.1 (Below.drew (Below.refl _ _)))) ?_); rintro e w3 ⟨v3, rfl, ho3, hb3⟩; obtain ⟨a3, k3, rfl⟩ := OwnPs.form ho3 HSO.out; have HB3 := Lib.hid (show Below w1.heap.size w1 w3 from Below.via (Below.drew (Below.refl _ _)) hb3); have HP3 := Lib.hid (OwnPs.at ho3 HSO.out); have HA3 := Lib.hid (a3_lies (w1 := w1) ho3 (Nat.le_refl _)); clear ho3 hb3)
        | (go_at_call 27; (with_reducible refine Calls.mono (HSE.out (w1.alloc (.cells #[.int .u64 0, .int .u64 0, .slice none 0 0, .int .i64 0, .int .u64 0, .int .u64 0, .int .i64 0, .slice none 0 0] 32)).drew (Below.via HB1.out.1 (Below.drew (Go.Joins.below_alloc1 _ _)))) ?_); rintro e w3 ⟨v3, rfl, ho3, hb3⟩; obtain ⟨a3, k3, rfl⟩ := OwnPs.form ho3 HSO.out; have HB3 := Lib.hid (show Below w1.heap.size w1 w3 from Below.via (Below.drew (Go.Joins.below_alloc1 _ _)) hb3); have HP3 := Lib.hid (OwnPs.at ho3 HSO.out); have HA3 := Lib.hid (a3_lies (w1 := w1) ho3 (Go.Joins.below_alloc1 w1 _).size); have HQ3 := Lib.hid (show BoxC w3 w1.heap.size 32 zero32 from (BoxC.drew (BoxC.new w1 32 zero32)).below hb3); clear ho3 hb3)
        | (go_at_call 26; (with_reducible refine Calls.mono (HAS.out w3 _ _ (PsAt.below HP3.out (Below.refl _ _))) ?_); rintro e w5 ⟨z, ra, rc, rfl, p1, p2, p3, p4, p5, p6⟩; have HB5 := Lib.hid (And.intro (show Below w1.heap.size w1 w5 from Below.via (Below.via HB3.out (Below.refl _ _)) p4) (And.intro (And.intro p1 p2) (And.intro (And.intro p3 p5) (fun b e => Nat.le_trans (Below.via HB3.out (Below.refl _ _)).size (p6 b e))))); (try (have hq := HQ3.out.below p4; have gq := hq.fz; obtain ⟨q0, q1, q2, q3, q4, q5, q6, q7⟩ := t8 hq; have HQ := Lib.hid hq; clear hq; skip)); clear p1 p2 p3 p4 p5 p6)
        | (go_at_call 26; (with_reducible refine Calls.mono (HAS.out (w3.alloc (.cells #[.int .u64 0, .int .u64 0, .slice none 0 0, .int .i64 0, .int .u64 0, .int .u64 0, .int .i64 0, .slice none 0 0] 32)) _ _ (PsAt.below HP3.out (Go.Joins.below_alloc1 _ _))) ?_); rintro e w5 ⟨z, ra, rc, rfl, p1, p2, p3, p4, p5, p6⟩; have HB5 := Lib.hid (And.intro (show Below w1.heap.size w1 w5 from Below.via (Below.via HB3.out (Go.Joins.below_alloc1 _ _)) p4) (And.intro (And.intro p1 p2) (And.intro (And.intro p3 p5) (fun b e => Nat.le_trans (Below.via HB3.out (Go.Joins.below_alloc1 _ _)).size (p6 b e))))); have hq : BoxC w5 w3.heap.size 32 zero32 := (BoxC.new w3 32 zero32).below p4; have gq := hq.fz; obtain ⟨q0, q1, q2, q3, q4, q5, q6, q7⟩ := t8 hq; have HQ := Lib.hid hq; clear hq; clear p1 p2 p3 p4 p5 p6))
      · have hblk : ∀ b, z.blk b → w1.heap.size ≤ b ∧ b < w3.heap.size ∧ ∀ T cs, BoxC w3 b T cs → T = 40 := fun b e => by
          rcases e with e | e
          · rw [HB5.out.2.2.1.2.1] at e
            exact HA3.out b e
          · rw [HB5.out.2.2.1.2.2] at e
            cases e
        refine via (fun V => BoxC V w5.heap.size 32 z.cs.toArray ∧ z.ok V ∧ QsAt V (.slice ra (newM l n tag now).2.length rc) (newM l n tag now).2 ∧ Below w1.heap.size w1 V) ⟨BoxC.new w5 32 z.cs.toArray, HB5.out.2.1.2.below (Go.Joins.below_alloc1 w5 _), QsAt.below HB5.out.2.2.1.1 (Go.Joins.below_alloc1 w5 _), Below.via HB5.out.1 (Go.Joins.below_alloc1 w5 _)⟩ (fun V hV => ?_)
        have hnf := new_fin HG.out HB1.out.2.2 (Nat.le_succ _) HB1.out.1 HB5.out.2.1.1 hV.2 (fun b e => (hblk b e).1) HB5.out.2.2.2
        have HNF := Lib.hid hnf
        (try clear q0 q1 q2 q3 q4 q5 q6 q7 gq)
        obtain ⟨c0, c1, c2, c3, c4, c5, c6, c7⟩ := FeV.c8 hV.1
        obtain ⟨r0, r1, r2, r3, r4, r5, r6, r7⟩ := t8 hnf.1
        have g0 := hnf.1.fz
        unfold put8n at HNF
        clear hnf hV hblk b0 b1 b3 b4 b5
        go_wp2
        refine bodyPost_ret (results_f3 rfl _ _ (w.heap.size + 1) z rfl HNF.out.2.1) rfl ?_
        exact HNF.out.2.2
      · have hblk : ∀ b, z.blk b → w1.heap.size ≤ b ∧ b < w3.heap.size ∧ ∀ T cs, BoxC w3 b T cs → T = 40 := fun b e => by
          rcases e with e | e
          · rw [HB5.out.2.2.1.2.1] at e
            exact HA3.out b e
          · rw [HB5.out.2.2.1.2.2] at e
            cases e
        refine via (fun V => BoxC V w3.heap.size 32 z.cs.toArray ∧ z.ok V ∧ QsAt V (.slice ra (newM l n tag now).2.length rc) (newM l n tag now).2 ∧ Below w1.heap.size w1 V) (put_fin HQ.out HB3.out.size HB5.out.1 HB5.out.2.1.2 HB5.out.2.2.1.1 (fun b e he => by have h3 := hblk b e; subst he; omega)) (fun V hV => ?_)
        have hnf := new_fin HG.out HB1.out.2.2 (Nat.le_succ _) HB1.out.1 HB5.out.2.1.1 hV.2 (fun b e => (hblk b e).1) HB5.out.2.2.2
        have HNF := Lib.hid hnf
        (try clear q0 q1 q2 q3 q4 q5 q6 q7 gq)
        obtain ⟨c0, c1, c2, c3, c4, c5, c6, c7⟩ := FeV.c8 hV.1
        obtain ⟨r0, r1, r2, r3, r4, r5, r6, r7⟩ := t8 hnf.1
        have g0 := hnf.1.fz
        unfold put8n at HNF
        clear hnf hV hblk b0 b1 b3 b4 b5
        go_wp2
        refine bodyPost_ret (results_f3 rfl _ _ (w.heap.size + 1) z rfl HNF.out.2.1) rfl ?_
        exact HNF.out.2.2
      · have hblk : ∀ b, z.blk b → w1.heap.size ≤ b ∧ b < w3.heap.size ∧ ∀ T cs, BoxC w3 b T cs → T = 40 := fun b e => by
          rcases e with e | e
          · rw [HB5.out.2.2.1.2.1] at e
            exact HA3.out b e
          · rw [HB5.out.2.2.1.2.2] at e
            cases e
        refine via (fun V => BoxC V w1.heap.size 32 z.cs.toArray ∧ z.ok V ∧ QsAt V (.slice ra (newM l n tag now).2.length rc) (newM l n tag now).2 ∧ Below w1.heap.size w1 V) (put_fin HQ.out (Nat.le_refl _) HB5.out.1 HB5.out.2.1.2 HB5.out.2.2.1.1 (fun b e he => by have h3 := hblk b e; subst he; have := h3.2.2 _ _ HQ3.out; cases this)) (fun V hV => ?_)
        have hnf := new_fin HG.out HB1.out.2.2 (Nat.le_succ _) HB1.out.1 HB5.out.2.1.1 hV.2 (fun b e => (hblk b e).1) HB5.out.2.2.2
        have HNF := Lib.hid hnf
        (try clear q0 q1 q2 q3 q4 q5 q6 q7 gq)
        obtain ⟨c0, c1, c2, c3, c4, c5, c6, c7⟩ := FeV.c8 hV.1
        obtain ⟨r0, r1, r2, r3, r4, r5, r6, r7⟩ := t8 hnf.1
        have g0 := hnf.1.fz
        unfold put8n at HNF
        clear hnf hV hblk b0 b1 b3 b4 b5
        go_wp2
        refine bodyPost_ret (results_f3 rfl _ _ (w.heap.size + 1) z rfl HNF.out.2.1) rfl ?_
        exact HNF.out.2.2
end Go.Proofs.YtpihogkhfmijcaaGreat
