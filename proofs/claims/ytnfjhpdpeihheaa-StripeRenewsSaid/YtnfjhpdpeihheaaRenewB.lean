/- Renew. -/
import Derived.Test.YtnfjhpdpeihheaaRenewA
namespace Go.Proofs.Ytnfjhpdpeihheaa
open Go.RowKit Go.Maps Go.Shelf
theorem repl_len {row : List PL} {x : PL} : ∀ {good : List PL} {r : List PL}, replL row x good = some r → r.length = row.length
  | [], _, h => by cases h
  | g :: gs, r, h => by
    simp only [replL] at h
    cases hs : swapL row x g with
    | some q => rw [hs] at h; cases h; exact swap_len hs
    | none => rw [hs] at h; exact repl_len h
/-- a bad place replaced, if one can be -/
def stepR (bad good : List PL) (R : List PL) (p : PL) : List PL := if bad.contains p = true then (replL R p good).getD R else R
theorem stepR_len (bad good R : List PL) (p : PL) : (stepR bad good R p).length = R.length := by
  unfold stepR
  split
  · cases h : replL R p good with
    | none => rfl
    | some r => exact repl_len h
  · rfl
theorem foldR_len (bad good : List PL) : ∀ (l R : List PL), (l.foldl (stepR bad good) R).length = R.length
  | [], _ => rfl
  | x :: l, R => by rw [List.foldl_cons, foldR_len bad good l, stepR_len]
def renR (bad good row : List PL) (k : Nat) : List PL := (row.take k).foldl (stepR bad good) row
theorem renR_len (bad good row : List PL) (k : Nat) : (renR bad good row k).length = row.length := foldR_len _ _ _ _
theorem renR_succ {bad good row : List PL} {k : Nat} {x : PL} (hx : row[k]? = some x) : renR bad good row (k + 1) = stepR bad good (renR bad good row k) x := by
  unfold renR
  rw [take_snoc hx, List.foldl_append]
  rfl
/-- what Renew answers -/
def renewRes (f : Int) (row : List PL) (w e : Int) (bad known : List PL) : Int × List PL × Bool :=
  if leaveL bad.contains w (renR bad (rej bad.contains known) row row.length) = row then (0, [], false)
  else (f, ext (leaveL bad.contains w (renR bad (rej bad.contains known) row row.length)) (min e 5) (rej bad.contains known), true)
theorem ps_box {W : World} {v : Value} {l : List PL} {B o : Nat} {f : Int} {u x : Value} (h : PsAt W v l) (hB : Box25 W B f u) : PsAt (W.setCell ⟨B, o, none⟩ x) v l := by
  obtain ⟨a, cap, hv, h1, h2, h3, h4⟩ := h
  refine ⟨a, cap, hv, h1, h2, h3, fun h0 => ?_⟩
  obtain ⟨b, off, ha, hb, hc⟩ := h4 h0
  have hne : b ≠ B := by
    rintro rfl
    obtain ⟨y, hy⟩ : ∃ y, l[0]? = some y := ⟨_, List.getElem?_eq_getElem h0⟩
    have h5 := (hc 0 y hy).2 0 (by omega)
    have h6 := (hc 0 y hy).2 1 (by omega)
    rw [Go.Joins.cell_of_block hB] at h5 h6
    simp only [Nat.zero_mul, Nat.add_zero, PL.cells] at h5 h6
    match off with
    | 0 => simp at h5
    | 1 => simp at h6
    | (n + 2) => simp at h5
  exact ⟨b, off, ha, by simpa [World.setCell] using hb, fun j y hj => ⟨(hc j y hj).1, fun r hr => by
    rw [World.cell?_of_block (Below.heap_setCell W ⟨B, o, none⟩ x b hne)]
    exact (hc j y hj).2 r hr⟩⟩
set_option maxRecDepth 100000 in
set_option maxHeartbeats 4000000 in
theorem renew_any (f : Int) (a : Option Addr) (c : Nat) (row : List PL) (n e : Int) (vb vk : Value) (bad known : List PL) (w : World) (hp : PsAt w (.slice a row.length c) row) (hb0 : PsAt w vb bad) (hk0 : PsAt w vk known) (hl : row.length ≤ 100000) (hl2 : bad.length ≤ 100000) (hl3 : known.length ≤ 100000) :
    Calls Try.prog 25 #[.agg #[.int .u64 f, .slice a row.length c], .int .i64 n, .int .i64 e, vb, vk] w fun x w' => ∃ a' c', x = .returned (.tuple #[.agg #[.int .u64 (renewRes f row n e bad known).1, .slice a' (renewRes f row n e bad known).2.1.length c'], .bool (renewRes f row n e bad known).2.2]) ∧ PsAt w' (.slice a' (renewRes f row n e bad known).2.1.length c') (renewRes f row n e bad known).2.1 ∧ Below w.heap.size w w' := by
  have HP := Lib.hid hp
  have HBD := Lib.hid hb0
  have HKN := Lib.hid hk0
  have HPO := Lib.hid hp.ok
  have HKO := Lib.hid hk0.ok
  obtain ⟨E, hE⟩ : ∃ E, row.length = E := ⟨_, rfl⟩
  rw [hE] at HP hl ⊢
  have HE := Lib.hid hE
  clear hE hp hb0 hk0
  obtain ⟨F', hF'⟩ : ∃ F', (renewRes f row n e bad known).1 = F' := ⟨_, rfl⟩
  obtain ⟨R', hR'⟩ : ∃ R', (renewRes f row n e bad known).2.1 = R' := ⟨_, rfl⟩
  obtain ⟨B', hB'⟩ : ∃ B', (renewRes f row n e bad known).2.2 = B' := ⟨_, rfl⟩
  rw [hF', hR', hB']
  have HF := Lib.hid hF'
  have HR := Lib.hid hR'
  have HBB := Lib.hid hB'
  clear hF' hR' hB'
  obtain ⟨W, hW⟩ : ∃ W, W = (w.alloc (.cells #[.int .u64 f, .slice a E c] 25)).alloc (.cells #[.int .u64 0, .slice none 0 0] 25) := ⟨_, rfl⟩
  have s1 : (w.alloc (.cells #[.int .u64 f, .slice a E c] 25)).heap.size = w.heap.size + 1 := World.size_alloc _ _
  have H0 := Lib.hid (show Below w.heap.size w W ∧ Box25 W w.heap.size f (.slice a E c) ∧ Box25 W (w.heap.size + 1) 0 (.slice none 0 0) from by
    rw [hW]
    refine ⟨((Below.refl _ w).alloc (Nat.le_refl _) _).alloc (by omega) _, (Box25.new w f (.slice a E c)).alloc _, ?_⟩
    have := Box25.new (w.alloc (.cells #[.int .u64 f, .slice a E c] 25)) 0 (.slice none 0 0)
    rw [s1] at this
    exact this)
  have HAM := Lib.hid (among_any vb bad W (HBD.out.below H0.out.1) hl2)
  go_enter Try.func25, Try.ntmps25
  go_wp2_with fail
  change Calls _ _ _ ((w.alloc (.cells #[.int .u64 f, .slice a E c] 25)).alloc (.cells #[.int .u64 0, .slice none 0 0] 25)) _
  rw [← hW]
  clear hW s1
  refine HAM.out.mono ?_
  rintro x1 w1 ⟨rfl, hr⟩
  have HAS := Lib.hid (AmongAt.asks (AmongAt.of hr))
  have hb1 := hr.2.2.2
  have hbw1 := H0.out.1.trans (hb1.mono H0.out.1.size)
  have H1 := Lib.hid (And.intro hbw1 (And.intro (H0.out.2.1.below hb1) (H0.out.2.2.below hb1)))
  have HWO := Lib.hid (without_any vk known 53 (.pointer (some ⟨W.heap.size + 1, 0, none⟩)) bad.contains w1 (HKN.out.below hbw1) hl3 HAS.out)
  clear hr hb1 hbw1 HAM
  go_wp2_with fail
  refine HWO.out.mono ?_
  rintro x2 w2 ⟨v2, rfl, ho2, hb2⟩
  have HGO := Lib.hid (show ∀ q ∈ rej bad.contains known, q.ok from rej_ok HKO.out)
  have HGP := Lib.hid (OwnPs.at ho2 HGO.out)
  have HGL := Lib.hid (show (rej bad.contains known).length ≤ 100000 from Nat.le_trans (rej_len _ _) hl3)
  have H2 := Lib.hid (show Below w.heap.size w w2 ∧ Box25 w2 w.heap.size f (.slice a E c) ∧ Box25 w2 (w.heap.size + 1) 0 (.slice none 0 0) ∧ Below w1.heap.size w1 w2 from ⟨H1.out.1.trans (hb2.mono H1.out.1.size), H1.out.2.1.below hb2, H1.out.2.2.below hb2, hb2⟩)
  obtain ⟨good, hgood⟩ : ∃ good, rej bad.contains known = good := ⟨_, rfl⟩
  rw [hgood] at HGO HGP HGL
  have HGG := Lib.hid hgood
  clear ho2 hb2 HWO hgood
  obtain ⟨X, hX⟩ : ∃ X, X = w2.alloc (.cells #[.int .u64 f, .slice a E c] 25) := ⟨_, rfl⟩
  have hbX : Below w2.heap.size w2 X := by rw [hX]; exact Go.Joins.below_alloc1 _ _
  have HX0 := Lib.hid (show Below w2.heap.size w2 X ∧ Box25 X w2.heap.size f (.slice a E c) from ⟨hbX, by rw [hX]; exact Box25.new _ _ _⟩)
  have c0 := H2.out.2.1.c0
  have c1 := H2.out.2.1.c1
  have c1a : ∀ o, (w2.alloc o).cell? ⟨w.heap.size, 1, none⟩ = some (.slice a E c) := fun o => (H2.out.2.1.alloc o).c1
  clear hbX
  go_wp2_with fail
  change Code.wp _ _ _ _ (w2.alloc (.cells #[.int .u64 f, .slice a E c] 25))
  rw [← hX]
  clear hX c0 c1 c1a
  have hen := HAS.out.enters
  go_loopw [27] (fun i wr => ∃ t : Nat, t ≤ E ∧ i = .int .i64 (t : Nat) ∧ Hid (∃ a' c', Box25 wr w2.heap.size f (.slice a' E c') ∧ PsAt wr (.slice a' E c') (renR bad good row t)) ∧ Hid (Below w2.heap.size w2 wr)) (fun i _ => E - (intOf i).toNat)
  case atStart => exact ⟨0, Nat.zero_le _, rfl, ⟨a, c, HX0.out.2, by unfold renR; rw [List.take_zero]; exact HP.out.below (H2.out.1.trans (HX0.out.1.mono H2.out.1.size))⟩, HX0.out.1⟩
  case round =>
    obtain ⟨t, ht, rfl, HS, HB⟩ := hrel
    obtain ⟨a', c', hbx, hps⟩ := HS.out
    have HBW := Lib.hid (H2.out.1.trans (HB.out.mono H2.out.1.size))
    obtain ⟨R, hR⟩ : ∃ R, renR bad good row t = R := ⟨_, rfl⟩
    rw [hR] at hps
    have HRL := Lib.hid (show R.length = E by rw [← hR, renR_len]; exact HE.out)
    have HRR := Lib.hid hR
    clear hR
    by_cases hlt : t < E
    · have hltz : (t : Int) < (E : Int) := by omega
      obtain ⟨x, hx⟩ : ∃ x, row[t]? = some x := ⟨_, List.getElem?_eq_getElem (by rw [HE.out]; exact hlt)⟩
      obtain ⟨pb, po, rfl, _, hc⟩ := PsAt.cell (HP.out.below HBW.out) hx
      obtain ⟨c0, c1⟩ := hc wr (Below.refl _ _)
      have hsc := renR_succ (bad := bad) (good := good) hx
      rw [HRR.out] at hsc
      obtain ⟨Y, hY⟩ : ∃ Y, wr.alloc (.cells #[.int .i64 x.n, .int .u64 x.s] 38) = Y := ⟨_, rfl⟩
      have hbY : Below wr.heap.size wr Y := by rw [← hY]; exact Go.Joins.below_alloc1 _ _
      have hx38 : Box38 Y wr.heap.size x := by rw [← hY]; exact Box38.new _ _
      have p0 := hx38.c0
      have p1 := hx38.c1
      have HBY := Lib.hid (HB.out.trans (hbY.mono HB.out.size))
      have HIS := Lib.hid (HAS.out.calls Y (H2.out.2.2.2.trans (HBY.out.mono H2.out.2.2.2.size)) x (HPO.out x (List.mem_of_getElem? hx)))
      have HY := Lib.hid (And.intro (hbx.below hbY) (And.intro (PsAt.below hps hbY) hx38))
      have HSC := Lib.hid hsc
      clear hc hx hbY hx38 hsc hbx hps
      cases hbd : bad.contains x
      · rw [hbd] at HIS
        have HN := Lib.hid (show renR bad good row (t + 1) = R by rw [HSC.out]; unfold stepR; rw [hbd]; simp)
        clear hbd
        go_wp2_with fail
        refine HIS.out.mono ?_
        rintro x3 w3 ⟨rfl, hb3⟩
        have H3 := Lib.hid (And.intro (HY.out.1.below hb3) (And.intro (PsAt.below HY.out.2.1 hb3) (HBY.out.trans (hb3.mono HBY.out.size))))
        clear hb3
        go_wp2
        go_roundw
        case rel => exact ⟨t + 1, by omega, by go_num, ⟨_, _, H3.out.1, by rw [HN.out]; exact H3.out.2.1⟩, H3.out.2.2⟩
        case measure => simp [intOf]; omega
      · rw [hbd] at HIS
        have HN := Lib.hid (show renR bad good row (t + 1) = (replL R x good).getD R by rw [HSC.out]; unfold stepR; rw [if_pos hbd])
        have HNL := Lib.hid (show ((replL R x good).getD R).length = E by rw [← HN.out, renR_len]; exact HE.out)
        clear hbd
        go_wp2_with fail
        refine HIS.out.mono ?_
        rintro x3 w3 ⟨rfl, hb3⟩
        have H3 := Lib.hid (And.intro (HY.out.1.below hb3) (HBY.out.trans (hb3.mono HBY.out.size)))
        have HRP := Lib.hid (repl_any f a' c' R x v2 good w3 (by rw [HRL.out]; exact PsAt.below HY.out.2.1 hb3) (PsAt.below HGP.out H3.out.2) (by rw [HRL.out]; exact hl))
        rw [HRL.out, HNL.out] at HRP
        have b0 := H3.out.1.c0
        have b1 := H3.out.1.c1
        have p0 := (HY.out.2.2.below hb3).c0
        have p1 := (HY.out.2.2.below hb3).c1
        clear hb3
        go_wp2_with fail
        refine HRP.out.mono ?_
        rintro x4 w4 ⟨a4, c4, rfl, hp4, hb4⟩
        have hbx4 := H3.out.1.below hb4
        have q0 := hbx4.c0
        have q1 := hbx4.c1
        have qf := hbx4.fz
        have hb24 := H3.out.2.trans (hb4.mono H3.out.2.size)
        have H4 := Lib.hid (And.intro (hbx4.put f (.slice a4 E c4)) (And.intro
          (ps_box (ps_box hp4 hbx4 (o := 0) (x := .int .u64 f)) (Go.Joins.block_setCell hbx4 (.int .u64 f)) (o := 1) (x := .slice a4 E c4))
          ((hb24.setCell (p := ⟨w2.heap.size, 0, none⟩) (Nat.le_refl _) (.int .u64 f)).setCell (p := ⟨w2.heap.size, 1, none⟩) (Nat.le_refl _) (.slice a4 E c4))))
        clear hp4 hb4 hbx4 hb24 b0 b1 p0 p1
        go_wp2
        go_roundw
        case rel => exact ⟨t + 1, by omega, by go_num, ⟨_, _, H4.out.1, by rw [HN.out]; exact H4.out.2.1⟩, H4.out.2.2⟩
        case measure => simp [intOf]; omega
    · obtain rfl : t = E := by omega
      have b0 := hbx.c0
      have b1 := hbx.c1
      have hBX := lt_of_block hbx
      have HRO := Lib.hid hps.ok
      have HLV := Lib.hid (leave_any (.slice a' t c') R n 53 (.pointer (some ⟨W.heap.size + 1, 0, none⟩)) bad.contains wr hps (by rw [HRL.out]; exact hl) (HAS.out.below (H2.out.2.2.2.trans (HB.out.mono H2.out.2.2.2.size))))
      have HBX := Lib.hid (And.intro hbx hBX)
      obtain ⟨S, hS⟩ : ∃ S, leaveL bad.contains n R = S := ⟨_, rfl⟩
      rw [hS] at HLV
      have HSL := Lib.hid (show S.length ≤ 100000 by rw [← hS]; have := leaveL_len bad.contains n R; have := HRL.out; omega)
      have HSO := Lib.hid (show ∀ q ∈ S, q.ok by rw [← hS]; exact fun q hq => HRO.out q (leaveL_mem q hq))
      have HRES := Lib.hid (show renewRes f row n e bad known = if S = row then (0, [], false) else (f, ext S (min e 5) good, true) by unfold renewRes; rw [HGG.out, HE.out, HRR.out, hS])
      clear hbx hps hS hBX HS
      go_wp2_with fail
      refine HLV.out.mono ?_
      rintro x5 w5 ⟨v5, rfl, ho5, hb5⟩
      have H5 := Lib.hid (And.intro ho5 (And.intro (HBX.out.1.below hb5) (And.intro hb5 (HB.out.trans (hb5.mono HB.out.size)))))
      have hs5 := H2.out.2.1.below H5.out.2.2.2
      have c0 := hs5.c0
      have c1 := hs5.c1
      obtain ⟨va, vc, rfl⟩ := OwnPs.form ho5 HSO.out
      have HEQ := Lib.hid (equal_any (.slice va S.length vc) (.slice a t c) S row w5 (OwnPs.at ho5 HSO.out) (HP.out.below (H2.out.1.trans (H5.out.2.2.2.mono H2.out.1.size))))
      clear ho5 hb5 hs5 b0 b1 HLV
      go_wp2_with fail
      refine HEQ.out.mono ?_
      rintro x6 w6 ⟨rfl, hb6⟩
      have H6 := Lib.hid (And.intro (H5.out.1.kept hb6 (Nat.le_refl _)) (And.intro (H5.out.2.1.below hb6) (And.intro (H5.out.2.2.1.trans (hb6.mono H5.out.2.2.1.size)) (H5.out.2.2.2.trans (hb6.mono H5.out.2.2.2.size)))))
      have ht6 := H2.out.2.2.1.below H6.out.2.2.2
      have r0 := ht6.c0
      have r1 := ht6.c1
      have rf := ht6.fz
      have HT6 := Lib.hid ht6
      clear hb6 c0 c1 ht6 HEQ
      by_cases hSr : S = row
      · have hd : decide (S = row) = true := decide_eq_true hSr
        have HFR := Lib.hid (show F' = 0 ∧ R' = [] ∧ B' = false from by
          have := HRES.out
          rw [if_pos hSr] at this
          rw [← HF.out, ← HR.out, ← HBB.out, this]
          exact ⟨rfl, rfl, rfl⟩)
        have HXX := Lib.hid (And.intro (HT6.out.put 0 (.slice none 0 0)) (((H2.out.1.trans (H6.out.2.2.2.mono H2.out.1.size)).setCell (p := ⟨w.heap.size + 1, 0, none⟩) (by show w.heap.size ≤ w.heap.size + 1; omega) (.int .u64 0)).setCell (p := ⟨w.heap.size + 1, 1, none⟩) (by show w.heap.size ≤ w.heap.size + 1; omega) (.slice none 0 0)))
        clear hSr
        go_wp2
        refine bodyPost_ret (results_frag rfl _ _ (w.heap.size + 1) _ _ (0, 0) rfl HXX.out.1) rfl ?_
        obtain ⟨rfl, rfl, rfl⟩ := HFR.out
        exact ⟨_, _, rfl, PsAt.nil _, HXX.out.2⟩
      · have hd : decide (S = row) = false := decide_eq_false hSr
        have HFR := Lib.hid (show F' = f ∧ R' = ext S (min e 5) good ∧ B' = true from by
          have := HRES.out
          rw [if_neg hSr] at this
          rw [← HF.out, ← HR.out, ← HBB.out, this]
          exact ⟨rfl, rfl, rfl⟩)
        have HEX := Lib.hid (extend_any (.slice va S.length vc) v2 S good (min e 5) wr.heap.size w6 H6.out.1 HSO.out H6.out.2.2.1.size (fun W' hW' => PsAt.below HGP.out (H6.out.2.2.2.trans (hW'.mono HB.out.size))) HSL.out HGL.out)
        obtain ⟨V, hV⟩ : ∃ V, ext S (min e 5) good = V := ⟨_, rfl⟩
        rw [hV] at HEX HFR
        have HE1 := Lib.hid (show e ≤ 5 → _ from fun h => by have := HEX.out; rw [Int.min_eq_left h] at this; exact this)
        have HE2 := Lib.hid (show 5 ≤ e → _ from fun h => by have := HEX.out; rw [Int.min_eq_right h] at this; exact this)
        have HXO := Lib.hid (show ∀ q ∈ V, q.ok from fun q hq => by
          rw [← hV] at hq
          rcases ext_mem q hq with h | h
          · exact HSO.out q h
          · exact HGO.out q h)
        have HWL := Lib.hid (show w.heap.size + 1 < w2.heap.size from lt_of_block H2.out.2.2.1)
        have HBL := Lib.hid HBX.out.2
        clear hSr HEX r0 r1 rf hV
        have HFIN := Lib.hid (show ∀ v7 w7, OwnPs wr.heap.size w7 v7 V → Below wr.heap.size w6 w7 → ∃ a7 c7, v7 = .slice a7 V.length c7 ∧
            (w7.cell? ⟨w2.heap.size, 0, none⟩ = some (.int .u64 f) ∧ w7.cell? ⟨w2.heap.size, 1, none⟩ = some (.slice a' t c') ∧ (∀ j, w7.frozen? ⟨w2.heap.size, j, none⟩ = false)) ∧
            ((w7.setCell ⟨w2.heap.size, 1, none⟩ v7).cell? ⟨w2.heap.size, 0, none⟩ = some (.int .u64 f) ∧ (w7.setCell ⟨w2.heap.size, 1, none⟩ v7).cell? ⟨w2.heap.size, 1, none⟩ = some v7 ∧ (w7.setCell ⟨w2.heap.size, 1, none⟩ v7).cell? ⟨w.heap.size + 1, 0, none⟩ = some (.int .u64 0) ∧ (w7.setCell ⟨w2.heap.size, 1, none⟩ v7).cell? ⟨w.heap.size + 1, 1, none⟩ = some (.slice none 0 0) ∧ (∀ j, (w7.setCell ⟨w2.heap.size, 1, none⟩ v7).frozen? ⟨w.heap.size + 1, j, none⟩ = false)) ∧
            Box25 (((w7.setCell ⟨w2.heap.size, 1, none⟩ v7).setCell ⟨w.heap.size + 1, 0, none⟩ (.int .u64 f)).setCell ⟨w.heap.size + 1, 1, none⟩ v7) (w.heap.size + 1) f v7 ∧
            PsAt (((w7.setCell ⟨w2.heap.size, 1, none⟩ v7).setCell ⟨w.heap.size + 1, 0, none⟩ (.int .u64 f)).setCell ⟨w.heap.size + 1, 1, none⟩ v7) v7 V ∧
            Below w.heap.size w (((w7.setCell ⟨w2.heap.size, 1, none⟩ v7).setCell ⟨w.heap.size + 1, 0, none⟩ (.int .u64 f)).setCell ⟨w.heap.size + 1, 1, none⟩ v7) from fun v7 w7 ho hb => by
          obtain ⟨a7, c7, hv⟩ := OwnPs.form ho HXO.out
          have hw := HWL.out
          have hB := HBL.out
          have hbB : Box25 w7 w2.heap.size f (.slice a' t c') := (hb.block _ hB).trans H6.out.2.1
          have hbT : Box25 w7 (w.heap.size + 1) 0 (.slice none 0 0) := (hb.block _ (show w.heap.size + 1 < wr.heap.size by have := HB.out.size; omega)).trans HT6.out
          have hbw : Below w.heap.size w w7 := (H2.out.1.trans (H6.out.2.2.2.mono H2.out.1.size)).trans (hb.mono (by have := H2.out.1.size; have := HB.out.size; omega))
          have hbB1 : Box25 (w7.setCell ⟨w2.heap.size, 1, none⟩ v7) w2.heap.size f v7 := Go.Joins.block_setCell hbB v7
          have hbT1 := hbT.other (show w.heap.size + 1 ≠ w2.heap.size by omega) 1 v7
          have hn1 : ∀ k, v7.ownBlock = some k → k ≠ w2.heap.size := fun k hk => by have := ho.own k hk; omega
          have hn2 : ∀ k, v7.ownBlock = some k → k ≠ w.heap.size + 1 := fun k hk => by have := ho.own k hk; omega
          exact ⟨a7, c7, hv, ⟨hbB.c0, hbB.c1, hbB.fz⟩, ⟨hbB1.c0, hbB1.c1, hbT1.c0, hbT1.c1, hbT1.fz⟩, hbT1.put f v7,
            OwnPs.at (OwnPs.other (OwnPs.other (OwnPs.other ho hn1 (o := 1) (u := v7)) hn2 (o := 0) (u := .int .u64 f)) hn2 (o := 1) (u := v7)) HXO.out,
            ((hbw.setCell (p := ⟨w2.heap.size, 1, none⟩) (by show w.heap.size ≤ w2.heap.size; omega) v7).setCell (p := ⟨w.heap.size + 1, 0, none⟩) (by show w.heap.size ≤ w.heap.size + 1; omega) (.int .u64 f)).setCell (p := ⟨w.heap.size + 1, 1, none⟩) (by show w.heap.size ≤ w.heap.size + 1; omega) v7⟩)
        have hes : e < 5 ∨ 5 < e ∨ e = 5 := by omega
        rcases hes with he | he | he
        · have HEE := Lib.hid (HE1.out (by omega))
          clear HE1 HE2
          go_wp2_with fail
          all_goals (first | (exfalso; omega) | refine HEE.out.mono ?_)
          all_goals rintro x7 w7 ⟨v7, rfl, ho7, hb7⟩
          all_goals obtain ⟨a7, c7, rfl, ⟨d0, d1, df⟩, ⟨m0, m1, m2, m3, mf⟩, hx⟩ := HFIN.out v7 w7 ho7 hb7
          all_goals have HXX := Lib.hid hx
          all_goals clear ho7 hb7 hx
          all_goals go_wp2
          all_goals refine bodyPost_ret (results_frag rfl _ _ (w.heap.size + 1) _ _ (0, 0) rfl HXX.out.1) rfl ?_
          all_goals obtain ⟨rfl, rfl, rfl⟩ := HFR.out
          all_goals exact ⟨_, _, rfl, HXX.out.2⟩
        · have HEE := Lib.hid (HE2.out (by omega))
          clear HE1 HE2
          go_wp2_with fail
          all_goals (first | (exfalso; omega) | refine HEE.out.mono ?_)
          all_goals rintro x7 w7 ⟨v7, rfl, ho7, hb7⟩
          all_goals obtain ⟨a7, c7, rfl, ⟨d0, d1, df⟩, ⟨m0, m1, m2, m3, mf⟩, hx⟩ := HFIN.out v7 w7 ho7 hb7
          all_goals have HXX := Lib.hid hx
          all_goals clear ho7 hb7 hx
          all_goals go_wp2
          all_goals refine bodyPost_ret (results_frag rfl _ _ (w.heap.size + 1) _ _ (0, 0) rfl HXX.out.1) rfl ?_
          all_goals obtain ⟨rfl, rfl, rfl⟩ := HFR.out
          all_goals exact ⟨_, _, rfl, HXX.out.2⟩
        · subst he
          have HEE := Lib.hid (HE2.out (by omega))
          clear HE1 HE2
          go_wp2_with fail
          all_goals (first | (exfalso; omega) | refine HEE.out.mono ?_)
          all_goals rintro x7 w7 ⟨v7, rfl, ho7, hb7⟩
          all_goals obtain ⟨a7, c7, rfl, ⟨d0, d1, df⟩, ⟨m0, m1, m2, m3, mf⟩, hx⟩ := HFIN.out v7 w7 ho7 hb7
          all_goals have HXX := Lib.hid hx
          all_goals clear ho7 hb7 hx
          all_goals go_wp2
          all_goals refine bodyPost_ret (results_frag rfl _ _ (w.heap.size + 1) _ _ (0, 0) rfl HXX.out.1) rfl ?_
          all_goals obtain ⟨rfl, rfl, rfl⟩ := HFR.out
          all_goals exact ⟨_, _, rfl, HXX.out.2⟩
end Go.Proofs.Ytnfjhpdpeihheaa
