/- The document's Pick. -/
import Derived.Test.YtnfjhpdpeihheaaMeetM
namespace Go.Proofs.Ytnfjhpdpeihheaa
open Go.RowKit Go.Maps Go.Shelf
theorem picked_snoc (l : List PL) (e : Int) (not : List Int) (x : PL) : picked (l ++ [x]) e not = if (decide (((picked l e not).length : Int) < e) && !not.contains x.n && !(picked l e not).any (fun q => q.n == x.n)) = true then picked l e not ++ [x] else picked l e not := by
  unfold picked free
  rw [rej_app]
  cases hb : not.contains x.n
  · rw [if_neg (by simp), ext_snoc]
    cases h1 : decide (((ext [] e (rej (fun x => not.contains x.n) l)).length : Int) < e) <;> cases h2 : (ext [] e (rej (fun x => not.contains x.n) l)).any (fun q => q.n == x.n) <;> simp
  · rw [if_pos rfl, if_neg (by simp)]
theorem picked_mem {l : List PL} {e : Int} {not : List Int} : ∀ q ∈ picked l e not, q ∈ l := fun q hq => by
  rcases ext_mem q hq with h | h
  · cases h
  · exact (List.mem_filter.1 h).1
set_option maxRecDepth 100000 in
set_option maxHeartbeats 4000000 in
theorem rpick_any (v u : Value) (known : List PL) (e n : Int) (not : List Int) (w : World) (hp : PsAt w v known) (hq : IntsAt w u not) (hl : known.length ≤ 100000) :
    Calls Try.prog 19 #[v, .int .i64 e, .int .i64 n, u] w fun x w' => ∃ v', x = .returned (.tuple #[v', .int .i64 (if pickOk e n = true then (if ((picked known e not).length : Int) < n then 3 else 0) else 1)]) ∧ OwnPs w.heap.size w' v' (if pickOk e n = true then (if ((picked known e not).length : Int) < n then [] else picked known e not) else []) ∧ Below w.heap.size w w' := by
  have HP := Lib.hid hp
  have HQ := Lib.hid hq
  have HPO := Lib.hid hp.ok
  obtain ⟨a, cap, rfl, hlen, -⟩ := hp
  obtain ⟨b, cap2, rfl, hlen2, -⟩ := hq
  obtain ⟨L, hL⟩ : ∃ L, known.length = L := ⟨_, rfl⟩
  obtain ⟨M, hM⟩ : ∃ M, not.length = M := ⟨_, rfl⟩
  rw [hL] at hlen HP hl ⊢
  rw [hM] at hlen2 HQ ⊢
  have HL := Lib.hid hL
  have HM := Lib.hid hM
  clear hL hM
  cases hpk : pickOk e n
  · simp only [Bool.false_eq_true, if_false]
    have HB := Lib.hid (Below.refl w.heap.size w)
    unfold pickOk at hpk
    by_cases h1 : n < 1
    · go_enter Try.func19, Try.ntmps19
      go_wp2
      go_ret2
      exact ⟨_, rfl, World.ownsRow_nil _ _ _ _, HB.out⟩
    · by_cases h2 : e < n
      · go_enter Try.func19, Try.ntmps19
        go_wp2
        go_ret2
        exact ⟨_, rfl, World.ownsRow_nil _ _ _ _, HB.out⟩
      · have h3 : 5 < e := by simp [h1, h2] at hpk; omega
        go_enter Try.func19, Try.ntmps19
        go_wp2
        go_ret2
        exact ⟨_, rfl, World.ownsRow_nil _ _ _ _, HB.out⟩
  · simp only [if_true]
    unfold pickOk at hpk
    have h1 : ¬ n < 1 := by intro h; simp [h] at hpk
    have h2 : ¬ e < n := by intro h; simp [h] at hpk
    have h3 : ¬ 5 < e := by intro h; simp [h] at hpk
    have d1 : decide (n < 1) = false := decide_eq_false h1
    have d2 : decide (e < n) = false := decide_eq_false h2
    have d3 : decide (5 < e) = false := decide_eq_false h3
    obtain ⟨RA, hRA⟩ : ∃ RA : Int, (if ((picked known e not).length : Int) < n then 3 else 0) = RA := ⟨_, rfl⟩
    obtain ⟨RB, hRB⟩ : ∃ RB : List PL, (if ((picked known e not).length : Int) < n then [] else picked known e not) = RB := ⟨_, rfl⟩
    rw [hRA, hRB]
    have HRA := Lib.hid hRA
    have HRB := Lib.hid hRB
    clear hpk hRA hRB h1 h2 h3
    go_enter Try.func19, Try.ntmps19
    go_wp2
    go_loopw [10, 11] (fun s i wr => ∃ t C : Nat, t ≤ L ∧ i = .int .i64 (t : Nat) ∧ IsSl s C ∧ C ≤ t ∧ Hid ((picked (known.take t) e not).length = C ∧ OwnPs w.heap.size wr s (picked (known.take t) e not) ∧ Below w.heap.size w wr)) (fun _ i _ => L - (intOf i).toNat)
    case atStart => exact ⟨0, 0, Nat.zero_le _, rfl, ⟨none, 0, rfl⟩, Nat.le_refl _, ⟨rfl, World.ownsRow_nil _ _ _ _, Below.refl _ _⟩⟩
    case round =>
      obtain ⟨t, C, ht, rfl, ⟨ra, rc, rfl⟩, hCt, HR⟩ := hrel
      obtain ⟨wo, rfl⟩ : ∃ wo : World, wo = wr := ⟨_, rfl⟩
      by_cases hlt : t < L
      · have hltz : (t : Int) < (L : Int) := by omega
        obtain ⟨x, hx⟩ : ∃ x, known[t]? = some x := ⟨_, List.getElem?_eq_getElem (by rw [HL.out]; exact hlt)⟩
        have hPK := HP.out.below HR.out.2.2
        obtain ⟨kb, ko, rfl, hkb, -⟩ := PsAt.cell hPK hx
        have HX := Lib.hid (show ∀ W, Below w.heap.size w W → W.cell? ⟨kb, ko + t * 2, none⟩ = some (.int .i64 x.n) ∧ W.cell? ⟨kb, ko + t * 2 + 1, none⟩ = some (.int .u64 x.s) from fun W hW => by
          obtain ⟨b', o', he, _, hc⟩ := PsAt.cell (HP.out.below hW) hx
          cases he
          exact hc W (Below.refl _ _))
        have hxo := hPK.ok x (List.mem_of_getElem? hx)
        have HXO := Lib.hid hxo
        have hsn := picked_snoc (known.take t) e not x
        rw [← take_snoc hx] at hsn
        have HSN := Lib.hid hsn
        have HPOK := Lib.hid (show ∀ q ∈ picked (known.take (t + 1)) e not, q.ok from fun q hq => HPO.out q (List.mem_of_mem_take (picked_mem q hq)))
        have HPOK0 := Lib.hid (show ∀ q ∈ picked (known.take t) e not, q.ok from fun q hq => HPO.out q (List.mem_of_mem_take (picked_mem q hq)))
        obtain ⟨R, hR⟩ : ∃ R, picked (known.take t) e not = R := ⟨_, rfl⟩
        rw [hR] at HR HSN HPOK0
        have HRL := Lib.hid HR.out.1
        have HRO := Lib.hid (show ∀ W, Below wo.heap.size wo W → OwnPs w.heap.size W (.slice ra C rc) R ∧ Below w.heap.size w W from fun W hW => ⟨HR.out.2.1.kept hW (Nat.le_refl _), HR.out.2.2.trans (hW.mono HR.out.2.2.size)⟩)
        obtain ⟨G0, hG0⟩ : ∃ G0, decide ((C : Int) < e) = G0 := ⟨_, rfl⟩
        have HG0 := Lib.hid hG0
        clear hPK hx hkb hxo hsn hR
        go_wp2_with fail
        clear hG0
        go_loopw [12, 13] (fun g i wr => ∃ (k : Nat) (G : Bool), k ≤ M ∧ i = .int .i64 (k : Nat) ∧ g = .bool G ∧ Hid (G = (G0 && !(not.take k).contains x.n)) ∧ Hid (Below wo.heap.size wo wr)) (fun _ i _ => M - (intOf i).toNat)
        case atStart => exact ⟨0, G0, Nat.zero_le _, rfl, rfl, Lib.hid (by simp), Below.refl _ _⟩
        case round =>
          obtain ⟨k, G, hk, rfl, rfl, HG, HW⟩ := hrel
          by_cases hkM : k < M
          · have hkz : (k : Int) < (M : Int) := by omega
            obtain ⟨y, hy⟩ : ∃ y, not[k]? = some y := ⟨_, List.getElem?_eq_getElem (by rw [HM.out]; exact hkM)⟩
            obtain ⟨x0, x1⟩ := HX.out wr (HRO.out wr HW.out).2
            obtain ⟨nb, no, rfl, hnb, hc⟩ := IntsAt.cell (HQ.out.below (HRO.out wr HW.out).2) hy
            have y0 := hc wr (Below.refl _ _)
            have HBD := Lib.hid (fun n => drewN_below HW.out n)
            have HN := Lib.hid (show (G && !decide (y = x.n)) = (G0 && !(not.take (k + 1)).contains x.n) from by
              rw [HG.out, take_snoc hy]
              simp only [List.contains_eq_mem, List.mem_append, List.mem_singleton, Bool.decide_or, Bool.not_or, Bool.and_assoc, eq_comm])
            clear hc hy hnb
            cases G
            · go_wp2_with fail
              go_quiet (fail)
              go_wp2
              go_roundw
              case rel => exact ⟨k + 1, _, by omega, by go_num, rfl, HN.out, HBD.out _⟩
              case measure => simp [intOf]; omega
            · by_cases hyx : y = x.n
              · have hb1 : (y != x.n) = false := by simp [hyx]
                rw [decide_eq_true hyx] at HN
                clear hyx
                go_wp2_with fail
                go_quiet (fail)
                go_wp2
                go_roundw
                case rel => exact ⟨k + 1, _, by omega, by go_num, rfl, HN.out, HBD.out _⟩
                case measure => simp [intOf]; omega
              · have hb1 : (y != x.n) = true := by simp [hyx]
                rw [decide_eq_false hyx] at HN
                clear hyx
                go_wp2_with fail
                go_quiet (fail)
                go_wp2
                go_roundw
                case rel => exact ⟨k + 1, _, by omega, by go_num, rfl, HN.out, HBD.out _⟩
                case measure => simp [intOf]; omega
          · obtain rfl : k = M := by omega
            obtain ⟨G1, hG1⟩ : ∃ G1, (G0 && !not.contains x.n) = G1 := ⟨_, rfl⟩
            have HG1 := Lib.hid hG1
            obtain rfl : G = G1 := by rw [HG.out, take_all HM.out]; exact hG1
            obtain ⟨wm, rfl⟩ : ∃ wm : World, wm = wr := ⟨_, rfl⟩
            clear hG1 HG
            go_wp2_with fail
            go_loopw [12, 14] (fun g i wr => ∃ (k : Nat) (T : Bool), k ≤ C ∧ i = .int .i64 (k : Nat) ∧ g = .bool T ∧ Hid (T = (G && !(R.take k).any (fun q => q.n == x.n))) ∧ Hid (Below wo.heap.size wo wr)) (fun _ i _ => C - (intOf i).toNat)
            case atStart => exact ⟨0, G, Nat.zero_le _, rfl, rfl, Lib.hid (by simp), HW.out⟩
            case round =>
              obtain ⟨q, T, hq, rfl, rfl, HT, HV⟩ := hrel
              by_cases hqC : q < C
              · have hqz : (q : Int) < (C : Int) := by omega
                obtain ⟨y, hy⟩ : ∃ y, R[q]? = some y := ⟨_, List.getElem?_eq_getElem (by rw [HRL.out]; exact hqC)⟩
                obtain ⟨hro, hrb⟩ := HRO.out wr HV.out
                obtain ⟨x0, x1⟩ := HX.out wr hrb
                have hpr := OwnPs.at hro HPOK0.out
                obtain ⟨nb, no, rfl, hnb, hc⟩ := PsAt.cell hpr hy
                obtain ⟨y0, y1⟩ := hc wr (Below.refl _ _)
                have HBD := Lib.hid (fun n => drewN_below HV.out n)
                have HN := Lib.hid (show (T && !(y.n == x.n)) = (G && !(R.take (q + 1)).any (fun q => q.n == x.n)) from by
                  rw [HT.out, take_snoc hy]
                  simp only [List.any_append, List.any_cons, List.any_nil, Bool.or_false, Bool.not_or, Bool.and_assoc])
                clear hc hy hnb hro hrb hpr
                cases T
                · go_wp2_with fail
                  go_quiet (fail)
                  go_wp2
                  go_roundw
                  case rel => exact ⟨q + 1, _, by omega, by go_num, rfl, HN.out, HBD.out _⟩
                  case measure => simp [intOf]; omega
                · cases hyx : (y.n == x.n)
                  · have hb1 : (y.n != x.n) = true := by rw [bne, hyx]; rfl
                    rw [hyx] at HN
                    go_wp2_with fail
                    go_quiet (fail)
                    go_wp2
                    go_roundw
                    case rel => exact ⟨q + 1, _, by omega, by go_num, rfl, HN.out, HBD.out _⟩
                    case measure => simp [intOf]; omega
                  · have hb1 : (y.n != x.n) = false := by rw [bne, hyx]; rfl
                    rw [hyx] at HN
                    go_wp2_with fail
                    go_quiet (fail)
                    go_wp2
                    go_roundw
                    case rel => exact ⟨q + 1, _, by omega, by go_num, rfl, HN.out, HBD.out _⟩
                    case measure => simp [intOf]; omega
              · obtain rfl : q = C := by omega
                have HTT := Lib.hid (show T = (decide (((R.length : Nat) : Int) < e) && !not.contains x.n && !R.any (fun q => q.n == x.n)) from by
                  rw [HT.out, take_all HRL.out, ← HG1.out, ← HG0.out, HRL.out])
                obtain ⟨hro, hrb⟩ := HRO.out wr HV.out
                obtain ⟨x0, x1⟩ := HX.out wr hrb
                cases T
                · have HN := Lib.hid (show (picked (known.take (t + 1)) e not).length = q ∧ OwnPs w.heap.size wr (.slice ra q rc) (picked (known.take (t + 1)) e not) ∧ Below w.heap.size w wr from by
                    rw [HSN.out, ← HTT.out, if_neg (by simp)]
                    exact ⟨HRL.out, hro, hrb⟩)
                  clear hro hrb
                  go_wp2
                  go_roundw
                  case rel => exact ⟨t + 1, q, by omega, by go_num, ⟨_, _, rfl⟩, by omega, HN.out⟩
                  case measure => simp [intOf]; omega
                · have hap : picked (known.take (t + 1)) e not = R ++ [x] := by rw [HSN.out, ← HTT.out, if_pos rfl]
                  have HAP := Lib.hid hap
                  have HOKS := Lib.hid (show ∀ z ∈ R ++ [x], z.ok from by rw [← hap]; exact HPOK.out)
                  have HA2 := Lib.hid (show OwnPs w.heap.size (wr.alloc (.cells #[.int .i64 x.n, .int .u64 x.s] 38)) (.slice ra q rc) R ∧ PsAt (wr.alloc (.cells #[.int .i64 x.n, .int .u64 x.s] 38)) (.slice (some ⟨wr.heap.size, 0, none⟩) 1 1) [x] ∧ Below w.heap.size w (wr.alloc (.cells #[.int .i64 x.n, .int .u64 x.s] 38)) ∧ w.heap.size ≤ (wr.alloc (.cells #[.int .i64 x.n, .int .u64 x.s] 38)).heap.size from
                    ⟨OwnPs.kept hro (Go.Joins.below_alloc1 wr _) (Nat.le_refl _), ps_one wr x HXO.out, hrb.alloc hrb.size _, by rw [World.size_alloc]; have := hrb.size; omega⟩)
                  have HLX := Lib.hid (show (R ++ [x]).length = q + 1 from by rw [List.length_append, HRL.out]; rfl)
                  clear hro hrb hap
                  go_wp2_with (at_builtin; refine wpList_append_rows rfl _ _ 23 38 2 16 _ PL.cells rfl Try.underlying23 info38 rfl (by decide) (by decide) (fun _ => rfl) w.heap.size _ _ R [x] rfl rfl HA2.out.1 HA2.out.2.1 (ps_oneCell _) (by rw [HRL.out]; simp only [List.length_cons, List.length_nil]; omega) HA2.out.2.2.2 ?_; intro v2 w2 ho2 hg2; have hbb := HA2.out.2.2.1.grown hg2 HA2.out.2.2.1.size (fun j hj => (HA2.out.1.own j hj)); obtain ⟨v2a, v2c, rfl⟩ := OwnPs.form ho2 HOKS.out; have hlx := HLX.out; rw [hlx] at ho2 ⊢; have H2 := Lib.hid (And.intro ho2 hbb); clear ho2 hg2 hbb hlx)
                  have HN := Lib.hid (show (picked (known.take (t + 1)) e not).length = q + 1 ∧ OwnPs w.heap.size w2 (.slice v2a (q + 1) v2c) (picked (known.take (t + 1)) e not) ∧ Below w.heap.size w w2 from by
                    rw [HAP.out]
                    exact ⟨HLX.out, H2.out⟩)
                  go_roundw
                  case rel => exact ⟨t + 1, q + 1, by omega, by go_num, ⟨_, _, rfl⟩, by omega, HN.out⟩
                  case measure => simp [intOf]; omega
      · obtain rfl : t = L := by omega
        obtain ⟨r1, r2, r3⟩ := HR.out
        rw [take_all HL.out] at r1 r2
        have H3 := Lib.hid (And.intro r2 r3)
        have HM2 := Lib.hid r1
        clear r2 r3 HR
        by_cases hlt2 : (C : Int) < n
        · obtain rfl : RA = 3 := by rw [← HRA.out, r1, if_pos hlt2]
          obtain rfl : RB = [] := by rw [← HRB.out, r1, if_pos hlt2]
          clear r1
          go_wp2
          go_ret2
          exact ⟨_, rfl, World.ownsRow_nil _ _ _ _, H3.out.2⟩
        · obtain rfl : RA = 0 := by rw [← HRA.out, r1, if_neg hlt2]
          obtain rfl : RB = picked known e not := by rw [← HRB.out, r1, if_neg hlt2]
          clear r1
          go_wp2
          go_ret2
          exact ⟨_, rfl, H3.out⟩
end Go.Proofs.Ytnfjhpdpeihheaa
