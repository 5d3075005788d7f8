/- StripeFresh: renewed. -/
import Derived.Test.YtnfjhpdpeihheaaFreshM
import Derived.Test.YtnfjhpdpeihheaaLawCounts
namespace Go.Proofs.Ytnfjhpdpeihheaa
open Go.RowKit Go.Maps Go.Shelf
theorem drop_cons {l : List PL} {k : Nat} {x : PL} (h : l[k]? = some x) : l.drop k = x :: l.drop (k + 1) := by
  obtain ⟨hk, rfl⟩ := List.getElem?_eq_some_iff.1 h
  exact List.drop_eq_getElem_cons hk
set_option maxRecDepth 100000 in
set_option maxHeartbeats 8000000 in
theorem fresh_any (f n e : Int) (a : Option Addr) (c : Nat) (vb vk : Value) (row bad known : List PL) (w : World) (hp : PsAt w (.slice a row.length c) row) (hb0 : PsAt w vb bad) (hk0 : PsAt w vk known) :
    Calls Try.prog 8 #[.agg #[.int .u64 f, .slice a row.length c], .int .i64 n, .int .i64 e, vb, vk] w fun e w' => e = .returned (.bool true) ∧ Below w.heap.size w w' := by
  have HP := Lib.hid hp
  have HBD := Lib.hid hb0
  have HKN := Lib.hid hk0
  have HPO := Lib.hid hp.ok
  have HKO := Lib.hid hk0.ok
  obtain ⟨ba, bc, rfl, -, -, -⟩ := hb0.form
  obtain ⟨ka, kc, rfl, -, -, -⟩ := hk0.form
  clear hp hb0 hk0
  obtain ⟨E, hE⟩ : ∃ E, row.length = E := ⟨_, rfl⟩
  obtain ⟨S, hS⟩ : ∃ S, bad.length = S := ⟨_, rfl⟩
  obtain ⟨L, hL⟩ : ∃ L, known.length = L := ⟨_, rfl⟩
  rw [hE] at HP ⊢
  rw [hS] at HBD ⊢
  rw [hL] at HKN ⊢
  have HE := Lib.hid hE
  have HS := Lib.hid hS
  have HL := Lib.hid hL
  clear hE hS hL
  have HLG := Lib.hid (LW.long w f n a ba ka E c S bc L kc)
  have HLB := Lib.hid (LW.below w f (.slice a E c) (.slice ba S bc) (.slice ka L kc))
  have HBX := Lib.hid (LW.box w f (.slice a E c) (.slice ba S bc) (.slice ka L kc))
  obtain ⟨LB, hLB⟩ : ∃ LB, longB E n [S, L] = LB := ⟨_, rfl⟩
  rw [hLB] at HLG
  obtain ⟨W, hW⟩ : ∃ W, W = LW w f (.slice a E c) (.slice ba S bc) (.slice ka L kc) := ⟨_, rfl⟩
  rw [← hW] at HLB HBX HLG
  have HF := Lib.hid (show ∀ W', On W W' → Below w.heap.size w W' from fun W' hb => HLB.out.trans (Below.mono hb HLB.out.size))
  have HWW := Lib.hid (show On W W from Below.refl _ _)
  cases LB
  case true =>
    go_enter Try.func8, Try.ntmps8
    go_wp2_with fail
    change Calls _ _ _ (LW w f (.slice a E c) (.slice ba S bc) (.slice ka L kc)) _
    rw [← hW]
    refine HLG.out.mono ?_
    rintro ee w1 ⟨rfl, hw⟩
    obtain rfl := hw.symm
    clear hW HLG
    go_wp2_with fail
    refine (awake_any _).mono ?_
    rintro ee wf ⟨rfl, hb⟩
    have HBf := Lib.hid (HF.out _ (On.step HWW.out hb))
    clear hb
    go_wp2
    go_ret
    exact ⟨rfl, HBf.out⟩
  obtain ⟨b1, b2, b3, b4⟩ := longB_two hLB
  have HC := Lib.hid (show ∀ W', On W W' → W'.cell? ⟨w.heap.size, 0, none⟩ = some (.int .u64 f) ∧ W'.cell? ⟨w.heap.size, 1, none⟩ = some (.slice a E c) from fun W' hb => by
    have h := HBX.out.below hb
    exact ⟨h.c0, h.c1⟩)
  have MF := Lib.hid (fun W' (hb : On W W') => mayf_any W'.heap.size 0 1 n a c row (W'.alloc (.cells #[.int .u64 1, .slice a E c] 25)) (by rw [HE.out]; exact OneFrag.new _ _ _ _ _) (by rw [HE.out]; exact (HP.out.below (HF.out W' hb)).below (Go.Joins.below_alloc1 _ _)))
  rw [HE.out] at MF
  have MK := Lib.hid (fun W' (hb : On W W') => mayf_any W'.heap.size 0 1 0 ka kc known (W'.alloc (.cells #[.int .u64 1, .slice ka L kc] 25)) (by rw [HL.out]; exact OneFrag.new _ _ _ _ _) (by rw [HL.out]; exact (HKN.out.below (HF.out W' hb)).below (Go.Joins.below_alloc1 _ _)))
  rw [HL.out] at MK
  obtain ⟨c0, c1⟩ := HC.out W (Below.refl _ _)
  go_enter Try.func8, Try.ntmps8
  go_wp2_with fail
  change Calls _ _ _ (LW w f (.slice a E c) (.slice ba S bc) (.slice ka L kc)) _
  rw [← hW]
  refine HLG.out.mono ?_
  rintro ee w1 ⟨rfl, hw⟩
  obtain rfl := hw.symm
  clear hW HLG
  go_wp2_with fail
  refine (MF.out _ (Below.refl _ _)).mono ?_
  rintro ee p1 ⟨R, rfl, hiff, hb⟩
  have H1 := Lib.hid (show On W p1 from On.step (Go.Joins.below_alloc1 W _) hb)
  obtain ⟨c0, c1⟩ := HC.out p1 H1.out
  clear hb
  have hcs : R = false ∨ (R = true ∧ n < 1) ∨ (R = true ∧ ¬ n < 1) := by
    cases R
    · exact .inl rfl
    · by_cases g1 : n < 1
      · exact .inr (.inl ⟨rfl, g1⟩)
      · exact .inr (.inr ⟨rfl, g1⟩)
  rcases hcs with rfl | ⟨rfl, g1⟩ | ⟨rfl, g1⟩
  · clear hiff
    go_wp2_with fail
    refine (awake_any _).mono ?_
    rintro ee wf ⟨rfl, hb⟩
    have HBf := Lib.hid (HF.out _ (On.step H1.out hb))
    clear hb
    go_wp2
    go_ret
    exact ⟨rfl, HBf.out⟩
  · clear hiff
    have d1 : decide (n < 1) = true := decide_eq_true g1
    go_wp2_with fail
    refine (awake_any _).mono ?_
    rintro ee wf ⟨rfl, hb⟩
    have HBf := Lib.hid (HF.out _ (On.step H1.out hb))
    clear hb
    go_wp2
    go_ret
    exact ⟨rfl, HBf.out⟩
  obtain ⟨k1, k2, k3⟩ := hiff.1 rfl
  have d1 : decide (n < 1) = false := decide_eq_false g1
  have HMAY := Lib.hid k3
  clear hiff k3
  go_wp2_with fail
  refine (MK.out _ H1.out).mono ?_
  rintro ee p2 ⟨R, rfl, hiff, hb⟩
  have H2 := Lib.hid (show On W p2 from On.step (On.step H1.out (Go.Joins.below_alloc1 p1 _)) hb)
  obtain ⟨c0, c1⟩ := HC.out p2 H2.out
  clear hb
  cases R
  case false =>
    clear hiff
    go_wp2_with fail
    refine (awake_any _).mono ?_
    rintro ee wf ⟨rfl, hb⟩
    have HBf := Lib.hid (HF.out _ (On.step H2.out hb))
    clear hb
    go_wp2
    go_ret
    exact ⟨rfl, HBf.out⟩
  obtain ⟨-, k4, k5⟩ := hiff.1 rfl
  have HFF := Lib.hid (@fresh_facts row bad known n e HMAY.out (by rw [HE.out]; exact k1) (by rw [HE.out]; exact k2) k5)
  have HRN := Lib.hid (renew_any f a c row n e (.slice ba S bc) (.slice ka L kc) bad known p2 (by rw [HE.out]; exact HP.out.below (HF.out _ H2.out)) (HBD.out.below (HF.out _ H2.out)) (HKN.out.below (HF.out _ H2.out)) (by rw [HE.out]; omega) (by rw [HS.out]; omega) (by rw [HL.out]; omega))
  rw [HE.out] at HRN
  clear hiff k5
  unfold renewRes at HRN
  go_wp2_with fail
  by_cases heq : leaveL bad.contains n (renR bad (rej bad.contains known) row row.length) = row
  · simp only [if_pos heq] at HRN
    refine HRN.out.mono ?_
    rintro ee p3 ⟨a', c', rfl, -, hb3⟩
    have H3 := Lib.hid (On.step H2.out hb3)
    have H3a := Lib.hid (On.step H3.out (Go.Joins.below_alloc1 p3 (.cells #[.int .u64 0, .slice a' 0 c'] 25)))
    clear hb3 heq
    simp only [List.length_nil]
    go_wp2_with fail
    refine (awake_any _).mono ?_
    rintro ee wf ⟨rfl, hb⟩
    have HBf := Lib.hid (HF.out _ (On.step H3a.out hb))
    clear hb
    go_wp2
    go_ret
    exact ⟨rfl, HBf.out⟩
  · simp only [if_neg heq] at HRN
    obtain ⟨V, hV⟩ : ∃ V, ext (leaveL bad.contains n (renR bad (rej bad.contains known) row row.length)) (min e 5) (rej bad.contains known) = V := ⟨_, rfl⟩
    rw [hV] at HRN HFF
    obtain ⟨K, hK⟩ : ∃ K, V.length = K := ⟨_, rfl⟩
    rw [hK] at HRN HFF
    have HKK := Lib.hid hK
    refine HRN.out.mono ?_
    rintro ee p3 ⟨a', c', rfl, hpv, hb3⟩
    have H3 := Lib.hid (On.step H2.out hb3)
    obtain ⟨X, hX⟩ : ∃ X, p3.alloc (.cells #[.int .u64 f, .slice a' K c'] 25) = X := ⟨_, rfl⟩
    have hbX : Below p3.heap.size p3 X := by rw [← hX]; exact Go.Joins.below_alloc1 _ _
    have hWX : On W X := On.step H3.out hbX
    have HX := Lib.hid (show (∀ W', On X W' → (W'.cell? ⟨w.heap.size, 0, none⟩ = some (.int .u64 f) ∧ W'.cell? ⟨w.heap.size, 1, none⟩ = some (.slice a E c)) ∧ W'.cell? ⟨p3.heap.size, 0, none⟩ = some (.int .u64 f) ∧ W'.cell? ⟨p3.heap.size, 1, none⟩ = some (.slice a' K c')) ∧ (∀ W', On X W' → PsAt W' (.slice a' K c') V ∧ PsAt W' (.slice a E c) row ∧ PsAt W' (.slice ba S bc) bad ∧ PsAt W' (.slice ka L kc) known ∧ Below w.heap.size w W') from by
      have hbx : Box25 X p3.heap.size f (.slice a' K c') := by rw [← hX]; exact Box25.new _ _ _
      have hpX : PsAt X (.slice a' K c') V := hpv.below hbX
      refine ⟨fun W' hb => ⟨HC.out W' (On.step hWX hb), (hbx.below hb).c0, (hbx.below hb).c1⟩, fun W' hb => ?_⟩
      have hw := HF.out W' (On.step hWX hb)
      exact ⟨hpX.below hb, HP.out.below hw, HBD.out.below hw, HKN.out.below hw, hw⟩)
    obtain ⟨⟨c0, c1⟩, g0, g1'⟩ := HX.out.1 X (Below.refl _ _)
    have HX0 := Lib.hid (show On X X from Below.refl _ _)
    have c0a : ∀ o, (X.alloc o).cell? ⟨w.heap.size, 0, none⟩ = some (.int .u64 f) := fun o => (HX.out.1 _ (Go.Joins.below_alloc1 X o)).1.1
    have MV := Lib.hid (mayf_any X.heap.size 0 1 n a' c' V (X.alloc (.cells #[.int .u64 1, .slice a' K c'] 25)) (by rw [HKK.out]; exact OneFrag.new _ _ _ _ _) (by rw [HKK.out]; exact PsAt.below (HX.out.2 X (Below.refl _ _)).1 (Go.Joins.below_alloc1 _ _)))
    rw [HKK.out] at MV
    have hK5 : K ≤ 5 := HFF.out.2.2.1
    have hL5 : L ≤ 60 := b4
    have HHAS := Lib.hid (fun W' (hb : On X W') (x : PL) => has_any (.slice ba S bc) bad x W' (HX.out.2 W' hb).2.2.1 (by rw [HS.out]; omega))
    have HXS := Lib.hid hWX
    clear hpv hb3 hbX hWX hV hK heq HRN
    go_wp2_with fail
    refine MV.out.mono ?_
    rintro ee p4 ⟨R, rfl, hiff, hb4⟩
    obtain rfl : R = true := hiff.2 ⟨HFF.out.2.1, hK5, HFF.out.1⟩
    have H4 := Lib.hid (show On X p4 from On.step (Go.Joins.below_alloc1 X _) hb4)
    obtain ⟨⟨c0, c1⟩, g0, g1'⟩ := HX.out.1 p4 H4.out
    have hff : (f == f) = true := by simp
    clear hiff hb4 c0a
    go_wp2_with fail
    clear c0 c1 g0 g1' hX
    go_loopw [13, 16] (fun g i wr => ∃ t G : Nat, t ≤ L ∧ i = .int .i64 (t : Nat) ∧ g = .int .i64 (G : Nat) ∧ G ≤ t ∧ Hid (G = (rej bad.contains (known.take t)).length) ∧ Hid (On X wr)) (fun _ i _ => L - (intOf i).toNat)
    case atStart => exact ⟨0, 0, Nat.zero_le _, rfl, rfl, Nat.le_refl _, (by rw [List.take_zero]; rfl), H4.out⟩
    case round =>
      obtain ⟨t, G, ht, rfl, rfl, hGt, HG, HO⟩ := hrel
      obtain ⟨⟨c0, c1⟩, g0, g1'⟩ := HX.out.1 wr HO.out
      by_cases hlt : t < L
      · have hltz : (t : Int) < (L : Int) := by omega
        obtain ⟨x, hx⟩ : ∃ x, known[t]? = some x := ⟨_, List.getElem?_eq_getElem (by rw [HL.out]; exact hlt)⟩
        obtain ⟨qb, qo, rfl, _, hc⟩ := PsAt.cell (HX.out.2 wr HO.out).2.2.2.1 hx
        obtain ⟨x0, x1⟩ := hc wr (Below.refl _ _)
        have HH := Lib.hid (HHAS.out wr HO.out x)
        have HSN := Lib.hid (show rej bad.contains (known.take (t + 1)) = if bad.contains x = true then rej bad.contains (known.take t) else rej bad.contains (known.take t) ++ [x] by rw [take_snoc hx, rej_app])
        clear hc hx
        cases hbx : bad.contains x
        · rw [hbx] at HH HSN
          have HN := Lib.hid (show G + 1 = (rej bad.contains (known.take (t + 1))).length by rw [HSN.out, if_neg (by simp), List.length_append, ← HG.out]; rfl)
          clear hbx
          go_wp2_with fail
          refine HH.out.mono ?_
          rintro ee p5 ⟨rfl, hb5⟩
          have H5 := Lib.hid (On.step HO.out hb5)
          clear hb5
          go_wp2
          go_roundw
          case rel => exact ⟨t + 1, G + 1, by omega, by go_num, by go_num, by omega, HN.out, H5.out⟩
          case measure => simp [intOf]; omega
        · rw [hbx] at HH HSN
          have HN := Lib.hid (show G = (rej bad.contains (known.take (t + 1))).length by rw [HSN.out, if_pos rfl]; exact HG.out)
          clear hbx
          go_wp2_with fail
          refine HH.out.mono ?_
          rintro ee p5 ⟨rfl, hb5⟩
          have H5 := Lib.hid (On.step HO.out hb5)
          clear hb5
          go_wp2
          go_roundw
          case rel => exact ⟨t + 1, G, by omega, by go_num, rfl, by omega, HN.out, H5.out⟩
          case measure => simp [intOf]; omega
      · obtain rfl : t = L := by omega
        have HGL := Lib.hid (show G = (rej bad.contains known).length by have := HG.out; rw [take_all HL.out] at this; exact this)
        obtain ⟨wA, rfl⟩ : ∃ wA : World, wA = wr := ⟨_, rfl⟩
        clear HG hlt ht
        go_wp2_with fail
        clear c0 c1 g0 g1'
        go_loopw [14, 17] (fun g i wr => ∃ q D : Nat, q ≤ K ∧ i = .int .i64 (q : Nat) ∧ g = .int .i64 (D : Nat) ∧ D ≤ q ∧ Hid (n ≤ (G : Int) → D = 0) ∧ Hid (On X wr)) (fun _ i _ => K - (intOf i).toNat)
        case atStart => exact ⟨0, 0, Nat.zero_le _, rfl, rfl, Nat.le_refl _, (fun _ => rfl), HO.out⟩
        case round =>
          obtain ⟨q, D, hq, rfl, rfl, hDq, HD, HO2⟩ := hrel
          obtain ⟨⟨c0, c1⟩, g0, g1'⟩ := HX.out.1 wr HO2.out
          by_cases hlq : q < K
          · have hlqz : (q : Int) < (K : Int) := by omega
            obtain ⟨x, hx⟩ : ∃ x, V[q]? = some x := ⟨_, List.getElem?_eq_getElem (by rw [HKK.out]; exact hlq)⟩
            obtain ⟨qb, qo, rfl, _, hc⟩ := PsAt.cell (HX.out.2 wr HO2.out).1 hx
            obtain ⟨x0, x1⟩ := hc wr (Below.refl _ _)
            have HH := Lib.hid (HHAS.out wr HO2.out x)
            have HXM := Lib.hid (List.mem_of_getElem? hx)
            clear hc hx
            cases hbx : bad.contains x
            · rw [hbx] at HH
              clear hbx
              go_wp2_with fail
              refine HH.out.mono ?_
              rintro ee p5 ⟨rfl, hb5⟩
              have H5 := Lib.hid (On.step HO2.out hb5)
              clear hb5
              go_wp2
              go_roundw
              case rel => exact ⟨q + 1, D, by omega, by go_num, rfl, by omega, HD.out, H5.out⟩
              case measure => simp [intOf]; omega
            · rw [hbx] at HH
              have HN := Lib.hid (show n ≤ (G : Int) → D + 1 = 0 from fun h => by
                have := HFF.out.2.2.2.1 (by rw [← HGL.out]; exact h) x HXM.out
                rw [hbx] at this
                cases this)
              clear hbx
              go_wp2_with fail
              refine HH.out.mono ?_
              rintro ee p5 ⟨rfl, hb5⟩
              have H5 := Lib.hid (On.step HO2.out hb5)
              clear hb5
              go_wp2
              go_roundw
              case rel => exact ⟨q + 1, D + 1, by omega, by go_num, by go_num, by omega, HN.out, H5.out⟩
              case measure => simp [intOf]; omega
          · obtain rfl : q = K := by omega
            obtain ⟨wB, rfl⟩ : ∃ wB : World, wB = wr := ⟨_, rfl⟩
            clear hlq hq
            go_wp2_with fail
            clear c0 c1 g0 g1'
            go_loopw [15, 18] (fun g i wr => ∃ r A : Nat, r ≤ E ∧ i = .int .i64 (r : Nat) ∧ g = .int .i64 (A : Nat) ∧ A ≤ q ∧ Hid (List.Sublist ((row.drop r).filter fun z => !bad.contains z) (V.drop A)) ∧ Hid (On X wr)) (fun _ i _ => E - (intOf i).toNat)
            case atStart => exact ⟨0, 0, Nat.zero_le _, rfl, rfl, Nat.zero_le _, (by rw [List.drop_zero, List.drop_zero]; exact HFF.out.2.2.2.2), HO2.out⟩
            case round =>
              obtain ⟨r, A, hr, rfl, rfl, hAq, HSB, HO3⟩ := hrel
              obtain ⟨⟨c0, c1⟩, g0, g1'⟩ := HX.out.1 wr HO3.out
              by_cases hlr : r < E
              · have hlrz : (r : Int) < (E : Int) := by omega
                obtain ⟨x, hx⟩ : ∃ x, row[r]? = some x := ⟨_, List.getElem?_eq_getElem (by rw [HE.out]; exact hlr)⟩
                obtain ⟨rb, ro, hra, _, -⟩ := PsAt.cell (HX.out.2 wr HO3.out).2.1 hx
                have HCX := Lib.hid (show ∀ W', On X W' → W'.cell? ⟨rb, ro + r * 2, none⟩ = some (.int .i64 x.n) ∧ W'.cell? ⟨rb, ro + r * 2 + 1, none⟩ = some (.int .u64 x.s) from fun W' hb => by
                  obtain ⟨b', o', he, _, hc⟩ := PsAt.cell (HX.out.2 W' hb).2.1 hx
                  rw [hra] at he
                  cases he
                  exact hc W' (Below.refl _ _))
                obtain ⟨x0, x1⟩ := HCX.out wr HO3.out
                have HH := Lib.hid (HHAS.out wr HO3.out x)
                have hdc := drop_cons hx
                have HSB2 := Lib.hid (show List.Sublist ((x :: row.drop (r + 1)).filter fun z => !bad.contains z) (V.drop A) by rw [← hdc]; exact HSB.out)
                subst hra
                clear hx hdc
                cases hbx : bad.contains x
                · rw [hbx] at HH
                  have HSB3 := Lib.hid (show List.Sublist (x :: (row.drop (r + 1)).filter fun z => !bad.contains z) (V.drop A) by have := HSB2.out; rw [List.filter_cons_of_pos (by show (!bad.contains x) = true; rw [hbx]; rfl)] at this; exact this)
                  clear hbx
                  go_wp2_with fail
                  refine HH.out.mono ?_
                  rintro ee p5 ⟨rfl, hb5⟩
                  have H5 := Lib.hid (On.step HO3.out hb5)
                  clear hb5 c0 c1 g0 g1' x0 x1
                  go_wp2_with fail
                  go_loopw [15] (fun g wr => ∃ A' : Nat, g = .int .i64 (A' : Nat) ∧ A' ≤ q ∧ Hid (List.Sublist (x :: (row.drop (r + 1)).filter fun z => !bad.contains z) (V.drop A')) ∧ Hid (On X wr)) (fun g _ => q - (intOf g).toNat)
                  case atStart => exact ⟨A, rfl, hAq, HSB3.out, H5.out⟩
                  case round =>
                    obtain ⟨A', rfl, hA', HSC, HO4⟩ := hrel
                    obtain ⟨⟨c0, c1⟩, g0, g1'⟩ := HX.out.1 wr HO4.out
                    obtain ⟨x0, x1⟩ := HCX.out wr HO4.out
                    have HOD := Lib.hid (fun m => (show On X (wr.drewN m) from drewN_below HO4.out m))
                    by_cases hlA : A' < q
                    · have hlAz : (A' : Int) < (q : Int) := by omega
                      have hlAb : ((A' : Int) == (q : Int)) = false := by simp; omega
                      obtain ⟨y, hy⟩ : ∃ y, V[A']? = some y := ⟨_, List.getElem?_eq_getElem (by rw [HKK.out]; exact hlA)⟩
                      obtain ⟨vb', vo, hva, _, hc⟩ := PsAt.cell (HX.out.2 wr HO4.out).1 hy
                      obtain ⟨y0, y1⟩ := hc wr (Below.refl _ _)
                      have k1 := fun w => neq38 y x w
                      have kg := guard38
                      have hdy := drop_cons hy
                      rw [hva] at g1'
                      have HSC2 := Lib.hid HSC.out
                      rw [hdy] at HSC2
                      clear hc hy hdy
                      by_cases hyx : y = x
                      · rw [decide_eq_true hyx] at k1
                        dsimp only [PL.val, Bool.not_true] at k1
                        have HN := Lib.hid (show List.Sublist ((row.drop (r + 1)).filter fun z => !bad.contains z) (V.drop A') from (List.sublist_cons_self _ _).trans HSC.out)
                        have g1d : ∀ m, (wr.drewN m).cell? ⟨p3.heap.size, 1, none⟩ = some (.slice a' q c') := fun m => ((HX.out.1 _ (HOD.out m)).2).2
                        clear hyx
                        go_wp2_with fail
                        go_quiet (fail)
                        go_wp2
                        go_roundw
                        case rel => exact ⟨r + 1, A', by omega, by go_num, rfl, by omega, HN.out, HOD.out _⟩
                        case measure => simp [intOf]; omega
                      · rw [decide_eq_false hyx] at k1
                        dsimp only [PL.val, Bool.not_false] at k1
                        have HN := Lib.hid (show List.Sublist (x :: (row.drop (r + 1)).filter fun z => !bad.contains z) (V.drop (A' + 1)) from by
                          cases HSC2.out with
                          | cons _ h => exact h
                          | cons_cons _ h => exact absurd rfl hyx)
                        clear hyx
                        go_wp2_with fail
                        go_quiet (fail)
                        go_wp2
                        go_roundw
                        case rel => exact ⟨A' + 1, by go_num, by omega, HN.out, HOD.out _⟩
                        case measure => simp [intOf]; omega
                    · exfalso
                      have hAq' : A' = q := by omega
                      have h := HSC.out
                      rw [hAq', show V.drop q = [] from List.drop_of_length_le (by rw [HKK.out]; exact Nat.le_refl _)] at h
                      cases h
                · rw [hbx] at HH
                  have HN := Lib.hid (show List.Sublist ((row.drop (r + 1)).filter fun z => !bad.contains z) (V.drop A) by have := HSB2.out; rw [List.filter_cons_of_neg (by show ¬ (!bad.contains x) = true; rw [hbx]; decide)] at this; exact this)
                  clear hbx
                  go_wp2_with fail
                  refine HH.out.mono ?_
                  rintro ee p5 ⟨rfl, hb5⟩
                  have H5 := Lib.hid (On.step HO3.out hb5)
                  clear hb5
                  go_wp2
                  go_roundw
                  case rel => exact ⟨r + 1, A, by omega, by go_num, rfl, hAq, HN.out, H5.out⟩
                  case measure => simp [intOf]; omega
              · obtain rfl : r = E := by omega
                by_cases hgn : (G : Int) < n
                · have hd : decide ((G : Int) < n) = true := decide_eq_true hgn
                  go_wp2_with fail
                  refine (awake_any _).mono ?_
                  rintro ee wf ⟨rfl, hb⟩
                  have HBf := Lib.hid (HF.out _ (On.step HXS.out (On.step HO3.out hb)))
                  clear hb
                  go_wp2
                  go_ret
                  exact ⟨rfl, HBf.out⟩
                · have hd : decide ((G : Int) < n) = false := decide_eq_false hgn
                  obtain rfl : D = 0 := HD.out (by omega)
                  go_wp2_with fail
                  refine (awake_any _).mono ?_
                  rintro ee wf ⟨rfl, hb⟩
                  have HBf := Lib.hid (HF.out _ (On.step HXS.out (On.step HO3.out hb)))
                  clear hb
                  go_wp2
                  go_ret
                  exact ⟨rfl, HBf.out⟩
end Go.Proofs.Ytnfjhpdpeihheaa
