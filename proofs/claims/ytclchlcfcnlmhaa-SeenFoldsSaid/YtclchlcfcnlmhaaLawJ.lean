/- SeenJoins: rows joined, the first two ahead, or the last two, are the same. -/
import Derived.Test.YtclchlcfcnlmhaaAwake
namespace Go.Proofs.Ytclchlcfcnlmhaa
open Go.RowKit Go.Maps Go.Shelf
set_option linter.unusedSimpArgs false
theorem best'_first {q : MK} (y : Option MK) : ∃ m, best' (some q) y = some m ∧ q.s ≤ m.s ∧ (q.s = m.s → m = q) := by
  cases y with
  | none => exact ⟨q, rfl, Int.le_refl _, fun _ => rfl⟩
  | some y =>
    by_cases h : q.s < y.s
    · exact ⟨y, by simp [best', best, h], by omega, fun e => by omega⟩
    · exact ⟨q, by simp [best', best, h], Int.le_refl _, fun _ => rfl⟩
theorem best'_then {q : MK} (x : Option MK) : ∃ m, best' x (some q) = some m ∧ q.s ≤ m.s := by
  cases x with
  | none => exact ⟨q, rfl, Int.le_refl _⟩
  | some x =>
    by_cases h : x.s < q.s
    · exact ⟨q, by simp [best', best, h], Int.le_refl _⟩
    · exact ⟨x, by simp [best', best, h], by omega⟩
/-- what three rows joined say of each one's marks -/
theorem joined_says {a b c : List MK} (ha : Ris a) (hb : Ris b) (hc : Ris c) (i : Nat) (R : List MK) (hR : (i = 0 ∧ R = a) ∨ (i = 1 ∧ R = b) ∨ (i = 2 ∧ R = c)) :
    ∀ q ∈ R, ∃ m, look (merge (merge a b) c) q.p = some m ∧ q.s ≤ m.s ∧ (q.s = m.s → i = 0 → m = q) := by
  intro q hq
  rw [look_join (ris_merge ha b) hc, look_join ha hb]
  rcases hR with ⟨rfl, rfl⟩ | ⟨rfl, rfl⟩ | ⟨rfl, rfl⟩
  · rw [look_of_mem ha hq]
    obtain ⟨m, h1, h2, h3⟩ := best'_first (q := q) (look b q.p)
    rw [h1]
    obtain ⟨m', h4, h5, h6⟩ := best'_first (q := m) (look c q.p)
    refine ⟨m', h4, by omega, fun e _ => ?_⟩
    have e1 : q.s = m.s := by omega
    rw [h6 (by omega), h3 e1]
  · rw [look_of_mem hb hq]
    obtain ⟨m, h1, h2⟩ := best'_then (q := q) (look a q.p)
    rw [h1]
    obtain ⟨m', h4, h5, -⟩ := best'_first (q := m) (look c q.p)
    exact ⟨m', h4, by omega, fun _ h => by omega⟩
  · rw [look_of_mem hc hq]
    obtain ⟨m, h1, h2⟩ := best'_then (q := q) (best' (look a q.p) (look b q.p))
    exact ⟨m, h1, h2, fun _ h => by omega⟩
theorem mayR_merge {a b : List MK} (ha : MayR a) (hb : ∀ m ∈ b, m.may) (h : (merge a b).length ≤ 6) : MayR (merge a b) := ⟨h, may_merge ha.may hb, ris_merge ha.ris b⟩
theorem IntoPost.cases {base : Nat} {w : World} {v : Value} {z : Int} {a b : List MK} (ha : MayR a) (h : IntoPost base w v z (intoR a b)) :
    ((merge a b).length ≤ 6 ∧ z = 0 ∧ OwnMs base w v (merge a b)) ∨ (6 < (merge a b).length ∧ z = 3) := by
  rw [intoR_eq ha.ris ha.len] at h
  by_cases hl : (merge a b).length ≤ 6
  · rw [if_pos hl] at h
    rcases h with ⟨x, hx, hz, ho⟩ | ⟨hx, -⟩
    · cases hx; exact .inl ⟨hl, hz, ho⟩
    · cases hx
  · rw [if_neg hl] at h
    rcases h with ⟨x, hx, -⟩ | ⟨-, hz, -⟩
    · cases hx
    · exact .inr ⟨by omega, hz⟩
theorem ms_ok {l : List MK} (h : MayR l) : ∀ m ∈ l, m.ok := fun m hm => (h.may m hm).ok
set_option maxRecDepth 100000 in
set_option maxHeartbeats 4000000 in
theorem joins_any (va vb vc : Value) (a b c : List MK) (w : World) (ha : MsAt w va a) (hb : MsAt w vb b) (hc : MsAt w vc c) :
    Calls Try.prog 8 #[va, vb, vc] w fun e w' => e = .returned (.bool true) ∧ Below w.heap.size w w' := by
  have HP := Lib.hid (And.intro ha (And.intro hb hc))
  have HMA := Lib.hid (mayR_any va a w ha)
  obtain ⟨a0, ca, rfl, -⟩ := ha.form
  obtain ⟨b0, cb, rfl, -⟩ := hb.form
  obtain ⟨c0, cc, rfl, -⟩ := hc.form
  obtain ⟨La, hLa⟩ : ∃ L, a.length = L := ⟨_, rfl⟩
  obtain ⟨Lb, hLb⟩ : ∃ L, b.length = L := ⟨_, rfl⟩
  obtain ⟨Lc, hLc⟩ : ∃ L, c.length = L := ⟨_, rfl⟩
  rw [hLa, hLb, hLc] at HP ⊢
  rw [hLa] at HMA
  have HLs := Lib.hid (And.intro hLa (And.intro hLb hLc))
  clear ha hb hc hLa hLb hLc
  go_enter Try.func8, Try.ntmps8
  go_wp2_with fail
  refine HMA.out.mono ?_
  rintro e w1 ⟨b1, rfl, h1, hb1⟩
  have HB := Lib.hid hb1
  cases b1
  · clear h1 hb1
    go_wp2_with fail
    refine (awake_any _).mono ?_
    rintro e wz ⟨rfl, hbz⟩
    have HZ := Lib.hid (HB.out.trans (hbz.mono HB.out.size))
    clear hbz
    go_wp2
    go_ret
    exact ⟨rfl, HZ.out⟩
  have H1 := Lib.hid (h1.1 rfl)
  have HMB := Lib.hid (mayR_any _ b w1 (HP.out.2.1.below HB.out))
  clear h1 hb1
  go_wp2_with fail
  refine HMB.out.mono ?_
  rintro e w2 ⟨b2, rfl, h2, hb2⟩
  have HB := Lib.hid (HB.out.trans (hb2.mono HB.out.size))
  cases b2
  · clear h2 hb2
    go_wp2_with fail
    refine (awake_any _).mono ?_
    rintro e wz ⟨rfl, hbz⟩
    have HZ := Lib.hid (HB.out.trans (hbz.mono HB.out.size))
    clear hbz
    go_wp2
    go_ret
    exact ⟨rfl, HZ.out⟩
  have H2 := Lib.hid (h2.1 rfl)
  have HMC := Lib.hid (mayR_any _ c w2 (HP.out.2.2.below HB.out))
  clear h2 hb2
  go_wp2_with fail
  refine HMC.out.mono ?_
  rintro e w3 ⟨b3, rfl, h3, hb3⟩
  have HB := Lib.hid (HB.out.trans (hb3.mono HB.out.size))
  cases b3
  · clear h3 hb3
    go_wp2_with fail
    refine (awake_any _).mono ?_
    rintro e wz ⟨rfl, hbz⟩
    have HZ := Lib.hid (HB.out.trans (hbz.mono HB.out.size))
    clear hbz
    go_wp2
    go_ret
    exact ⟨rfl, HZ.out⟩
  have H3 := Lib.hid (h3.1 rfl)
  have HJ1 := Lib.hid (join_any _ _ a b w3 (HP.out.1.below HB.out) (HP.out.2.1.below HB.out))
  clear h3 hb3
  go_wp2_with fail
  refine HJ1.out.mono ?_
  rintro e w4 ⟨v4, z4, rfl, h4, hb4⟩
  have HB := Lib.hid (HB.out.trans (hb4.mono HB.out.size))
  have h4' : IntoPost w3.heap.size w4 v4 z4 (intoR a b) := by
    rcases h4 with ⟨h, -⟩ | ⟨-, h⟩
    · exact absurd ⟨H1.out, H2.out⟩ h
    · exact h
  have H4 := Lib.hid (h4'.cases H1.out)
  have HJ2 := Lib.hid (join_any _ _ b c w4 (HP.out.2.1.below HB.out) (HP.out.2.2.below HB.out))
  clear h4 hb4 h4'
  go_wp2_with fail
  refine HJ2.out.mono ?_
  rintro e w5 ⟨v5, z5, rfl, h5, hb5⟩
  have h5' : IntoPost w4.heap.size w5 v5 z5 (intoR b c) := by
    rcases h5 with ⟨h, -⟩ | ⟨-, h⟩
    · exact absurd ⟨H2.out, H3.out⟩ h
    · exact h
  have HB := Lib.hid (HB.out.trans (hb5.mono HB.out.size))
  rcases H4.out with ⟨l4, rfl, o4⟩ | ⟨l4, rfl⟩
  rotate_left
  · clear h5 hb5 h5'
    go_wp2_with fail
    refine (awake_any _).mono ?_
    rintro e wz ⟨rfl, hbz⟩
    have HZ := Lib.hid (HB.out.trans (hbz.mono HB.out.size))
    clear hbz
    go_wp2
    go_ret
    exact ⟨rfl, HZ.out⟩
  have h5c := h5'.cases H2.out
  rcases h5c with ⟨l5, rfl, o5⟩ | ⟨l5, rfl⟩
  rotate_left
  · clear h5 hb5 h5' l4 o4
    go_wp2_with fail
    refine (awake_any _).mono ?_
    rintro e wz ⟨rfl, hbz⟩
    have HZ := Lib.hid (HB.out.trans (hbz.mono HB.out.size))
    clear hbz
    go_wp2
    go_ret
    exact ⟨rfl, HZ.out⟩
  have HM4 := Lib.hid (mayR_merge H1.out H2.out.may l4)
  have HM5 := Lib.hid (mayR_merge H2.out H3.out.may l5)
  have HO4 := Lib.hid ((o4.at (ms_ok HM4.out)).below hb5)
  have HO5 := Lib.hid (o5.at (ms_ok HM5.out))
  have HJ3 := Lib.hid (join_any _ _ (merge a b) c w5 HO4.out (HP.out.2.2.below HB.out))
  clear h5 hb5 h5' l4 o4 l5 o5
  go_wp2_with fail
  refine HJ3.out.mono ?_
  rintro e w6 ⟨v6, z6, rfl, h6, hb6⟩
  have HB := Lib.hid (HB.out.trans (hb6.mono HB.out.size))
  have h6' : IntoPost w5.heap.size w6 v6 z6 (intoR (merge a b) c) := by
    rcases h6 with ⟨h, -⟩ | ⟨-, h⟩
    · exact absurd ⟨HM4.out, H3.out⟩ h
    · exact h
  have H6 := Lib.hid (h6'.cases HM4.out)
  have HJ4 := Lib.hid (join_any _ _ a (merge b c) w6 (HP.out.1.below HB.out) (HO5.out.below hb6))
  clear h6 hb6 h6'
  go_wp2_with fail
  refine HJ4.out.mono ?_
  rintro e w7 ⟨v7, z7, rfl, h7, hb7⟩
  have HB := Lib.hid (HB.out.trans (hb7.mono HB.out.size))
  have h7' : IntoPost w6.heap.size w7 v7 z7 (intoR a (merge b c)) := by
    rcases h7 with ⟨h, -⟩ | ⟨-, h⟩
    · exact absurd ⟨H1.out, HM5.out⟩ h
    · exact h
  have h7c := h7'.cases H1.out
  rw [← join_assoc H1.out.ris H2.out.ris H3.out.ris] at h7c
  rcases H6.out with ⟨l6, rfl, o6⟩ | ⟨l6, rfl⟩
  rotate_left
  · obtain rfl : z7 = 3 := by
      rcases h7c with ⟨l, -⟩ | ⟨-, h⟩
      · omega
      · exact h
    clear h7 hb7 h7' h7c l6
    go_wp2_with fail
    go_loopw [16] (fun i wr => i = .int .i64 0 ∧ Hid (Below w.heap.size w wr)) (fun _ _ => 0)
    case atStart => exact ⟨rfl, HB.out.trans ((Go.Joins.below_alloc1 w7 _).mono HB.out.size)⟩
    case round =>
      obtain ⟨rfl, HB⟩ := hrel
      go_wp2_with fail
      refine (awake_any _).mono ?_
      rintro e wz ⟨rfl, hbz⟩
      have HZ := Lib.hid (HB.out.trans (hbz.mono HB.out.size))
      clear hbz
      go_wp2
      go_ret
      exact ⟨rfl, HZ.out⟩
  rcases h7c with ⟨l7, rfl, o7⟩ | ⟨l7, -⟩
  rotate_left
  · exfalso; omega
  have HMX := Lib.hid (mayR_merge HM4.out H3.out.may l6)
  obtain ⟨X, hX⟩ : ∃ X, merge (merge a b) c = X := ⟨_, rfl⟩
  have HXX := Lib.hid hX
  rw [hX] at o6 o7 HMX
  have HO6 := Lib.hid ((o6.at (ms_ok HMX.out)).below hb7)
  have hsm := same_any v6 v7 X X w7 HO6.out (o7.at (ms_ok HMX.out))
  rw [decide_eq_true rfl] at hsm
  have HSM := Lib.hid hsm
  clear h7 hb7 h7' l6 o6 l7 o7 hX hsm
  go_wp2_with fail
  refine HSM.out.mono ?_
  rintro e w8 ⟨rfl, hb8⟩
  have HB := Lib.hid (HB.out.trans (hb8.mono HB.out.size))
  have HX8 := Lib.hid (HO6.out.below hb8)
  clear hb8
  obtain ⟨gb, hgb⟩ : ∃ gb, w8.heap.size = gb := ⟨_, rfl⟩
  obtain ⟨W9, hW9⟩ : ∃ W9, W9 = w8.alloc (.cells #[.slice a0 La ca, .slice b0 Lb cb, .slice c0 Lc cc] 22) := ⟨_, rfl⟩
  have hb9 : Below w8.heap.size w8 W9 := by rw [hW9]; exact Go.Joins.below_alloc1 w8 _
  have HBX := Lib.hid (show BoxC W9 gb 22 #[.slice a0 La ca, .slice b0 Lb cb, .slice c0 Lc cc] by rw [hW9, ← hgb]; exact BoxC.new w8 22 _)
  have HX9 := Lib.hid (HX8.out.below hb9)
  have HB9 := Lib.hid (HB.out.trans (hb9.mono HB.out.size))
  have HP9 := Lib.hid (And.intro (HP.out.1.below HB9.out) (And.intro (HP.out.2.1.below HB9.out) (HP.out.2.2.below HB9.out)))
  clear hb9
  go_upto_region 12 with fail
  rw [← hW9]
  clear hW9 hgb
  go_wp2
  go_loopw [16] (fun i wr => ∃ n : Nat, n ≤ 3 ∧ i = .int .i64 (n : Nat) ∧ Hid (Below W9.heap.size W9 wr)) (fun i _ => 3 - (intOf i).toNat)
  case atStart => exact ⟨0, Nat.zero_le _, rfl, Below.refl _ _⟩
  case round =>
    obtain ⟨n, hn, rfl, HR⟩ := hrel
    by_cases hlt : n < 3
    · have hltz : (n : Int) < 3 := by omega
      obtain ⟨R, A, L, C, hRi, hcl, hms, hRL, hL6⟩ : ∃ (R : List MK) (A : Option Addr) (L C : Nat), ((n = 0 ∧ R = a) ∨ (n = 1 ∧ R = b) ∨ (n = 2 ∧ R = c)) ∧ (∀ W, Below W9.heap.size W9 W → W.cell? ⟨gb, n, none⟩ = some (.slice A L C)) ∧ MsAt W9 (.slice A L C) R ∧ R.length = L ∧ L ≤ 6 := by
        rcases (show n = 0 ∨ n = 1 ∨ n = 2 by omega) with rfl | rfl | rfl
        · exact ⟨a, a0, La, ca, .inl ⟨rfl, rfl⟩, fun W hW => (HBX.out.below hW).cell 0, HP9.out.1, HLs.out.1, by have := H1.out.len; have := HLs.out.1; omega⟩
        · exact ⟨b, b0, Lb, cb, .inr (.inl ⟨rfl, rfl⟩), fun W hW => (HBX.out.below hW).cell 1, HP9.out.2.1, HLs.out.2.1, by have := H2.out.len; have := HLs.out.2.1; omega⟩
        · exact ⟨c, c0, Lc, cc, .inr (.inr ⟨rfl, rfl⟩), fun W hW => (HBX.out.below hW).cell 2, HP9.out.2.2, HLs.out.2.2, by have := H3.out.len; have := HLs.out.2.2; omega⟩
      have HSY := Lib.hid (joined_says H1.out.ris H2.out.ris H3.out.ris n R hRi)
      rw [HXX.out] at HSY
      have HCL := Lib.hid hcl
      have HMS := Lib.hid hms
      have HRL := Lib.hid hRL
      clear hRi hcl hms hRL
      obtain ⟨wo, rfl⟩ : ∃ wo : World, wo = wr := ⟨_, rfl⟩
      go_wp2
      go_loopw [17] (fun i wr => ∃ k : Nat, k ≤ L ∧ i = .int .i64 (k : Nat) ∧ Hid (Below W9.heap.size W9 wr)) (fun i _ => L - (intOf i).toNat)
      case atStart => exact ⟨0, Nat.zero_le _, rfl, HR.out⟩
      case round =>
        obtain ⟨k, hk, rfl, HR⟩ := hrel
        have cl := HCL.out wr HR.out
        by_cases hkL : k < L
        · have hkz : (k : Int) < (L : Int) := by omega
          obtain ⟨q, hq⟩ : ∃ x, R[k]? = some x := ⟨_, List.getElem?_eq_getElem (by rw [HRL.out]; exact hkL)⟩
          obtain ⟨m, hm1, hm2, hm3⟩ := HSY.out q (List.mem_of_getElem? hq)
          have hla := last_any v6 X q.p wr (HX9.out.below HR.out)
          rw [lst_look HMX.out.ris, hm1] at hla
          have HLA := Lib.hid (show Calls Try.prog 10 #[v6, .int .i64 q.p] wr fun e w' => e = .returned (.tuple #[m.val, .bool true]) ∧ Below wr.heap.size wr w' from hla)
          obtain ⟨b', off, rfl, -, hc⟩ := MsAt.cell HMS.out hq
          have HCQ := Lib.hid (show ∀ W, Below W9.heap.size W9 W → W.cell? ⟨b', off + k * 3, none⟩ = some (.int .i64 q.p) ∧ W.cell? ⟨b', off + k * 3 + 1, none⟩ = some (.int .u64 q.s) ∧ W.cell? ⟨b', off + k * 3 + 2, none⟩ = some (.int .u64 q.o) from hc)
          obtain ⟨q0, q1, q2⟩ := HCQ.out wr HR.out
          clear hq hm1 hla hc
          go_wp2_with fail
          refine HLA.out.mono ?_
          rintro e wa ⟨rfl, hba⟩
          obtain ⟨gx, hgx⟩ : ∃ gx, wa.heap.size = gx := ⟨_, rfl⟩
          obtain ⟨Wb, hWb⟩ : ∃ Wb, Wb = wa.alloc (.cells #[.int .i64 m.p, .int .u64 m.s, .int .u64 m.o] 26) := ⟨_, rfl⟩
          have hbb : Below W9.heap.size W9 Wb := (HR.out.trans (hba.mono HR.out.size)).trans (by rw [hWb]; exact (Go.Joins.below_alloc1 wa _).mono (Nat.le_trans HR.out.size hba.size))
          have hxb : BoxC Wb gx 26 m.cells.toArray := by rw [hWb, ← hgx]; exact BoxC.new wa 26 m.cells.toArray
          have HBB := Lib.hid hbb
          clear q0 q1 q2 cl hba
          obtain ⟨q0, q1, q2⟩ := HCQ.out Wb hbb
          have cl := HCL.out Wb hbb
          have x0 : Wb.cell? ⟨gx, 0, none⟩ = some (.int .i64 m.p) := hxb.cell 0
          have x1 : Wb.cell? ⟨gx, 1, none⟩ = some (.int .u64 m.s) := hxb.cell 1
          have x2 : Wb.cell? ⟨gx, 2, none⟩ = some (.int .u64 m.o) := hxb.cell 2
          have d1 : decide (m.s < q.s) = false := decide_eq_false (by omega)
          clear hbb hxb
          by_cases hs : q.s = m.s
          · have e1 : (m.s == q.s) = true := by simp [hs]
            by_cases h0 : n = 0
            · have e3 := hm3 hs h0
              subst e3
              have e2 : ((n : Int) == 0) = true := by simp [h0]
              clear h0
              have kg := guard26
              have kn := fun w => neq26 m m w
              simp only [decide_true, Bool.not_true] at kn
              dsimp only [MK.val] at kn
              clear hm3 hm2 hs
              go_upto_region 19 with fail
              rw [← hWb]
              clear hWb hgx
              go_quiet (fail)
              go_wp2
              go_roundw
              case rel => exact ⟨k + 1, by omega, by go_num, drewN_below HBB.out _⟩
              case measure => simp [intOf]; omega
            · have e2 : ((n : Int) == 0) = false := by simp; omega
              clear hm3 hm2 hs
              go_upto_region 19 with fail
              rw [← hWb]
              clear hWb hgx
              go_quiet (fail)
              go_wp2
              go_roundw
              case rel => exact ⟨k + 1, by omega, by go_num, drewN_below HBB.out _⟩
              case measure => simp [intOf]; omega
          · have e1 : (m.s == q.s) = false := by simp; omega
            clear hm3 hm2 hs
            go_upto_region 19 with fail
            rw [← hWb]
            clear hWb hgx
            go_quiet (fail)
            go_wp2
            go_roundw
            case rel => exact ⟨k + 1, by omega, by go_num, drewN_below HBB.out _⟩
            case measure => simp [intOf]; omega
        · obtain rfl : k = L := by omega
          have HB2 := Lib.hid HR.out
          clear HR
          go_wp2
          go_roundw
          case rel => exact ⟨n + 1, by omega, by go_num, HB2.out⟩
          case measure => simp [intOf]; omega
    · obtain rfl : n = 3 := by omega
      have HB := Lib.hid (HB9.out.trans (HR.out.mono HB9.out.size))
      go_wp2_with fail
      refine (awake_any _).mono ?_
      rintro e wz ⟨rfl, hbz⟩
      have HZ := Lib.hid (HB.out.trans (hbz.mono HB.out.size))
      clear hbz
      go_wp2
      go_ret
      exact ⟨rfl, HZ.out⟩
end Go.Proofs.Ytclchlcfcnlmhaa
