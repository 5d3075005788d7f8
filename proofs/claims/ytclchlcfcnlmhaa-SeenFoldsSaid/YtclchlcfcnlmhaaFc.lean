/- Rows that may be, rows that are the same; the document's. -/
import Derived.Test.YtclchlcfcnlmhaaFb
import Derived.Deep.Quiet
namespace Go.Proofs.Ytclchlcfcnlmhaa
open Go.RowKit Go.Maps Go.Shelf
set_option linter.unusedSimpArgs false
/-- behind W0, with new blocks alone -/
def On (W0 W : World) : Prop := Below W0.heap.size W0 W
theorem On.step {W0 W W' : World} (h : On W0 W) (hb : Below W.heap.size W W') : On W0 W' := Below.trans h (hb.mono (Below.size h))
theorem region_on {id : Nat} {Q : Exit → Act → World → Prop} {a : Act} {w : World} {l : List Oper} (hm : Try.prog.follows .mixedOrders = true) (hB : Region.lexB .any l.toArray = true) (W0 : World) (hC : On W0 w)
    (h : wpQuiet Try.prog l.toArray (On W0) (fun a' => ∀ w', On W0 w' → Q .normal a' w') l a) : (Code.region id l.toArray true).wp Try.prog Q a w :=
  wp_region_quiet (C := On W0) hm hB (Below.drew hC) (by simpa using h)
theorem calls_on {W0 W : World} (hC : On W0 W) {f : Nat} {args : Array Value} {v : Value} (h : Calls Try.prog f args W fun e w' => e = .returned v ∧ Below W.heap.size W w') : Calls Try.prog f args W fun e w' => e = .returned v ∧ On W0 w' :=
  h.mono fun _ _ ⟨he, hb⟩ => ⟨he, hC.step hb⟩
/-- each of a row may be, and it rises -/
def MayP (l : List MK) : Prop := (∀ m ∈ l, m.may) ∧ Ris l
theorem MayP.nil : MayP [] := ⟨by simp, List.Pairwise.nil⟩
theorem mayP_zero {l : List MK} {x : MK} (hx : l[0]? = some x) (h : x.may) : MayP (l.take 1) := by
  rw [take_snoc hx]
  exact ⟨by simpa using h, by simp [Ris]⟩
theorem mayP_snoc {l : List MK} {n : Nat} {y x : MK} (hy : l[n]? = some y) (hx : l[n + 1]? = some x) (hp : MayP (l.take (n + 1))) (h : x.may) (hlt : y.p < x.p) : MayP (l.take (n + 1 + 1)) := by
  rw [take_snoc hx]
  refine ⟨fun m hm => ?_, List.pairwise_append.2 ⟨hp.2, by simp, fun a ha b hb => ?_⟩⟩
  · rcases List.mem_append.1 hm with hm | hm
    · exact hp.1 m hm
    · rw [List.mem_singleton.1 hm]; exact h
  · rw [List.mem_singleton.1 hb]
    rw [take_snoc hy] at ha
    rcases List.mem_append.1 ha with ha | ha
    · have h2 := hp.2
      rw [take_snoc hy] at h2
      have := (List.pairwise_append.1 h2).2.2 a ha y (by simp)
      omega
    · rw [List.mem_singleton.1 ha]; exact hlt
theorem MayP.one {l : List MK} (h : MayP l) {k : Nat} {x : MK} (hx : l[k]? = some x) : x.may := h.1 x (List.mem_of_getElem? hx)
theorem MayP.two {l : List MK} (h : MayP l) {n : Nat} {y x : MK} (hy : l[n]? = some y) (hx : l[n + 1]? = some x) : y.p < x.p := by
  have a := List.getElem?_eq_some_iff.1 hy
  have b := List.getElem?_eq_some_iff.1 hx
  have := List.pairwise_iff_getElem.1 h.2 n (n + 1) a.1 b.1 (by omega)
  rwa [a.2, b.2] at this
theorem MayR.mayP {l : List MK} (h : MayR l) : MayP l := ⟨h.may, h.ris⟩
theorem MayR.of {l : List MK} (h : MayP l) (hl : l.length ≤ 6) : MayR l := ⟨hl, h.1, h.2⟩
set_option maxHeartbeats 4000000 in
theorem mayR_any (v : Value) (l : List MK) (w : World) (hp : MsAt w v l) : Calls Try.prog 14 #[v] w fun e w' => ∃ b : Bool, e = .returned (.bool b) ∧ (b = true ↔ MayR l) ∧ Below w.heap.size w w' := by
  have HP := Lib.hid hp
  obtain ⟨a, cap, rfl, hlen, -⟩ := hp
  obtain ⟨L, hL⟩ : ∃ L, l.length = L := ⟨_, rfl⟩
  rw [hL] at hlen HP ⊢
  have HL := Lib.hid hL
  clear hL
  by_cases h6 : 6 < L
  · have h6' : (6 : Int) < (L : Int) := by omega
    have HF := Lib.hid (show ¬ MayR l from fun h => by have := h.len; have := HL.out; omega)
    go_enter Try.func14, Try.ntmps14
    go_wp2
    go_ret
    exact ⟨false, rfl, by simpa using HF.out, Below.refl _ _⟩
  have h6' : ¬ (6 : Int) < (L : Int) := by omega
  go_enter Try.func14, Try.ntmps14
  go_wp2
  go_loopw [10] (fun i wr => ∃ k : Nat, k ≤ L ∧ i = .int .i64 (k : Nat) ∧ Hid (MayP (l.take k) ∧ Below w.heap.size w wr)) (fun i _ => L - (intOf i).toNat)
  case atStart => exact ⟨0, Nat.zero_le _, rfl, by rw [List.take_zero]; exact MayP.nil, Below.refl _ _⟩
  case round =>
    obtain ⟨k, hk, rfl, HR⟩ := hrel
    by_cases hlt : k < L
    · obtain ⟨x, hx⟩ : ∃ x, l[k]? = some x := ⟨_, List.getElem?_eq_getElem (by rw [HL.out]; exact hlt)⟩
      have hltz : (k : Int) < (L : Int) := by omega
      have HX := Lib.hid hx
      have HXO := Lib.hid (HP.out.ok x (List.mem_of_getElem? hx))
      obtain ⟨b, off, rfl, hb, -⟩ := MsAt.cell (HP.out.below HR.out.2) hx
      have HCX := Lib.hid (show ∀ j y, l[j]? = some y → ∀ W, Below w.heap.size w W → W.cell? ⟨b, off + j * 3, none⟩ = some (.int .i64 y.p) ∧ W.cell? ⟨b, off + j * 3 + 1, none⟩ = some (.int .u64 y.s) ∧ W.cell? ⟨b, off + j * 3 + 2, none⟩ = some (.int .u64 y.o) from fun j y hy W hW => by
        obtain ⟨b', off', he, -, hc⟩ := MsAt.cell (HP.out.below hW) hy
        cases he
        exact hc W (Below.refl _ _))
      obtain ⟨c0, c1, c2⟩ := HCX.out k x hx wr HR.out.2
      clear hb hx
      obtain ⟨W1, hW1⟩ : ∃ W1, W1 = wr.alloc (.cells #[.int .i64 x.p, .int .u64 x.s, .int .u64 x.o] 26) := ⟨_, rfl⟩
      have HB1 := Lib.hid (show Below w.heap.size w W1 from HR.out.2.trans (by rw [hW1]; exact (Go.Joins.below_alloc1 wr _).mono HR.out.2.size))
      have HX1 := Lib.hid (show BoxC W1 wr.heap.size 26 x.cells.toArray by rw [hW1]; exact BoxC.new wr 26 x.cells.toArray)
      obtain ⟨gx, hgx⟩ : ∃ gx, wr.heap.size = gx := ⟨_, rfl⟩
      rw [hgx] at HX1
      cases hm : x.mayB
      · have HM := Lib.hid (show ∀ W, Calls Try.prog 34 #[x.val] W fun e w' => e = .returned (.bool false) ∧ Below W.heap.size W w' from fun W => by have := may_any x W; rwa [hm] at this)
        have HF := Lib.hid (show ¬ MayR l from fun h => by have := (MK.mayB_iff HXO.out).2 (h.mayP.one HX.out); rw [hm] at this; cases this)
        have HC := Lib.hid (show ∀ W', On W1 W' → (W'.cell? ⟨gx, 0, none⟩ = some (.int .i64 x.p) ∧ W'.cell? ⟨gx, 1, none⟩ = some (.int .u64 x.s) ∧ W'.cell? ⟨gx, 2, none⟩ = some (.int .u64 x.o)) from fun W' hb => ⟨HX1.out.below hb |>.cell 0, HX1.out.below hb |>.cell 1, HX1.out.below hb |>.cell 2⟩)
        clear hm
        go_upto_region 6 with fail
        rw [← hW1]
        clear hW1 hgx c0 c1 c2
        refine region_on (by kernel_rfl) (by kernel_rfl) W1 (Below.refl _ _) ?_
        repeat (first
          | go_big_quiet_skip
          | (go_big_quiet_want; go_big_quiet_op; (first
            | go_big_quiet_on
            | (apply Exists.intro; refine ⟨fun _ hC => ?_, ?_⟩; with_reducible (first
                | exact rfl
                | exact calls_on hC (HM.out _)
                | (have hcell := HC.out _ hC; simp only [hcell, Result.andThen]; (first | exact rfl | exact ⟨rfl, rfl⟩ | exact ⟨trivial, rfl⟩))); go_big_quiet_on))))
        refine wpQuiet_nil ?_
        intro wm hO
        have HBM := Lib.hid (HB1.out.trans (Below.mono hO HB1.out.size))
        clear hO
        go_wp2
        go_ret
        exact ⟨false, rfl, by simpa using HF.out, HBM.out⟩
      · have HM := Lib.hid (show ∀ W, Calls Try.prog 34 #[x.val] W fun e w' => e = .returned (.bool true) ∧ Below W.heap.size W w' from fun W => by have := may_any x W; rwa [hm] at this)
        have HMY := Lib.hid ((MK.mayB_iff HXO.out).1 hm)
        clear hm
        rcases Nat.eq_zero_or_pos k with rfl | h0
        · have HK := Lib.hid (mayP_zero HX.out HMY.out)
          simp only [Nat.zero_mul, Nat.add_zero] at c0 c1 c2
          have HC := Lib.hid (show ∀ W', On W1 W' → (W'.cell? ⟨gx, 0, none⟩ = some (.int .i64 x.p) ∧ W'.cell? ⟨gx, 1, none⟩ = some (.int .u64 x.s) ∧ W'.cell? ⟨gx, 2, none⟩ = some (.int .u64 x.o)) from fun W' hb => ⟨HX1.out.below hb |>.cell 0, HX1.out.below hb |>.cell 1, HX1.out.below hb |>.cell 2⟩)
          go_upto_region 6 with fail
          rw [← hW1]
          clear hW1 hgx c0 c1 c2
          refine region_on (by kernel_rfl) (by kernel_rfl) W1 (Below.refl _ _) ?_
          repeat (first
            | go_big_quiet_skip
            | (go_big_quiet_want; go_big_quiet_op; (first
              | go_big_quiet_on
              | (apply Exists.intro; refine ⟨fun _ hC => ?_, ?_⟩; with_reducible (first
                  | exact rfl
                  | exact calls_on hC (HM.out _)
                  | (have hcell := HC.out _ hC; simp only [hcell, Result.andThen]; (first | exact rfl | exact ⟨rfl, rfl⟩ | exact ⟨trivial, rfl⟩))); go_big_quiet_on))))
          refine wpQuiet_nil ?_
          intro wm hO
          have HBM := Lib.hid (HB1.out.trans (Below.mono hO HB1.out.size))
          clear hO
          go_wp2
          go_roundw
          case rel => exact ⟨0 + 1, by omega, by go_num, HK.out, HBM.out⟩
          case measure => simp [intOf]; omega
        · obtain ⟨n, rfl⟩ : ∃ n, k = n + 1 := ⟨k - 1, by omega⟩
          obtain ⟨y, hy⟩ : ∃ x, l[n]? = some x := ⟨_, List.getElem?_eq_getElem (by rw [HL.out]; omega)⟩
          have HY := Lib.hid hy
          have hn0 : (n : Int) < (L : Int) := by omega
          have hpos : (0 : Int) < ((n + 1 : Nat) : Int) := by omega
          have HC := Lib.hid (show ∀ W', On W1 W' → (W'.cell? ⟨gx, 0, none⟩ = some (.int .i64 x.p) ∧ W'.cell? ⟨gx, 1, none⟩ = some (.int .u64 x.s) ∧ W'.cell? ⟨gx, 2, none⟩ = some (.int .u64 x.o)) ∧ W'.cell? ⟨b, off + n * 3, none⟩ = some (.int .i64 y.p) from fun W' hb => ⟨⟨HX1.out.below hb |>.cell 0, HX1.out.below hb |>.cell 1, HX1.out.below hb |>.cell 2⟩, (HCX.out n y HY.out W' (HB1.out.trans (Below.mono hb HB1.out.size))).1⟩)
          clear hy h0
          by_cases hyx : x.p ≤ y.p
          · have HF := Lib.hid (show ¬ MayR l from fun h => by have := h.mayP.two HY.out HX.out; omega)
            go_upto_region 6 with fail
            rw [← hW1]
            clear hW1 hgx c0 c1 c2
            refine region_on (by kernel_rfl) (by kernel_rfl) W1 (Below.refl _ _) ?_
            repeat (first
              | go_big_quiet_skip
              | (go_big_quiet_want; go_big_quiet_op; (first
                | go_big_quiet_on
                | (apply Exists.intro; refine ⟨fun _ hC => ?_, ?_⟩; with_reducible (first
                    | exact rfl
                    | exact calls_on hC (HM.out _)
                    | (have hcell := HC.out _ hC; simp only [hcell, Result.andThen]; (first | exact rfl | exact ⟨rfl, rfl⟩ | exact ⟨trivial, rfl⟩))); go_big_quiet_on))))
            refine wpQuiet_nil ?_
            intro wm hO
            have HBM := Lib.hid (HB1.out.trans (Below.mono hO HB1.out.size))
            clear hO
            go_wp2
            go_ret
            exact ⟨false, rfl, by simpa using HF.out, HBM.out⟩
          · have HK := Lib.hid (mayP_snoc HY.out HX.out HR.out.1 HMY.out (by omega))
            go_upto_region 6 with fail
            rw [← hW1]
            clear hW1 hgx c0 c1 c2
            refine region_on (by kernel_rfl) (by kernel_rfl) W1 (Below.refl _ _) ?_
            repeat (first
              | go_big_quiet_skip
              | (go_big_quiet_want; go_big_quiet_op; (first
                | go_big_quiet_on
                | (apply Exists.intro; refine ⟨fun _ hC => ?_, ?_⟩; with_reducible (first
                    | exact rfl
                    | exact calls_on hC (HM.out _)
                    | (have hcell := HC.out _ hC; simp only [hcell, Result.andThen]; (first | exact rfl | exact ⟨rfl, rfl⟩ | exact ⟨trivial, rfl⟩))); go_big_quiet_on))))
            refine wpQuiet_nil ?_
            intro wm hO
            have HBM := Lib.hid (HB1.out.trans (Below.mono hO HB1.out.size))
            clear hO
            go_wp2
            go_roundw
            case rel => exact ⟨n + 1 + 1, by omega, by go_num, HK.out, HBM.out⟩
            case measure => simp [intOf]; omega
    · obtain rfl : k = L := by omega
      have HF := Lib.hid (show MayR l from MayR.of (by have := HR.out.1; rwa [take_all HL.out] at this) (by have := HL.out; omega))
      have HB := Lib.hid HR.out.2
      clear HR
      go_wp2
      go_ret
      exact ⟨true, rfl, by simpa using HF.out, HB.out⟩
theorem count_any (x : Int) (w : World) : Calls Try.prog 50 #[.int .u64 x] w fun e w' => e = .returned (.bool (decide (1 ≤ x) && decide (x ≤ 4611686018427387903))) ∧ w' = w := by
  by_cases h1 : 1 ≤ x <;> by_cases h2 : x ≤ 4611686018427387903
  all_goals go_enter Try.func50, Try.ntmps50
  all_goals go_wp2
  all_goals go_ret
  all_goals exact ⟨by first | (simp_all; done) | (simp_all; omega), rfl⟩
set_option maxHeartbeats 1000000 in
theorem rmay_any (m : MK) (hm : m.ok) (w : World) : Calls Try.prog 35 #[m.val] w fun e w' => e = .returned (.bool m.mayB) ∧ Below w.heap.size w w' := by
  obtain ⟨p, s, o⟩ := m
  have HB := Lib.hid (Go.Joins.below_alloc1 w (.cells #[.int .i64 p, .int .u64 s, .int .u64 o] 26))
  have HN := Lib.hid (fun W => count_any s W)
  have hmb : MK.mayB ⟨p, s, o⟩ = ((decide (1 ≤ p) && decide (p ≤ 15)) && ((decide (1 ≤ s) && decide (s ≤ 4611686018427387903)) && decide (o ≤ 4611686018427387903))) := by
    simp only [MK.mayB, Bool.and_assoc]
  rw [hmb]
  clear hmb hm
  by_cases h1 : 1 ≤ p
  · by_cases h2 : p ≤ 15
    · obtain ⟨c, hc⟩ : ∃ c, (decide (1 ≤ s) && decide (s ≤ 4611686018427387903)) = c := ⟨_, rfl⟩
      rw [hc] at HN ⊢
      clear hc
      cases c
      · go_enter Try.func35, Try.ntmps35
        go_wp2_with fail
        refine (HN.out _).mono ?_
        rintro e w1 ⟨rfl, rfl⟩
        go_wp2
        go_ret
        exact ⟨by first | (simp [h1, h2]; done) | (simp [h1, h2]; omega), HB.out⟩
      · go_enter Try.func35, Try.ntmps35
        go_wp2_with fail
        refine (HN.out _).mono ?_
        rintro e w1 ⟨rfl, rfl⟩
        go_wp2
        go_ret
        exact ⟨by first | (simp [h1, h2]; done) | (simp [h1, h2]; omega), HB.out⟩
    · clear HN
      go_enter Try.func35, Try.ntmps35
      go_wp2
      go_ret
      exact ⟨by first | (simp [h1, h2]; done) | (simp [h1, h2]; omega), HB.out⟩
  · clear HN
    go_enter Try.func35, Try.ntmps35
    go_wp2
    go_ret
    exact ⟨by first | (simp [h1]; done) | (simp [h1]; omega), HB.out⟩
set_option maxHeartbeats 4000000 in
theorem rmayR_any (v : Value) (l : List MK) (w : World) (hp : MsAt w v l) (hl : l.length ≤ 100000) : Calls Try.prog 15 #[v] w fun e w' => ∃ b : Bool, e = .returned (.bool b) ∧ (b = true ↔ MayR l) ∧ Below w.heap.size w w' := by
  have HP := Lib.hid hp
  obtain ⟨a, cap, rfl, hlen, -⟩ := hp
  obtain ⟨L, hL⟩ : ∃ L, l.length = L := ⟨_, rfl⟩
  rw [hL] at hlen HP hl ⊢
  have HL := Lib.hid hL
  clear hL
  go_enter Try.func15, Try.ntmps15
  go_wp2
  go_loopw [3] (fun i wr => ∃ k : Nat, k ≤ L ∧ i = .int .i64 (k : Nat) ∧ Hid (MayP (l.take k) ∧ Below w.heap.size w wr)) (fun i _ => L - (intOf i).toNat)
  case atStart => exact ⟨0, Nat.zero_le _, rfl, by rw [List.take_zero]; exact MayP.nil, Below.refl _ _⟩
  case round =>
    obtain ⟨k, hk, rfl, HR⟩ := hrel
    by_cases hlt : k < L
    · obtain ⟨x, hx⟩ : ∃ x, l[k]? = some x := ⟨_, List.getElem?_eq_getElem (by rw [HL.out]; exact hlt)⟩
      have hltz : (k : Int) < (L : Int) := by omega
      have HX := Lib.hid hx
      have HXO := Lib.hid (HP.out.ok x (List.mem_of_getElem? hx))
      obtain ⟨b, off, rfl, hb, -⟩ := MsAt.cell (HP.out.below HR.out.2) hx
      have HCX := Lib.hid (show ∀ j y, l[j]? = some y → ∀ W, Below w.heap.size w W → W.cell? ⟨b, off + j * 3, none⟩ = some (.int .i64 y.p) ∧ W.cell? ⟨b, off + j * 3 + 1, none⟩ = some (.int .u64 y.s) ∧ W.cell? ⟨b, off + j * 3 + 2, none⟩ = some (.int .u64 y.o) from fun j y hy W hW => by
        obtain ⟨b', off', he, -, hc⟩ := MsAt.cell (HP.out.below hW) hy
        cases he
        exact hc W (Below.refl _ _))
      obtain ⟨c0, c1, c2⟩ := HCX.out k x hx wr HR.out.2
      clear hb hx
      obtain ⟨W1, rfl⟩ : ∃ W1 : World, W1 = wr := ⟨_, rfl⟩
      have HB1 := Lib.hid HR.out.2
      cases hm : x.mayB
      · have HM := Lib.hid (show ∀ W, Calls Try.prog 35 #[x.val] W fun e w' => e = .returned (.bool false) ∧ Below W.heap.size W w' from fun W => by have := rmay_any x HXO.out W; rwa [hm] at this)
        have HF := Lib.hid (show ¬ MayR l from fun h => by have := (MK.mayB_iff HXO.out).2 (h.mayP.one HX.out); rw [hm] at this; cases this)
        have HC := Lib.hid (show ∀ W', On W1 W' → (W'.cell? ⟨b, off + k * 3, none⟩ = some (.int .i64 x.p) ∧ W'.cell? ⟨b, off + k * 3 + 1, none⟩ = some (.int .u64 x.s) ∧ W'.cell? ⟨b, off + k * 3 + 2, none⟩ = some (.int .u64 x.o)) from fun W' hb => HCX.out k x HX.out W' (HB1.out.trans (Below.mono hb HB1.out.size)))
        clear hm
        clear c0 c1 c2
        go_upto_region 4 with fail
        refine region_on (by kernel_rfl) (by kernel_rfl) W1 (Below.refl _ _) ?_
        repeat (first
          | go_big_quiet_skip
          | (go_big_quiet_want; go_big_quiet_op; (first
            | go_big_quiet_on
            | (apply Exists.intro; refine ⟨fun _ hC => ?_, ?_⟩; with_reducible (first
                | exact rfl
                | exact calls_on hC (HM.out _)
                | (have hcell := HC.out _ hC; simp only [hcell, Result.andThen]; (first | exact rfl | exact ⟨rfl, rfl⟩ | exact ⟨trivial, rfl⟩))); go_big_quiet_on))))
        refine wpQuiet_nil ?_
        intro wm hO
        have HBM := Lib.hid (HB1.out.trans (Below.mono hO HB1.out.size))
        clear hO
        go_wp2
        go_ret
        exact ⟨false, rfl, by simpa using HF.out, HBM.out⟩
      · have HM := Lib.hid (show ∀ W, Calls Try.prog 35 #[x.val] W fun e w' => e = .returned (.bool true) ∧ Below W.heap.size W w' from fun W => by have := rmay_any x HXO.out W; rwa [hm] at this)
        have HMY := Lib.hid ((MK.mayB_iff HXO.out).1 hm)
        clear hm
        rcases Nat.eq_zero_or_pos k with rfl | h0
        · have HK := Lib.hid (mayP_zero HX.out HMY.out)
          simp only [Nat.zero_mul, Nat.add_zero] at c0 c1 c2
          have HC := Lib.hid (show ∀ W', On W1 W' → (W'.cell? ⟨b, off, none⟩ = some (.int .i64 x.p) ∧ W'.cell? ⟨b, off + 1, none⟩ = some (.int .u64 x.s) ∧ W'.cell? ⟨b, off + 2, none⟩ = some (.int .u64 x.o)) from fun W' hb => by simpa using HCX.out 0 x HX.out W' (HB1.out.trans (Below.mono hb HB1.out.size)))
          clear c0 c1 c2
          go_upto_region 4 with fail
          refine region_on (by kernel_rfl) (by kernel_rfl) W1 (Below.refl _ _) ?_
          repeat (first
            | go_big_quiet_skip
            | (go_big_quiet_want; go_big_quiet_op; (first
              | go_big_quiet_on
              | (apply Exists.intro; refine ⟨fun _ hC => ?_, ?_⟩; with_reducible (first
                  | exact rfl
                  | exact calls_on hC (HM.out _)
                  | (have hcell := HC.out _ hC; simp only [hcell, Result.andThen]; (first | exact rfl | exact ⟨rfl, rfl⟩ | exact ⟨trivial, rfl⟩))); go_big_quiet_on))))
          refine wpQuiet_nil ?_
          intro wm hO
          have HBM := Lib.hid (HB1.out.trans (Below.mono hO HB1.out.size))
          clear hO
          go_wp2
          go_roundw
          case rel => exact ⟨0 + 1, by omega, by go_num, HK.out, HBM.out⟩
          case measure => simp [intOf]; omega
        · obtain ⟨n, rfl⟩ : ∃ n, k = n + 1 := ⟨k - 1, by omega⟩
          obtain ⟨y, hy⟩ : ∃ x, l[n]? = some x := ⟨_, List.getElem?_eq_getElem (by rw [HL.out]; omega)⟩
          have HY := Lib.hid hy
          have hn0 : (n : Int) < (L : Int) := by omega
          have hpos : (0 : Int) < ((n + 1 : Nat) : Int) := by omega
          have HC := Lib.hid (show ∀ W', On W1 W' → (W'.cell? ⟨b, off + (n + 1) * 3, none⟩ = some (.int .i64 x.p) ∧ W'.cell? ⟨b, off + (n + 1) * 3 + 1, none⟩ = some (.int .u64 x.s) ∧ W'.cell? ⟨b, off + (n + 1) * 3 + 2, none⟩ = some (.int .u64 x.o)) ∧ W'.cell? ⟨b, off + n * 3, none⟩ = some (.int .i64 y.p) from fun W' hb => ⟨HCX.out (n + 1) x HX.out W' (HB1.out.trans (Below.mono hb HB1.out.size)), (HCX.out n y HY.out W' (HB1.out.trans (Below.mono hb HB1.out.size))).1⟩)
          clear hy h0
          by_cases hyx : x.p ≤ y.p
          · have HF := Lib.hid (show ¬ MayR l from fun h => by have := h.mayP.two HY.out HX.out; omega)
            clear c0 c1 c2
            go_upto_region 4 with fail
            refine region_on (by kernel_rfl) (by kernel_rfl) W1 (Below.refl _ _) ?_
            repeat (first
              | go_big_quiet_skip
              | (go_big_quiet_want; go_big_quiet_op; (first
                | go_big_quiet_on
                | (apply Exists.intro; refine ⟨fun _ hC => ?_, ?_⟩; with_reducible (first
                    | exact rfl
                    | exact calls_on hC (HM.out _)
                    | (have hcell := HC.out _ hC; simp only [hcell, Result.andThen]; (first | exact rfl | exact ⟨rfl, rfl⟩ | exact ⟨trivial, rfl⟩))); go_big_quiet_on))))
            refine wpQuiet_nil ?_
            intro wm hO
            have HBM := Lib.hid (HB1.out.trans (Below.mono hO HB1.out.size))
            clear hO
            go_wp2
            go_ret
            exact ⟨false, rfl, by simpa using HF.out, HBM.out⟩
          · have HK := Lib.hid (mayP_snoc HY.out HX.out HR.out.1 HMY.out (by omega))
            clear c0 c1 c2
            go_upto_region 4 with fail
            refine region_on (by kernel_rfl) (by kernel_rfl) W1 (Below.refl _ _) ?_
            repeat (first
              | go_big_quiet_skip
              | (go_big_quiet_want; go_big_quiet_op; (first
                | go_big_quiet_on
                | (apply Exists.intro; refine ⟨fun _ hC => ?_, ?_⟩; with_reducible (first
                    | exact rfl
                    | exact calls_on hC (HM.out _)
                    | (have hcell := HC.out _ hC; simp only [hcell, Result.andThen]; (first | exact rfl | exact ⟨rfl, rfl⟩ | exact ⟨trivial, rfl⟩))); go_big_quiet_on))))
            refine wpQuiet_nil ?_
            intro wm hO
            have HBM := Lib.hid (HB1.out.trans (Below.mono hO HB1.out.size))
            clear hO
            go_wp2
            go_roundw
            case rel => exact ⟨n + 1 + 1, by omega, by go_num, HK.out, HBM.out⟩
            case measure => simp [intOf]; omega
    · obtain rfl : k = L := by omega
      have HM := Lib.hid (show MayP l by have := HR.out.1; rwa [take_all HL.out] at this)
      have HB := Lib.hid HR.out.2
      clear HR
      go_wp2
      go_ret
      refine ⟨_, rfl, ?_, HB.out⟩
      rw [decide_eq_true_eq]
      exact ⟨fun h => MayR.of HM.out (by have := HL.out; omega), fun h => by have := h.len; have := HL.out; omega⟩
end Go.Proofs.Ytclchlcfcnlmhaa
