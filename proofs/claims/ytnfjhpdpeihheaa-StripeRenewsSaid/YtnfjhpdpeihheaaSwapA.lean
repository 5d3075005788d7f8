/- Swap. -/
import Derived.Test.YtnfjhpdpeihheaaSwap
namespace Go.Proofs.Ytnfjhpdpeihheaa
open Go.RowKit Go.Maps Go.Shelf
theorem results_frag {fn : Func} {p u : Tmp} (h : fn.results = #[.cell p 25, .tmp u]) (tmps : Array Value) (w : World) (g : Nat) (a b : Value) (fr : Nat × Nat) (hp : tmps.getD p undef = .pointer (some ⟨g, 0, none⟩)) (hg : w.heap[g]? = some (.cells #[a, b] 25 fr)) :
    (results fn tmps).run Try.prog w = .ok (.tuple #[.agg #[a, b], tmps.getD u undef]) w := by
  rw [results_cell_tmp h, hp]
  simp [asAddr, Result.andThen, run_loadVar_row w g 25 25 #[a, b] fr _ hg Try.underlying25 rfl (by kernel_rfl)]
/-- a box that holds a place -/
def Box38 (w : World) (g : Nat) (x : PL) : Prop := w.heap[g]? = some (.cells #[.int .i64 x.n, .int .u64 x.s] 38 (0, 0))
theorem Box38.alloc {w : World} {g : Nat} {x : PL} (h : Box38 w g x) (o : Obj) : Box38 (w.alloc o) g x := (Below.heap_alloc w o g (lt_of_block h)).trans h
theorem Box38.new (w : World) (x : PL) : Box38 (w.alloc (.cells #[.int .i64 x.n, .int .u64 x.s] 38)) w.heap.size x := heap_alloc_new _ _
theorem Box38.c0 {w : World} {g : Nat} {x : PL} (h : Box38 w g x) : w.cell? ⟨g, 0, none⟩ = some (.int .i64 x.n) := by rw [Go.Joins.cell_of_block h]; rfl
theorem Box38.c1 {w : World} {g : Nat} {x : PL} (h : Box38 w g x) : w.cell? ⟨g, 1, none⟩ = some (.int .u64 x.s) := by rw [Go.Joins.cell_of_block h]; rfl
theorem Box38.below {W W' : World} {B : Nat} {x : PL} (h : Box38 W B x) (hb : Below W.heap.size W W') : Box38 W' B x := (hb.block B (lt_of_block h)).trans h
theorem Box38.other {w : World} {g B : Nat} {x : PL} (h : Box38 w g x) (hne : g ≠ B) (o : Nat) (v : Value) : Box38 (w.setCell ⟨B, o, none⟩ v) g x := (Below.heap_setCell w ⟨B, o, none⟩ v g hne).trans h
/-- Swap's boxes -/
def SW (w : World) (f : Int) (u : Value) (x y : PL) : World := (((w.alloc (.cells #[.int .u64 f, u] 25)).alloc (.cells #[.int .i64 x.n, .int .u64 x.s] 38)).alloc (.cells #[.int .i64 y.n, .int .u64 y.s] 38)).alloc (.cells #[.int .u64 0, .slice none 0 0] 25)
/-- what Swap holds at any time -/
structure SwB (W w : World) (f : Int) (u : Value) (x y : PL) : Prop where
  bel : Below w.heap.size w W
  lt : w.heap.size + 3 < W.heap.size
  b0 : Box25 W w.heap.size f u
  b1 : Box38 W (w.heap.size + 1) x
  b2 : Box38 W (w.heap.size + 1 + 1) y
  b3 : Box25 W (w.heap.size + 1 + 1 + 1) 0 (.slice none 0 0)
theorem SwB.start (w : World) (f : Int) (u : Value) (x y : PL) : SwB (SW w f u x y) w f u x y := by
  have s1 : (w.alloc (.cells #[.int .u64 f, u] 25)).heap.size = w.heap.size + 1 := World.size_alloc _ _
  have s2 : ((w.alloc (.cells #[.int .u64 f, u] 25)).alloc (.cells #[.int .i64 x.n, .int .u64 x.s] 38)).heap.size = w.heap.size + 1 + 1 := by rw [World.size_alloc, s1]
  have s3 : (((w.alloc (.cells #[.int .u64 f, u] 25)).alloc (.cells #[.int .i64 x.n, .int .u64 x.s] 38)).alloc (.cells #[.int .i64 y.n, .int .u64 y.s] 38)).heap.size = w.heap.size + 1 + 1 + 1 := by rw [World.size_alloc, s2]
  have s4 : (SW w f u x y).heap.size = w.heap.size + 1 + 1 + 1 + 1 := by unfold SW; rw [World.size_alloc, s3]
  refine ⟨?_, by omega, ?_, ?_, ?_, ?_⟩
  · unfold SW
    exact ((((Below.refl _ w).alloc (Nat.le_refl _) _).alloc (by omega) _).alloc (by omega) _).alloc (by omega) _
  · exact (((Box25.new w f u).alloc _).alloc _).alloc _
  · have := ((Box38.new (w.alloc (.cells #[.int .u64 f, u] 25)) x).alloc (.cells #[.int .i64 y.n, .int .u64 y.s] 38)).alloc (.cells #[.int .u64 0, .slice none 0 0] 25)
    rw [s1] at this
    exact this
  · have := (Box38.new ((w.alloc (.cells #[.int .u64 f, u] 25)).alloc (.cells #[.int .i64 x.n, .int .u64 x.s] 38)) y).alloc (.cells #[.int .u64 0, .slice none 0 0] 25)
    rw [s2] at this
    exact this
  · have := Box25.new (((w.alloc (.cells #[.int .u64 f, u] 25)).alloc (.cells #[.int .i64 x.n, .int .u64 x.s] 38)).alloc (.cells #[.int .i64 y.n, .int .u64 y.s] 38)) 0 (.slice none 0 0)
    rw [s3] at this
    exact this
theorem SwB.below {W W' w : World} {f : Int} {u : Value} {x y : PL} (h : SwB W w f u x y) (hb : Below W.heap.size W W') : SwB W' w f u x y :=
  ⟨h.bel.trans (hb.mono h.bel.size), by have := h.lt; have := hb.size; omega, h.b0.below hb, h.b1.below hb, h.b2.below hb, h.b3.below hb⟩
def SwapPost (w : World) (f : Int) (row : List PL) (old fresh : PL) (e : Ending) (w' : World) : Prop := Below w.heap.size w w' ∧ match swapL row old fresh with
  | none => e = .returned (.tuple #[.agg #[.int .u64 0, .slice none 0 0], .bool false])
  | some r => ∃ a' c', e = .returned (.tuple #[.agg #[.int .u64 f, .slice a' r.length c'], .bool true]) ∧ OwnPs w.heap.size w' (.slice a' r.length c') r
theorem OwnPs.other {base : Nat} {w : World} {v : Value} {l : List PL} (h : OwnPs base w v l) {B o : Nat} {u : Value} (hn : ∀ k, v.ownBlock = some k → k ≠ B) : OwnPs base (w.setCell ⟨B, o, none⟩ u) v l :=
  OwnRow.chg h ((Chg.refl (fun k => k = B) w).setCell (p := ⟨B, o, none⟩) (.inl rfl) u) (fun k hk => hn k hk)
set_option maxRecDepth 100000 in
set_option maxHeartbeats 2000000 in
theorem swap_any (f : Int) (a : Option Addr) (c : Nat) (row : List PL) (x y : PL) (w : World) (hp : PsAt w (.slice a row.length c) row) (hl : row.length ≤ 100000) :
    Calls Try.prog 21 #[.agg #[.int .u64 f, .slice a row.length c], x.val, y.val] w (SwapPost w f row x y) := by
  have HP := Lib.hid hp
  have HPO := Lib.hid hp.ok
  obtain ⟨E, hE⟩ : ∃ E, row.length = E := ⟨_, rfl⟩
  rw [hE] at HP hl ⊢
  have HE := Lib.hid hE
  clear hE hp
  have H0 := Lib.hid (SwB.start w f (.slice a E c) x y)
  obtain ⟨W, hW⟩ : ∃ W, W = SW w f (.slice a E c) x y := ⟨_, rfl⟩
  rw [← hW] at H0
  have HIX := Lib.hid (idx_any (.slice a E c) row x W (HP.out.below H0.out.bel) (by rw [HE.out]; exact hl))
  have HPOST := Lib.hid (show ∀ e w', Below w.heap.size w w' ∧ (match swapL row x y with
      | none => e = .returned (.tuple #[.agg #[.int .u64 0, .slice none 0 0], .bool false])
      | some r => ∃ a' c', e = .returned (.tuple #[.agg #[.int .u64 f, .slice a' r.length c'], .bool true]) ∧ OwnPs w.heap.size w' (.slice a' r.length c') r) → SwapPost w f row x y e w' from fun e w' h => h)
  generalize SwapPost w f row x y = Post at HPOST ⊢
  have c0 := H0.out.b0.c0
  have c1 := H0.out.b0.c1
  have x0 := H0.out.b1.c0
  have x1 := H0.out.b1.c1
  unfold idxI at HIX
  unfold swapL at HPOST
  go_enter Try.func21, Try.ntmps21
  go_wp2_with fail
  change Calls _ _ _ (SW w f (.slice a E c) x y) _
  rw [← hW]
  clear hW
  cases hat : at? row x with
  | none =>
    rw [hat] at HIX HPOST
    refine HIX.out.mono ?_
    rintro e w1 ⟨rfl, hb1⟩
    have h1 := H0.out.below hb1
    have r0 := h1.b3.c0
    have r1 := h1.b3.c1
    have rf := h1.b3.fz
    have HX := Lib.hid (show Box25 ((w1.setCell ⟨w.heap.size + 1 + 1 + 1, 0, none⟩ (.int .u64 0)).setCell ⟨w.heap.size + 1 + 1 + 1, 1, none⟩ (.slice none 0 0)) (w.heap.size + 1 + 1 + 1) 0 (.slice none 0 0) ∧ Below w.heap.size w ((w1.setCell ⟨w.heap.size + 1 + 1 + 1, 0, none⟩ (.int .u64 0)).setCell ⟨w.heap.size + 1 + 1 + 1, 1, none⟩ (.slice none 0 0)) from
      ⟨h1.b3.put 0 _, (h1.bel.setCell (p := ⟨w.heap.size + 1 + 1 + 1, 0, none⟩) (by show w.heap.size ≤ w.heap.size + 1 + 1 + 1; omega) _).setCell (p := ⟨w.heap.size + 1 + 1 + 1, 1, none⟩) (by show w.heap.size ≤ w.heap.size + 1 + 1 + 1; omega) _⟩)
    clear h1 hb1 c0 c1 x0 x1 HIX H0
    go_wp2
    refine bodyPost_ret (results_frag rfl _ _ (w.heap.size + 1 + 1 + 1) _ _ (0, 0) rfl HX.out.1) rfl ?_
    exact HPOST.out _ _ ⟨HX.out.2, rfl⟩
  | some k =>
    rw [hat] at HIX HPOST
    have hkE : k < E := by rw [← HE.out]; exact at_lt hat
    have hkz : (k : Int) < (E : Int) := by omega
    have hk0 : decide ((k : Int) < 0) = false := by simp
    refine HIX.out.mono ?_
    rintro e w1 ⟨rfl, hb1⟩
    have H1 := Lib.hid (H0.out.below hb1)
    obtain ⟨CL, hCL⟩ : ∃ CL, clash row k y.n = CL := ⟨_, rfl⟩
    have HCL := Lib.hid hCL
    have HPOST2 := Lib.hid (fun e w' => HPOST.out e w')
    simp only [hCL] at HPOST2
    clear hb1 HIX H0 c0 c1 x0 x1 hat HPOST hCL
    have c0 := H1.out.b0.c0
    have c1 := H1.out.b0.c1
    go_wp2
    go_loopw [21] (fun i wr => ∃ t : Nat, t ≤ E ∧ i = .int .i64 (t : Nat) ∧ Hid (∀ j q, j < t → j ≠ k → row[j]? = some q → q.n ≠ y.n) ∧ Hid (SwB wr w f (.slice a E c) x y)) (fun i _ => E - (intOf i).toNat)
    case atStart => exact ⟨0, Nat.zero_le _, rfl, (fun j q hj => absurd hj (Nat.not_lt_zero j)), H1.out⟩
    case round =>
      obtain ⟨t, ht, rfl, HQ, HB⟩ := hrel
      by_cases hlt : t < E
      · have hltz : (t : Int) < (E : Int) := by omega
        obtain ⟨q, hq⟩ : ∃ q, row[t]? = some q := ⟨_, List.getElem?_eq_getElem (by rw [HE.out]; exact hlt)⟩
        obtain ⟨b, off, rfl, hb, hc⟩ := PsAt.cell (HP.out.below HB.out.bel) hq
        obtain ⟨q0, q1⟩ := hc wr (Below.refl _ _)
        have hBa := Go.Joins.below_alloc1 wr (.cells #[.int .i64 q.n, .int .u64 q.s] 38)
        have hBW := HB.out.below hBa
        have y0 := hBW.b2.c0
        have HBW := Lib.hid hBW
        have HQM := Lib.hid hq
        clear hc hq hb hBa hBW
        by_cases htk : t = k
        · subst htk
          have hb1 : ((t : Int) == (t : Int)) = true := by simp
          have HQN := Lib.hid (show ∀ j q, j < t + 1 → j ≠ t → row[j]? = some q → q.n ≠ y.n from fun j q hj hjk hjq => by
            rcases Nat.lt_or_ge j t with h | h
            · exact HQ.out j q h hjk hjq
            · exact absurd (show j = t by omega) hjk)
          go_wp2
          go_roundw
          case rel => exact ⟨t + 1, by omega, by go_num, HQN.out, HBW.out⟩
          case measure => simp [intOf]; omega
        · have hb1 : ((t : Int) == (k : Int)) = false := by simp; omega
          by_cases hqy : q.n = y.n
          · have hb2 : (q.n == y.n) = true := by simpa using hqy
            obtain rfl : CL = true := by rw [← HCL.out]; exact clash_iff.2 ⟨t, q, htk, HQM.out, hqy⟩
            have r0 := HBW.out.b3.c0
            have r1 := HBW.out.b3.c1
            have rf := HBW.out.b3.fz
            have HX := Lib.hid (show Box25 (((wr.alloc (.cells #[.int .i64 q.n, .int .u64 q.s] 38)).setCell ⟨w.heap.size + 1 + 1 + 1, 0, none⟩ (.int .u64 0)).setCell ⟨w.heap.size + 1 + 1 + 1, 1, none⟩ (.slice none 0 0)) (w.heap.size + 1 + 1 + 1) 0 (.slice none 0 0) ∧ Below w.heap.size w (((wr.alloc (.cells #[.int .i64 q.n, .int .u64 q.s] 38)).setCell ⟨w.heap.size + 1 + 1 + 1, 0, none⟩ (.int .u64 0)).setCell ⟨w.heap.size + 1 + 1 + 1, 1, none⟩ (.slice none 0 0)) from
              ⟨HBW.out.b3.put 0 _, (HBW.out.bel.setCell (p := ⟨w.heap.size + 1 + 1 + 1, 0, none⟩) (by show w.heap.size ≤ w.heap.size + 1 + 1 + 1; omega) _).setCell (p := ⟨w.heap.size + 1 + 1 + 1, 1, none⟩) (by show w.heap.size ≤ w.heap.size + 1 + 1 + 1; omega) _⟩)
            clear hqy
            go_wp2_with fail
            refine bodyPost_ret (results_frag rfl _ _ (w.heap.size + 1 + 1 + 1) _ _ (0, 0) rfl HX.out.1) rfl ?_
            exact HPOST2.out _ _ ⟨HX.out.2, rfl⟩
          · have hb2 : (q.n == y.n) = false := by simpa using hqy
            have HQN := Lib.hid (show ∀ j z, j < t + 1 → j ≠ k → row[j]? = some z → z.n ≠ y.n from fun j z hj hjk hjq => by
              rcases Nat.lt_or_ge j t with h | h
              · exact HQ.out j z h hjk hjq
              · obtain rfl : j = t := by omega
                rw [HQM.out] at hjq
                cases hjq
                exact hqy)
            clear hqy
            go_wp2
            go_roundw
            case rel => exact ⟨t + 1, by omega, by go_num, HQN.out, HBW.out⟩
            case measure => simp [intOf]; omega
      · obtain rfl : t = E := by omega
        obtain rfl : CL = false := by
          cases CL
          · rfl
          · obtain ⟨j, q, h1, h2, h3⟩ := clash_iff.1 HCL.out
            exact absurd h3 (HQ.out j q (by rw [← HE.out]; exact (List.getElem?_eq_some_iff.1 h2).1) h1 h2)
        have HCLN := Lib.hid (clone_any (.slice a t c) row wr (HP.out.below HB.out.bel) (by rw [HE.out]; exact hl))
        clear c0 c1
        have c0 := HB.out.b0.c0
        have c1 := HB.out.b0.c1
        go_wp2_with fail
        refine HCLN.out.mono ?_
        rintro e w2 ⟨v2, rfl, ho2, hb2⟩
        obtain ⟨g, sc, rfl, hgw⟩ : ∃ g sc, v2 = .slice (some ⟨g, 0, none⟩) t sc ∧ wr.heap.size ≤ g := by
          rcases ho2.2 with ⟨_, h0⟩ | ⟨g, cap, cur, hv, hg, _⟩
          · rw [HE.out] at h0; omega
          · exact ⟨g, cap, by rw [hv, HE.out], hg⟩
        have h2 := HB.out.below hb2
        have hgl := HB.out.lt
        have hg0 : g ≠ w.heap.size := by omega
        have hg3 : g ≠ w.heap.size + 1 + 1 + 1 := by omega
        have o0 := h2.b0.c0
        have o1 := h2.b0.c1
        have of := h2.b0.fz
        have p1 : Box25 (w2.setCell ⟨w.heap.size, 1, none⟩ (.slice (some ⟨g, 0, none⟩) t sc)) w.heap.size f (.slice (some ⟨g, 0, none⟩) t sc) := by
          have := h2.b0
          unfold Box25 at this ⊢
          exact Go.Joins.block_setCell this _
        have ho3 : OwnPs wr.heap.size (w2.setCell ⟨w.heap.size, 1, none⟩ (.slice (some ⟨g, 0, none⟩) t sc)) (.slice (some ⟨g, 0, none⟩) t sc) row := OwnPs.other ho2 (fun k hk => by cases hk; exact hg0)
        have a1 := p1.c1
        have y2 := h2.b2.other (show w.heap.size + 1 + 1 ≠ w.heap.size by omega) 1 (.slice (some ⟨g, 0, none⟩) t sc)
        have y0 := y2.c0
        have y1 := y2.c1
        obtain ⟨⟨z0, d0⟩, ⟨z1, d1⟩, f0, f1⟩ := OwnPs.has HE.out ho3 k hkE
        have q1' := (p1.other (show w.heap.size ≠ g by omega) (k * 2) (.int .i64 y.n)).other (show w.heap.size ≠ g by omega) (k * 2 + 1) (.int .u64 y.s)
        have g0 := q1'.c0
        have g1 := q1'.c1
        have b3 := ((h2.b3.other (show w.heap.size + 1 + 1 + 1 ≠ w.heap.size by omega) 1 (.slice (some ⟨g, 0, none⟩) t sc)).other (show w.heap.size + 1 + 1 + 1 ≠ g by omega) (k * 2) (.int .i64 y.n)).other (show w.heap.size + 1 + 1 + 1 ≠ g by omega) (k * 2 + 1) (.int .u64 y.s)
        have e0 := b3.c0
        have e1 := b3.c1
        have ef := b3.fz
        have HX := Lib.hid (And.intro (b3.put f (.slice (some ⟨g, 0, none⟩) t sc)) (And.intro
          (show OwnPs w.heap.size _ (.slice (some ⟨g, 0, none⟩) t sc) (row.set k y) from OwnPs.base_le (OwnPs.other (OwnPs.other (OwnPs.set HE.out ho3 k y) (B := w.heap.size + 1 + 1 + 1) (o := 0) (u := .int .u64 f) (fun k hk => by cases hk; exact hg3)) (B := w.heap.size + 1 + 1 + 1) (o := 1) (u := .slice (some ⟨g, 0, none⟩) t sc) (fun k hk => by cases hk; exact hg3)) HB.out.bel.size)
          (((((h2.bel.setCell (p := ⟨w.heap.size, 1, none⟩) (Nat.le_refl _) (.slice (some ⟨g, 0, none⟩) t sc)).setCell (p := ⟨g, k * 2, none⟩) (by show w.heap.size ≤ g; omega) (.int .i64 y.n)).setCell (p := ⟨g, k * 2 + 1, none⟩) (by show w.heap.size ≤ g; omega) (.int .u64 y.s)).setCell (p := ⟨w.heap.size + 1 + 1 + 1, 0, none⟩) (by show w.heap.size ≤ w.heap.size + 1 + 1 + 1; omega) (.int .u64 f)).setCell (p := ⟨w.heap.size + 1 + 1 + 1, 1, none⟩) (by show w.heap.size ≤ w.heap.size + 1 + 1 + 1; omega) (.slice (some ⟨g, 0, none⟩) t sc))))
        have HRS := Lib.hid (show (row.set k y).length = t by rw [List.length_set]; exact HE.out)
        clear h2 ho2 ho3 p1 y2 q1' b3 hb2 c0 c1 hgl
        go_wp2
        refine bodyPost_ret (results_frag rfl _ _ (w.heap.size + 1 + 1 + 1) _ _ (0, 0) rfl HX.out.1) rfl ?_
        refine HPOST2.out _ _ ⟨HX.out.2.2, ?_⟩
        simp only [Bool.false_eq_true, if_false]
        rw [HRS.out]
        exact ⟨_, _, rfl, HX.out.2.1⟩
end Go.Proofs.Ytnfjhpdpeihheaa
