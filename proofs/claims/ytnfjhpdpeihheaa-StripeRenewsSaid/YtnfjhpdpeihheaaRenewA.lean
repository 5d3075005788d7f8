/- slices.Equal of places; replace; leave. -/
import Derived.Test.YtnfjhpdpeihheaaSwapA
namespace Go.Proofs.Ytnfjhpdpeihheaa
open Go.RowKit Go.Maps Go.Shelf
set_option maxRecDepth 100000 in
set_option maxHeartbeats 1000000 in
theorem equal_any (v u : Value) (l m : List PL) (w : World) (hp : PsAt w v l) (hq : PsAt w u m) :
    Calls Try.prog 48 #[v, u] w fun e w' => e = .returned (.bool (decide (l = m))) ∧ Below w.heap.size w w' := by
  have HP := Lib.hid hp
  have HQ := Lib.hid hq
  obtain ⟨a, cap, rfl, hlen, -⟩ := hp
  obtain ⟨a2, cap2, rfl, hlen2, -⟩ := hq
  obtain ⟨L, hL⟩ : ∃ L, l.length = L := ⟨_, rfl⟩
  obtain ⟨M, hM⟩ : ∃ M, m.length = M := ⟨_, rfl⟩
  rw [hL] at hlen HP ⊢
  rw [hM] at hlen2 HQ ⊢
  have HL := Lib.hid hL
  have HM := Lib.hid hM
  clear hL hM
  by_cases hLM : L = M
  · subst hLM
    go_enter Try.func48, Try.ntmps48
    go_wp2
    go_loopw [13] (fun i wr => ∃ k : Nat, k ≤ L ∧ i = .int .i64 (k : Nat) ∧ Hid (l.take k = m.take k ∧ Below w.heap.size w wr)) (fun i _ => L - (intOf i).toNat)
    case atStart => exact ⟨0, Nat.zero_le _, rfl, by simp, Below.refl _ _⟩
    case round =>
      obtain ⟨k, hk, rfl, HR⟩ := hrel
      by_cases hlt : k < L
      · obtain ⟨x, hx⟩ : ∃ x, l[k]? = some x := ⟨_, List.getElem?_eq_getElem (by rw [HL.out]; exact hlt)⟩
        obtain ⟨y, hy⟩ : ∃ y, m[k]? = some y := ⟨_, List.getElem?_eq_getElem (by rw [HM.out]; exact hlt)⟩
        have hltz : (k : Int) < (L : Int) := by omega
        obtain ⟨r3, r4⟩ := HR.out
        obtain ⟨b, off, rfl, hb, hc⟩ := PsAt.cell (HP.out.below r4) hx
        obtain ⟨c0, c1⟩ := hc wr (Below.refl _ _)
        obtain ⟨b2, off2, rfl, hb2, hc2⟩ := PsAt.cell (HQ.out.below r4) hy
        obtain ⟨d0, d1⟩ := hc2 wr (Below.refl _ _)
        have k1 := fun w => neq38 x y w
        have kg := guard38
        have HTE := Lib.hid (take_eq_snoc r3 hx hy)
        have HB := Lib.hid r4
        clear hc hc2 hx hy r3 r4 HR hb hb2
        by_cases hxy : x = y
        · rw [decide_eq_true hxy] at k1
          dsimp only [PL.val, Bool.not_true] at k1
          have HT := Lib.hid (HTE.out.2 hxy)
          clear hxy
          go_wp2_with fail
          go_quiet (fail)
          go_wp2
          go_roundw
          case rel => exact ⟨k + 1, by omega, by go_num, HT.out, drewN_below HB.out _⟩
          case measure => simp [intOf]; omega
        · rw [decide_eq_false hxy] at k1
          dsimp only [PL.val, Bool.not_false] at k1
          have HT := Lib.hid (show decide (l = m) = false from decide_eq_false fun e => hxy (HTE.out.1 (by rw [e])))
          clear hxy
          go_wp2_with fail
          go_quiet (fail)
          go_wp2
          go_ret
          exact ⟨by rw [HT.out]; rfl, drewN_below HB.out _⟩
      · obtain rfl : k = L := by omega
        have HT := Lib.hid (show decide (l = m) = true from decide_eq_true (by have := HR.out.1; rw [take_all HL.out, take_all HM.out] at this; exact this))
        go_wp2
        go_ret
        exact ⟨by rw [HT.out]; rfl, HR.out.2⟩
  · have hne : ((L : Int) == (M : Int)) = false := by simp; omega
    have HT := Lib.hid (show decide (l = m) = false from decide_eq_false fun e => hLM (by rw [← HL.out, ← HM.out, e]))
    go_enter Try.func48, Try.ntmps48
    go_wp2
    go_ret
    exact ⟨by rw [HT.out]; rfl, Below.refl _ _⟩
/-- a place replaced by the first of those that can be there -/
def replL (row : List PL) (old : PL) : List PL → Option (List PL)
  | [] => none
  | g :: gs => match swapL row old g with
    | some r => some r
    | none => replL row old gs
theorem replL_app (row : List PL) (old x : PL) : ∀ l : List PL, replL row old (l ++ [x]) = match replL row old l with
    | some r => some r
    | none => swapL row old x
  | [] => by simp [replL]; cases swapL row old x <;> rfl
  | g :: gs => by
    simp only [List.cons_append, replL]
    cases swapL row old g with
    | some r => rfl
    | none => exact replL_app row old x gs
theorem replL_some_app {row r : List PL} {old : PL} : ∀ {l m : List PL}, replL row old l = some r → replL row old (l ++ m) = some r
  | [], _, h => by cases h
  | g :: gs, m, h => by
    simp only [List.cons_append, replL] at h ⊢
    cases hs : swapL row old g with
    | some q => rw [hs] at h; exact h
    | none => rw [hs] at h; exact replL_some_app h
set_option maxRecDepth 100000 in
set_option maxHeartbeats 2000000 in
theorem repl_any (f : Int) (a : Option Addr) (c : Nat) (row : List PL) (x : PL) (v : Value) (good : List PL) (w : World) (hp : PsAt w (.slice a row.length c) row) (hq : PsAt w v good) (hl : row.length ≤ 100000) :
    Calls Try.prog 46 #[.agg #[.int .u64 f, .slice a row.length c], x.val, v] w fun e w' => ∃ a' c', e = .returned (.agg #[.int .u64 f, .slice a' ((replL row x good).getD row).length c']) ∧ PsAt w' (.slice a' ((replL row x good).getD row).length c') ((replL row x good).getD row) ∧ Below w.heap.size w w' := by
  have HP := Lib.hid hp
  have HQ := Lib.hid hq
  have HPO := Lib.hid hp.ok
  have HQO := Lib.hid hq.ok
  obtain ⟨b, k, rfl, hlen, -⟩ := hq.form
  obtain ⟨E, hE⟩ : ∃ E, row.length = E := ⟨_, rfl⟩
  obtain ⟨L, hL⟩ : ∃ L, good.length = L := ⟨_, rfl⟩
  rw [hE] at HP hl ⊢
  rw [hL] at HQ hlen ⊢
  have HE := Lib.hid hE
  have HL := Lib.hid hL
  clear hE hL hp hq
  obtain ⟨R, hR⟩ : ∃ R, (replL row x good).getD row = R := ⟨_, rfl⟩
  rw [hR]
  have HR0 := Lib.hid hR
  clear hR
  obtain ⟨W, hW⟩ : ∃ W, W = ((w.alloc (.cells #[.int .u64 f, .slice a E c] 25)).alloc (.cells #[.int .i64 x.n, .int .u64 x.s] 38)).alloc (.cells #[.int .u64 0, .slice none 0 0] 25) := ⟨_, rfl⟩
  have s1 : (w.alloc (.cells #[.int .u64 f, .slice a E c] 25)).heap.size = w.heap.size + 1 := World.size_alloc _ _
  have s2 : ((w.alloc (.cells #[.int .u64 f, .slice a E c] 25)).alloc (.cells #[.int .i64 x.n, .int .u64 x.s] 38)).heap.size = w.heap.size + 1 + 1 := by rw [World.size_alloc, s1]
  have H0 := Lib.hid (show Below w.heap.size w W ∧ Box25 W w.heap.size f (.slice a E c) ∧ Box38 W (w.heap.size + 1) x ∧ Box25 W (w.heap.size + 1 + 1) 0 (.slice none 0 0) from by
    rw [hW]
    refine ⟨(((Below.refl _ w).alloc (Nat.le_refl _) _).alloc (by omega) _).alloc (by omega) _, ((Box25.new w f (.slice a E c)).alloc _).alloc _, ?_, ?_⟩
    · have := (Box38.new (w.alloc (.cells #[.int .u64 f, .slice a E c] 25)) x).alloc (.cells #[.int .u64 0, .slice none 0 0] 25)
      rw [s1] at this
      exact this
    · have := Box25.new ((w.alloc (.cells #[.int .u64 f, .slice a E c] 25)).alloc (.cells #[.int .i64 x.n, .int .u64 x.s] 38)) 0 (.slice none 0 0)
      rw [s2] at this
      exact this)
  go_enter Try.func46, Try.ntmps46
  go_wp2_with fail
  change Code.wp _ _ _ _ (((w.alloc (.cells #[.int .u64 f, .slice a E c] 25)).alloc (.cells #[.int .i64 x.n, .int .u64 x.s] 38)).alloc (.cells #[.int .u64 0, .slice none 0 0] 25))
  rw [← hW]
  clear hW s1 s2
  go_loopw [13] (fun i wr => ∃ t : Nat, t ≤ L ∧ i = .int .i64 (t : Nat) ∧ Hid (replL row x (good.take t) = none) ∧ Hid (Below W.heap.size W wr)) (fun i _ => L - (intOf i).toNat)
  case atStart => exact ⟨0, Nat.zero_le _, rfl, (by rw [List.take_zero]; rfl), Below.refl _ _⟩
  case round =>
    obtain ⟨t, ht, rfl, HN, HB⟩ := hrel
    obtain ⟨h1, h2, h3, h4⟩ := H0.out
    have HBW := Lib.hid (h1.trans (HB.out.mono h1.size))
    have g2 := h2.below HB.out
    have g3 := h3.below HB.out
    have g4 := h4.below HB.out
    by_cases hlt : t < L
    · have hltz : (t : Int) < (L : Int) := by omega
      obtain ⟨y, hy⟩ : ∃ y, good[t]? = some y := ⟨_, List.getElem?_eq_getElem (by rw [HL.out]; exact hlt)⟩
      obtain ⟨gb, go, rfl, _, hc⟩ := PsAt.cell (HQ.out.below HBW.out) hy
      obtain ⟨y0, y1⟩ := hc wr (Below.refl _ _)
      have HYO := Lib.hid (HQO.out y (List.mem_of_getElem? hy))
      have hap := replL_app row x y (good.take t)
      rw [← take_snoc hy, HN.out] at hap
      obtain ⟨X, hX⟩ : ∃ X, wr.alloc (.cells #[.int .i64 y.n, .int .u64 y.s] 38) = X := ⟨_, rfl⟩
      have hbX : Below wr.heap.size wr X := by rw [← hX]; exact Go.Joins.below_alloc1 _ _
      have hy38 : Box38 X wr.heap.size y := by rw [← hX]; exact Box38.new _ _
      have c0 := (g2.below hbX).c0
      have c1 := (g2.below hbX).c1
      have x0 := (g3.below hbX).c0
      have x1 := (g3.below hbX).c1
      have p0 := hy38.c0
      have p1 := hy38.c1
      have hwX := HBW.out.trans (hbX.mono HBW.out.size)
      have HSW := Lib.hid (swap_any f a c row x y X (by rw [HE.out]; exact HP.out.below hwX) (by rw [HE.out]; exact hl))
      rw [HE.out] at HSW
      have HGX := Lib.hid (show Below W.heap.size W X from HB.out.trans (hbX.mono HB.out.size))
      have HYM := Lib.hid hy
      clear hc hy g2 g3 hbX hy38 hwX
      go_wp2_with fail
      refine HSW.out.mono ?_
      unfold SwapPost
      rintro e w3 ⟨hb3, he⟩
      have HG3 := Lib.hid (HGX.out.trans (hb3.mono HGX.out.size))
      cases hs : swapL row x y with
      | none =>
        rw [hs] at he hap
        simp only at he
        subst he
        have HNN := Lib.hid hap
        have HG4 := Lib.hid (HG3.out.alloc HG3.out.size (.cells #[.int .u64 0, .slice none 0 0] 25))
        clear hs hb3 hap c0 c1 x0 x1 p0 p1
        go_wp2
        go_roundw
        case rel => exact ⟨t + 1, by omega, by go_num, HNN.out, HG4.out⟩
        case measure => simp [intOf]; omega
      | some r =>
        rw [hs] at he hap
        simp only at he
        obtain ⟨a', c', rfl, ho⟩ := he
        have hRr : R = r := by
          rw [← HR0.out]
          have := replL_some_app (m := good.drop (t + 1)) hap
          rw [List.take_append_drop] at this
          rw [this]; rfl
        have hps := OwnPs.at ho (swap_ok hs HPO.out HYO.out)
        have hg4 := h4.below HG3.out
        have r0 : ∀ o, (w3.alloc o).cell? ⟨w.heap.size + 1 + 1, 0, none⟩ = some (.int .u64 0) := fun o => (hg4.alloc o).c0
        have r1 : ∀ o, (w3.alloc o).cell? ⟨w.heap.size + 1 + 1, 1, none⟩ = some (.slice none 0 0) := fun o => (hg4.alloc o).c1
        have rf : ∀ o j, (w3.alloc o).frozen? ⟨w.heap.size + 1 + 1, j, none⟩ = false := fun o j => (hg4.alloc o).fz j
        have hlt4 : w.heap.size + 1 + 1 < X.heap.size := by have := lt_of_block h4; have := HGX.out.size; omega
        have ho3 : OwnPs X.heap.size (w3.alloc (.cells #[.int .u64 f, .slice a' r.length c'] 25)) (.slice a' r.length c') r := ho.kept (Go.Joins.below_alloc1 _ _) (Nat.le_refl _)
        have hne : ∀ k, (Value.slice a' r.length c').ownBlock = some k → k ≠ w.heap.size + 1 + 1 := fun k hk => by have := ho3.own k hk; omega
        have hb4 : Below w.heap.size w (w3.alloc (.cells #[.int .u64 f, .slice a' r.length c'] 25)) := (h1.trans (HG3.out.mono h1.size)).alloc (by have := h1.size; have := HG3.out.size; omega) _
        have HX := Lib.hid (And.intro ((hg4.alloc (.cells #[.int .u64 f, .slice a' r.length c'] 25)).put f (.slice a' r.length c')) (And.intro
          (OwnPs.at (OwnPs.other (OwnPs.other ho3 hne (o := 0) (u := .int .u64 f)) hne (o := 1) (u := .slice a' r.length c')) (swap_ok hs HPO.out HYO.out))
          ((hb4.setCell (p := ⟨w.heap.size + 1 + 1, 0, none⟩) (by show w.heap.size ≤ w.heap.size + 1 + 1; omega) (.int .u64 f)).setCell (p := ⟨w.heap.size + 1 + 1, 1, none⟩) (by show w.heap.size ≤ w.heap.size + 1 + 1; omega) (.slice a' r.length c'))))
        have HRL := Lib.hid hRr
        clear hs hb3 hap c0 c1 x0 x1 p0 p1 hps hg4 ho ho3 hne hb4 hlt4 h1 h2 h3 h4 g4 hRr
        go_wp2
        refine bodyPost_ret (results_cell_row rfl _ _ (w.heap.size + 1 + 1) 25 _ (0, 0) _ rfl HX.out.1 Try.underlying25 rfl (by kernel_rfl)) rfl ?_
        rw [HRL.out]
        exact ⟨_, _, rfl, HX.out.2⟩
    · obtain rfl : t = L := by omega
      have hRr : R = row := by
        rw [← HR0.out]
        have := HN.out
        rw [take_all HL.out] at this
        rw [this]; rfl
      have c0 := g2.c0
      have c1 := g2.c1
      have r0 := g4.c0
      have r1 := g4.c1
      have rf := g4.fz
      have HX := Lib.hid (show Box25 ((wr.setCell ⟨w.heap.size + 1 + 1, 0, none⟩ (.int .u64 f)).setCell ⟨w.heap.size + 1 + 1, 1, none⟩ (.slice a E c)) (w.heap.size + 1 + 1) f (.slice a E c) ∧ PsAt ((wr.setCell ⟨w.heap.size + 1 + 1, 0, none⟩ (.int .u64 f)).setCell ⟨w.heap.size + 1 + 1, 1, none⟩ (.slice a E c)) (.slice a E c) row ∧ Below w.heap.size w ((wr.setCell ⟨w.heap.size + 1 + 1, 0, none⟩ (.int .u64 f)).setCell ⟨w.heap.size + 1 + 1, 1, none⟩ (.slice a E c)) from by
        have hb := (HBW.out.setCell (p := ⟨w.heap.size + 1 + 1, 0, none⟩) (by show w.heap.size ≤ w.heap.size + 1 + 1; omega) (.int .u64 f)).setCell (p := ⟨w.heap.size + 1 + 1, 1, none⟩) (by show w.heap.size ≤ w.heap.size + 1 + 1; omega) (.slice a E c)
        exact ⟨g4.put f _, HP.out.below hb, hb⟩)
      have HRL := Lib.hid (And.intro hRr HE.out)
      clear g2 g3 g4 h1 h2 h3 h4 hRr
      go_wp2
      refine bodyPost_ret (results_cell_row rfl _ _ (w.heap.size + 1 + 1) 25 _ (0, 0) _ rfl HX.out.1 Try.underlying25 rfl (by kernel_rfl)) rfl ?_
      rw [HRL.out.1, HRL.out.2]
      exact ⟨_, _, rfl, HX.out.2⟩
/-- a row without those that are bad, as long as more than w are left: how many are left, and those that stay -/
def leaveSt (p : PL → Bool) (w : Int) (n : Int) (l : List PL) : Int × List PL := l.foldl (fun st x => if (decide (w < st.1) && p x) = true then (st.1 - 1, st.2) else (st.1, st.2 ++ [x])) (n, [])
theorem leaveSt_snoc (p : PL → Bool) (w n : Int) (l : List PL) (x : PL) : leaveSt p w n (l ++ [x]) = if (decide (w < (leaveSt p w n l).1) && p x) = true then ((leaveSt p w n l).1 - 1, (leaveSt p w n l).2) else ((leaveSt p w n l).1, (leaveSt p w n l).2 ++ [x]) := by
  unfold leaveSt
  rw [List.foldl_append]
  rfl
def leaveL (p : PL → Bool) (w : Int) (l : List PL) : List PL := (leaveSt p w l.length l).2
theorem leaveSt_take {p : PL → Bool} {w n : Int} {l : List PL} {k : Nat} {x : PL} (hx : l[k]? = some x) : leaveSt p w n (l.take (k + 1)) = if (decide (w < (leaveSt p w n (l.take k)).1) && p x) = true then ((leaveSt p w n (l.take k)).1 - 1, (leaveSt p w n (l.take k)).2) else ((leaveSt p w n (l.take k)).1, (leaveSt p w n (l.take k)).2 ++ [x]) := by
  rw [take_snoc hx, leaveSt_snoc]
theorem leaveSt_facts (p : PL → Bool) (w n : Int) (l : List PL) : ∀ k, k ≤ l.length → (leaveSt p w n (l.take k)).2.length ≤ k ∧ (∀ q ∈ (leaveSt p w n (l.take k)).2, q ∈ l) ∧ n - k ≤ (leaveSt p w n (l.take k)).1 ∧ (leaveSt p w n (l.take k)).1 ≤ n := by
  intro k
  induction k with
  | zero => intro _; exact ⟨by simp [leaveSt], fun q hq => by simp [leaveSt] at hq, by simp [leaveSt], by simp [leaveSt]⟩
  | succ k ih =>
    intro hk
    obtain ⟨h1, h2, h3, h4⟩ := ih (by omega)
    have hx := List.getElem?_eq_getElem (show k < l.length by omega)
    rw [leaveSt_take hx]
    split
    · exact ⟨by show (leaveSt p w n (List.take k l)).2.length ≤ k + 1; omega, h2, by simp only; omega, by simp only; omega⟩
    · refine ⟨by simp only [List.length_append, List.length_cons, List.length_nil]; omega, fun q hq => ?_, by simp only; omega, by simp only; omega⟩
      simp only at hq
      rcases List.mem_append.1 hq with h | h
      · exact h2 q h
      · rw [List.mem_singleton] at h; rw [h]; exact List.mem_of_getElem? hx
theorem leaveL_mem {p : PL → Bool} {w : Int} {l : List PL} : ∀ q ∈ leaveL p w l, q ∈ l := by
  have := (leaveSt_facts p w l.length l l.length (Nat.le_refl _)).2.1
  rw [List.take_length] at this
  exact this
theorem leaveL_len (p : PL → Bool) (w : Int) (l : List PL) : (leaveL p w l).length ≤ l.length := by
  have := (leaveSt_facts p w l.length l l.length (Nat.le_refl _)).1
  rw [List.take_length] at this
  exact this
set_option maxRecDepth 100000 in
set_option maxHeartbeats 2000000 in
theorem leave_any (v : Value) (l : List PL) (n : Int) (f : Nat) (c : Value) (p : PL → Bool) (w : World) (hp : PsAt w v l) (hl : l.length ≤ 100000) (ha : AsksAt w f c p) :
    Calls Try.prog 47 #[v, .int .i64 n, .func (.func f) #[] #[c]] w fun e w' => ∃ v', e = .returned v' ∧ OwnPs w.heap.size w' v' (leaveL p n l) ∧ Below w.heap.size w w' := by
  have HP := Lib.hid hp
  have HA := Lib.hid ha
  have hen := ha.enters
  have HOK := Lib.hid hp.ok
  obtain ⟨a, cap, rfl, hlen, -, -⟩ := hp.form
  obtain ⟨L, hL⟩ : ∃ L, l.length = L := ⟨_, rfl⟩
  rw [hL] at hlen HP hl ⊢
  have HL := Lib.hid hL
  clear hL hp ha
  go_enter Try.func47, Try.ntmps47
  go_wp2
  go_loopw [7, 8, 15] (fun s d i wr => ∃ (t : Nat) (D : Int), t ≤ L ∧ i = .int .i64 (t : Nat) ∧ d = .int .i64 D ∧ (L : Int) - t ≤ D ∧ D ≤ L ∧ Hid (D = (leaveSt p n L (l.take t)).1 ∧ OwnPs w.heap.size wr s (leaveSt p n L (l.take t)).2) ∧ Hid (Below w.heap.size w wr)) (fun _ _ i _ => L - (intOf i).toNat)
  case atStart => exact ⟨0, L, Nat.zero_le _, rfl, rfl, by omega, by omega, ⟨rfl, World.ownsRow_nil _ _ _ _⟩, Below.refl _ _⟩
  case round =>
    obtain ⟨t, D, ht, rfl, rfl, hD1, hD2, HS, HB⟩ := hrel
    by_cases hlt : t < L
    · have hltz : (t : Int) < (L : Int) := by omega
      obtain ⟨x, hx⟩ : ∃ x, l[t]? = some x := ⟨_, List.getElem?_eq_getElem (by rw [HL.out]; exact hlt)⟩
      have hPK := HP.out.below HB.out
      obtain ⟨b, off, rfl, _, hc⟩ := PsAt.cell hPK hx
      obtain ⟨c0, c1⟩ := hc wr (Below.refl _ _)
      have HXO := Lib.hid (hPK.ok x (List.mem_of_getElem? hx))
      have hst := leaveSt_take (p := p) (w := n) (n := L) hx
      have hfacts := leaveSt_facts p n L l t (by rw [HL.out]; exact ht)
      have hfacts2 := leaveSt_facts p n L l (t + 1) (by rw [HL.out]; omega)
      rw [← HS.out.1] at hst
      obtain ⟨R, hR⟩ : ∃ R, (leaveSt p n L (l.take t)).2 = R := ⟨_, rfl⟩
      obtain ⟨r3, r4⟩ := HS.out
      rw [hR] at r4 hst hfacts
      have hroks : ∀ q ∈ R, q.ok := fun q hq => HOK.out q (hfacts.2.1 q hq)
      have hle : R.length ≤ t := hfacts.1
      obtain ⟨X, hX⟩ : ∃ X, X = wr.alloc (.cells #[.int .i64 x.n, .int .u64 x.s] 38) := ⟨_, rfl⟩
      have hBr : Below wr.heap.size wr X := by rw [hX]; exact Go.Joins.below_alloc1 wr _
      have hBX : Below w.heap.size w X := HB.out.trans (hBr.mono HB.out.size)
      have hgX : wr.heap.size < X.heap.size := by rw [hX, World.size_alloc]; omega
      have x0 : X.cell? ⟨wr.heap.size, 0, none⟩ = some (.int .i64 x.n) := by rw [hX, World.cell?_alloc_new]; rfl
      have x1 : X.cell? ⟨wr.heap.size, 1, none⟩ = some (.int .u64 x.s) := by rw [hX, World.cell?_alloc_new]; rfl
      have hoX : OwnPs w.heap.size X u7 R := r4.kept hBr (Nat.le_refl _)
      obtain ⟨ra, rc, rfl⟩ := OwnPs.form hoX hroks
      have HCT := Lib.hid (HA.out.calls X hBX x HXO.out)
      have HW1 := Lib.hid (show ∀ w1, Below X.heap.size X w1 → (w1.cell? ⟨wr.heap.size, 0, none⟩ = some (.int .i64 x.n) ∧ w1.cell? ⟨wr.heap.size, 1, none⟩ = some (.int .u64 x.s)) ∧ OwnPs w.heap.size w1 (.slice ra R.length rc) R ∧ Below w.heap.size w w1 from fun w1 h1 =>
        ⟨⟨(h1.cell (p := ⟨wr.heap.size, 0, none⟩) hgX).trans x0, (h1.cell (p := ⟨wr.heap.size, 1, none⟩) hgX).trans x1⟩, hoX.kept h1 (Nat.le_refl _), hBX.trans (h1.mono hBX.size)⟩)
      have HLE := Lib.hid hle
      have HST := Lib.hid hst
      have HOKS := Lib.hid (show ∀ q ∈ R ++ [x], q.ok from fun q hq => by
        rcases List.mem_append.1 hq with h | h
        · exact hroks q h
        · rw [List.mem_singleton] at h; rw [h]; exact HXO.out)
      have hw1 : wrap64 (D - 1) = D - 1 := by unfold wrap64; omega
      clear hPK hc hx hst hfacts hfacts2 hR r3 r4 hroks hle hBr hBX hgX hoX x0 x1 HS
      by_cases hnD : n < D
      · have hd : decide (n < D) = true := decide_eq_true hnD
        rw [hd] at HST
        cases hpx : p x
        · rw [hpx] at HCT HST
          rw [if_neg (by simp)] at HST
          have HST2 := Lib.hid HST.out
          subst hX
          clear hnD hpx
          go_wp2_with fail
          refine HCT.out.mono ?_
          rintro e w1 ⟨rfl, hb1⟩
          obtain ⟨⟨x0, x1⟩, ho1, hB1⟩ := HW1.out w1 hb1
          have HA2 : Hid (OwnPs w.heap.size (w1.alloc (.cells #[.int .i64 x.n, .int .u64 x.s] 38)) (.slice ra R.length rc) R ∧ PsAt (w1.alloc (.cells #[.int .i64 x.n, .int .u64 x.s] 38)) (.slice (some ⟨w1.heap.size, 0, none⟩) 1 1) [x] ∧ Below w.heap.size w (w1.alloc (.cells #[.int .i64 x.n, .int .u64 x.s] 38))) :=
            ⟨ho1.kept (Go.Joins.below_alloc1 w1 _) (Nat.le_refl _), ps_one w1 x HXO.out, hB1.alloc hB1.size _⟩
          clear hb1 ho1 hB1 HCT
          go_wp2_with (at_builtin; refine wpList_append_rows rfl _ _ 23 38 2 16 _ PL.cells rfl Try.underlying23 info38 rfl (by decide) (by decide) (fun _ => rfl) w.heap.size _ _ R [x] rfl rfl HA2.out.1 HA2.out.2.1 (ps_oneCell _) (by have := HLE.out; simp only [List.length_cons, List.length_nil]; omega) HA2.out.2.2.size ?_; intro v2 w2 ho2 hg2; have H2 : Hid (OwnPs w.heap.size w2 v2 (R ++ [x]) ∧ Below w.heap.size w w2) := ⟨ho2, HA2.out.2.2.grown hg2 HA2.out.2.2.size (fun j hj => (HA2.out.1.own j hj))⟩; clear ho2 hg2)
          go_roundw
          case rel => exact ⟨t + 1, D, by omega, by go_num, rfl, by omega, hD2, (by rw [HST2.out]; exact ⟨rfl, H2.out.1⟩), H2.out.2⟩
          case measure => simp [intOf]; omega
        · rw [hpx] at HCT HST
          rw [if_pos (show (true && true) = true from rfl)] at HST
          have HST2 := Lib.hid HST.out
          subst hX
          clear hpx
          go_wp2_with fail
          refine HCT.out.mono ?_
          rintro e w1 ⟨rfl, hb1⟩
          have H1 := Lib.hid (HW1.out w1 hb1).2
          clear hb1
          go_wp2
          go_roundw
          case rel => exact ⟨t + 1, D - 1, by omega, by go_num, rfl, by omega, by omega, (by rw [HST2.out]; exact ⟨rfl, H1.out.1⟩), H1.out.2⟩
          case measure => simp [intOf]; omega
      · have hd : decide (n < D) = false := decide_eq_false hnD
        rw [hd] at HST
        rw [if_neg (by simp)] at HST
        have HST2 := Lib.hid HST.out
        obtain ⟨⟨x0, x1⟩, ho1, hB1⟩ := HW1.out X (Below.refl _ _)
        have HA2 : Hid (OwnPs w.heap.size (X.alloc (.cells #[.int .i64 x.n, .int .u64 x.s] 38)) (.slice ra R.length rc) R ∧ PsAt (X.alloc (.cells #[.int .i64 x.n, .int .u64 x.s] 38)) (.slice (some ⟨X.heap.size, 0, none⟩) 1 1) [x] ∧ Below w.heap.size w (X.alloc (.cells #[.int .i64 x.n, .int .u64 x.s] 38))) :=
          ⟨ho1.kept (Go.Joins.below_alloc1 X _) (Nat.le_refl _), ps_one X x HXO.out, hB1.alloc hB1.size _⟩
        have hXs : X.heap.size = wr.heap.size + 1 := by rw [hX, World.size_alloc]
        rw [hXs] at HA2
        subst hX
        clear hnD ho1 hB1 HCT hXs
        go_wp2_with (at_builtin; refine wpList_append_rows rfl _ _ 23 38 2 16 _ PL.cells rfl Try.underlying23 info38 rfl (by decide) (by decide) (fun _ => rfl) w.heap.size _ _ R [x] rfl rfl HA2.out.1 HA2.out.2.1 (ps_oneCell _) (by have := HLE.out; simp only [List.length_cons, List.length_nil]; omega) HA2.out.2.2.size ?_; intro v2 w2 ho2 hg2; have H2 : Hid (OwnPs w.heap.size w2 v2 (R ++ [x]) ∧ Below w.heap.size w w2) := ⟨ho2, HA2.out.2.2.grown hg2 HA2.out.2.2.size (fun j hj => (HA2.out.1.own j hj))⟩; clear ho2 hg2)
        go_roundw
        case rel => exact ⟨t + 1, D, by omega, by go_num, rfl, by omega, hD2, (by rw [HST2.out]; exact ⟨rfl, H2.out.1⟩), H2.out.2⟩
        case measure => simp [intOf]; omega
    · obtain rfl : t = L := by omega
      have H := Lib.hid (show OwnPs w.heap.size wr u7 (leaveL p n l) ∧ Below w.heap.size w wr from by
        have := HS.out.2
        rw [take_all HL.out] at this
        unfold leaveL
        rw [HL.out]
        exact ⟨this, HB.out⟩)
      clear HS
      go_wp2
      go_ret
      exact ⟨_, rfl, H.out⟩
end Go.Proofs.Ytnfjhpdpeihheaa
