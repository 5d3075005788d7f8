/- The highest of ballots; Next, and the document's Next. -/
import Derived.Test.YtomoomeocolkmaaSmallD
namespace Go.Proofs.Ytomoomeocolkmaa
open Go.RowKit
/-- the first one that none is behind -/
def topOf {α : Type} (cmp : α → α → Int) (z : α) : List α → α
  | [] => z
  | a :: t => t.foldl (fun b x => if 0 < cmp x b then x else b) a
theorem topOf_succ {α : Type} (cmp : α → α → Int) (z : α) (l : List α) (k : Nat) (x : α) (h : l[k]? = some x) :
    topOf cmp z (l.take (k + 1)) = if k = 0 ∨ 0 < cmp x (topOf cmp z (l.take k)) then x else topOf cmp z (l.take k) := by
  obtain ⟨hk, he⟩ := List.getElem?_eq_some_iff.1 h
  rw [List.take_succ_eq_append_getElem hk, he]
  cases k with
  | zero => simp [topOf]
  | succ k =>
    match l, hk with
    | a :: t, _ =>
      simp only [List.take_succ_cons, List.cons_append, topOf, List.foldl_append, List.foldl_cons, List.foldl_nil]
      simp
abbrev top (l : List BV) : BV := topOf BV.cmp BV.zero l
set_option maxRecDepth 100000 in
set_option maxHeartbeats 1000000 in
theorem highest_any (v : Value) (l : List BV) (w : World) (hp : BsAt w v l) :
    Calls Try.prog 33 #[.func (.func 16) #[] #[], v] w fun e w' => e = .returned (.tuple #[(top l).val, .bool (decide (0 < l.length))]) ∧ Below w.heap.size w w' := by
  have HP := Lib.hid hp
  obtain ⟨a, cap, rfl, hlen, hlc, hn, hcells⟩ := hp
  obtain ⟨W, hW⟩ : ∃ W, W = (w.alloc (.cells #[.int .u64 0, .int .i64 0, .int .u64 0] 24)).alloc (.cells #[.int .u64 0, .int .i64 0, .int .u64 0] 24) := ⟨_, rfl⟩
  have HW : Hid (Below w.heap.size w W ∧ Box3 W w.heap.size BV.zero ∧ Box3 W (w.heap.size + 1) BV.zero) := by
    rw [hW]
    exact ⟨Go.Joins.below_alloc2 w _ _, (Box3.new w BV.zero).below (Go.Joins.below_alloc1 _ _) (by simp [World.size_alloc]), by have := Box3.new (w.alloc (.cells #[.int .u64 0, .int .i64 0, .int .u64 0] 24)) BV.zero; rwa [World.size_alloc] at this⟩
  clear hcells hn hlc
  generalize hL : l.length = L at hlen ⊢
  have HL := Lib.hid hL
  clear hL
  obtain ⟨R, hR⟩ : ∃ R, top l = R := ⟨_, rfl⟩
  rw [hR]
  have HT := Lib.hid hR
  clear hR
  go_enter Try.func33, Try.ntmps33
  go_wp2
  rw [← hW]
  clear hW
  go_loopw [11] (fun i wr => ∃ k : Nat, k ≤ L ∧ i = .int .i64 (k : Nat) ∧ Hid (Below w.heap.size w wr ∧ Box3 wr w.heap.size BV.zero ∧ Box3 wr (w.heap.size + 1) (top (l.take k)))) (fun i _ => L - (intOf i).toNat)
  case atStart => exact ⟨0, Nat.zero_le _, rfl, HW.out⟩
  case round =>
    obtain ⟨k, hk, rfl, HR⟩ := hrel
    by_cases hlt : k < L
    · have hltz : (k : Int) < (L : Int) := by omega
      obtain ⟨a', cap', hv, _, _, _, hc⟩ := HP.out.below HR.out.1
      cases hv
      rw [HL.out] at hc
      obtain ⟨b, off, rfl, hb, hc⟩ := hc (by omega)
      obtain ⟨x, hx⟩ : ∃ x, l[k]? = some x := ⟨_, List.getElem?_eq_getElem (by rw [HL.out]; exact hlt)⟩
      obtain ⟨_, hr⟩ := hc k x hx
      have c0 : wr.cell? ⟨b, off + k * 3, none⟩ = some (.int .u64 x.r) := hr 0 (by omega)
      have c1 : wr.cell? ⟨b, off + k * 3 + 1, none⟩ = some (.int .i64 x.n) := hr 1 (by omega)
      have c2 : wr.cell? ⟨b, off + k * 3 + 2, none⟩ = some (.int .u64 x.i) := hr 2 (by omega)
      have HS := Lib.hid (topOf_succ BV.cmp BV.zero l k x hx)
      generalize hq : top (l.take k) = q at HR
      have HS : Hid (top (l.take (k + 1)) = if k = 0 ∨ 0 < x.cmp q then x else q) := by rw [← hq]; exact HS.out
      clear hc hr hx hq
      obtain ⟨W2, hW2⟩ : ∃ W2, W2 = wr.alloc (.cells #[.int .u64 x.r, .int .i64 x.n, .int .u64 x.i] 24) := ⟨_, rfl⟩
      have HK : Hid (∀ w3, Below W2.heap.size W2 w3 → Box3 w3 wr.heap.size x ∧ Box3 w3 (w.heap.size + 1) q ∧ Box3 w3 w.heap.size BV.zero ∧ Below w.heap.size w w3) := fun w3 hb3 => by
        obtain ⟨h1, h2, h3⟩ := HR.out
        have hs : W2.heap.size = wr.heap.size + 1 := by rw [hW2, World.size_alloc]
        have hb2 : Below wr.heap.size wr w3 := (by rw [hW2]; exact Go.Joins.below_alloc1 wr _ : Below wr.heap.size wr W2).trans (hb3.mono (by omega))
        have := h2.lt
        have := h3.lt
        exact ⟨(show Box3 W2 wr.heap.size x by rw [hW2]; exact Box3.new wr x).below hb3 (by omega), h3.below hb2 (by omega), h2.below hb2 (by omega), h1.trans (hb2.mono (by omega))⟩
      have HB := Lib.hid hb
      clear hb
      by_cases hk0 : k = 0
      · have hk0b : ((k : Int) == 0) = true := by simp [hk0]
        have HS : Hid (top (l.take (k + 1)) = x) := by rw [HS.out, if_pos (.inl hk0)]; exact rfl
        obtain ⟨h1, h2, h3⟩ := HR.out
        have hlt3 := h3.lt
        have hA : ∀ o, Box3 (wr.alloc o) (w.heap.size + 1) q := fun o => h3.below (Go.Joins.below_alloc1 wr o) h3.lt
        have zc0 := fun o => (hA o).c0
        have zc1 := fun o => (hA o).c1
        have zc2 := fun o => (hA o).c2
        have zf := fun o => (hA o).fz
        have HX := Lib.hid (show ∀ o, Below w.heap.size w (put3 (wr.alloc o) (w.heap.size + 1) x) ∧ Box3 (put3 (wr.alloc o) (w.heap.size + 1) x) w.heap.size BV.zero ∧ Box3 (put3 (wr.alloc o) (w.heap.size + 1) x) (w.heap.size + 1) x from fun o => by
          have hw := h1.alloc h1.size o
          have h2 := h2.below (Go.Joins.below_alloc1 wr o) h2.lt
          have hlt := (hA o).lt
          exact ⟨hw.trans ((put3_chg _ (w.heap.size + 1) x).below (B := w.heap.size) hw.size (fun k hk => by omega)), h2.below (B := w.heap.size + 1) ((put3_chg _ (w.heap.size + 1) x).below (by omega) (fun k hk => by omega)) (by omega), (hA o).put x⟩)
        clear h1 h2 h3 hA hlt3 HK hk0 hW2
        go_wp2_with fail
        go_roundw
        case rel => exact ⟨k + 1, by omega, by go_num, by have h := HX.out (.cells #[.int .u64 x.r, .int .i64 x.n, .int .u64 x.i] 24); rw [HS.out]; exact h⟩
        case measure => simp [intOf]; omega
      · have hk0b : ((k : Int) == 0) = false := by simp [hk0]
        have hA : ∀ o, Box3 (wr.alloc o) (w.heap.size + 1) q := fun o => HR.out.2.2.below (Go.Joins.below_alloc1 wr o) HR.out.2.2.lt
        have zc0 := fun o => (hA o).c0
        have zc1 := fun o => (hA o).c1
        have zc2 := fun o => (hA o).c2
        have HC := Lib.hid (fun W => cmp_any x q W)
        have HE := Lib.hid (show ∀ w3, Below W2.heap.size W2 w3 → (Below w.heap.size w w3 ∧ Box3 w3 w.heap.size BV.zero ∧ Box3 w3 (w.heap.size + 1) q) ∧ (Below w.heap.size w (put3 w3 (w.heap.size + 1) x) ∧ Box3 (put3 w3 (w.heap.size + 1) x) w.heap.size BV.zero ∧ Box3 (put3 w3 (w.heap.size + 1) x) (w.heap.size + 1) x) from fun w3 hb => by
          obtain ⟨y1, y2, y3, y4⟩ := HK.out w3 hb
          have hlt := y2.lt
          exact ⟨⟨y4, y3, y2⟩, y4.trans ((put3_chg _ (w.heap.size + 1) x).below (B := w.heap.size) y4.size (fun k hk => by omega)), y3.below (B := w.heap.size + 1) ((put3_chg _ (w.heap.size + 1) x).below (by omega) (fun k hk => by omega)) (by omega), y2.put x⟩)
        generalize x.cmp q = C at HC HS
        by_cases hC : 0 < C
        · have HS : Hid (top (l.take (k + 1)) = x) := by rw [HS.out, if_pos (.inr hC)]; exact rfl
          have hCd : decide (0 < C) = true := by simp [hC]
          clear hC hA hk0
          subst hW2
          go_wp2_with (go_at_call 16; refine (HC.out _).mono ?_; rintro e w3 ⟨rfl, hb3⟩; obtain ⟨y1, y2, _, _⟩ := HK.out w3 hb3; have x0 := y1.c0; have x1 := y1.c1; have x2 := y1.c2; have v0 := y2.c0; have v1 := y2.c1; have v2 := y2.c2; have vf := y2.fz; have HX := Lib.hid (HE.out w3 hb3).2; clear y1 y2 hb3)
          go_roundw
          case rel => exact ⟨k + 1, by omega, by go_num, by rw [HS.out]; exact HX.out⟩
          case measure => simp [intOf]; omega
        · have HS : Hid (top (l.take (k + 1)) = q) := by rw [HS.out, if_neg (by omega)]; exact rfl
          have hCd : decide (0 < C) = false := by simp [hC]
          clear hC hA hk0
          subst hW2
          go_wp2_with (go_at_call 16; refine (HC.out _).mono ?_; rintro e w3 ⟨rfl, hb3⟩; have HX := Lib.hid (HE.out w3 hb3).1; clear hb3)
          go_roundw
          case rel => exact ⟨k + 1, by omega, by go_num, by rw [HS.out]; exact HX.out⟩
          case measure => simp [intOf]; omega
    · obtain rfl : k = L := by omega
      obtain ⟨h1, h2, h3⟩ := HR.out
      rw [List.take_of_length_le (by rw [HL.out]; exact Nat.le_refl _), HT.out] at h3
      have z0 := h3.c0
      have z1 := h3.c1
      have z2 := h3.c2
      have v0 := h2.c0
      have v1 := h2.c1
      have v2 := h2.c2
      have vf := h2.fz
      have hlz : decide (0 < (k : Int)) = decide (0 < k) := by simp
      have HX := Lib.hid (And.intro h1 h2)
      clear h1 h2 h3 hlt
      go_wp2
      exact ends_bal (q := R) (z := BV.zero) (w3 := wr) rfl rfl rfl HX.out.2 HX.out.1
theorem top_ok {l : List BV} (h : ∀ q ∈ l, q.ok) : (top l).ok := by
  cases l with
  | nil => exact ⟨⟨by decide, by decide⟩, ⟨by decide, by decide⟩, ⟨by decide, by decide⟩⟩
  | cons a t =>
    show (t.foldl _ a).ok
    have ha := h a (by simp)
    have ht : ∀ q ∈ t, q.ok := fun q hq => h q (by simp [hq])
    clear h
    induction t generalizing a with
    | nil => exact ha
    | cons b t ih =>
      simp only [List.foldl_cons]
      refine ih _ ?_ fun q hq => ht q (by simp [hq])
      split
      · exact ht b (by simp)
      · exact ha
/-- the next ballot of a life -/
def next (n i : Int) (l : List BV) : BV × Int :=
  if life n i then (if (top l).r < 4611686018427387903 then (⟨(top l).r + 1, n, i⟩, 0) else (BV.zero, 3)) else (BV.zero, 1)
theorem BsAt.ok {w : World} {v : Value} {l : List BV} (h : BsAt w v l) : ∀ q ∈ l, q.ok := by
  intro q hq
  obtain ⟨j, hj⟩ := List.getElem?_of_mem hq
  obtain ⟨a, cap, _, _, _, _, h⟩ := h
  obtain ⟨b, off, _, _, h⟩ := h (by cases l with | nil => cases hq | cons => simp)
  exact (h j q hj).1
set_option maxRecDepth 100000 in
set_option maxHeartbeats 1000000 in
theorem next_any (n i : Int) (v : Value) (l : List BV) (w : World) (hp : BsAt w v l) :
    Calls Try.prog 18 #[.int .i64 n, .int .u64 i, v] w fun e w' => e = .returned (.tuple #[(next n i l).1.val, .int .i64 (next n i l).2]) ∧ Below w.heap.size w w' := by
  have HH : Hid (∀ W, Below w.heap.size w W → Calls Try.prog 33 #[.func (.func 16) #[] #[], v] W fun e w' => e = .returned (.tuple #[(top l).val, .bool (decide (0 < l.length))]) ∧ Below W.heap.size W w') := fun W hb => highest_any v l W (hp.below hb)
  have HOK := Lib.hid (top_ok hp.ok)
  have HM := Lib.hid (fun W => may_any ⟨1, n, i⟩ W)
  have hmay : (BV.mk 1 n i).may = life n i := by simp [BV.may, count]
  obtain ⟨N, hN⟩ : ∃ N, next n i l = N := ⟨_, rfl⟩
  rw [hN]
  have HN : Hid (next n i l = N) := hN
  obtain ⟨W, hW⟩ : ∃ W, W = (w.alloc (.cells #[.int .u64 0, .int .i64 0, .int .u64 0] 24)).alloc (.cells #[.int .u64 1, .int .i64 n, .int .u64 i] 24) := ⟨_, rfl⟩
  have HW : Hid (Below w.heap.size w W ∧ Box3 W w.heap.size BV.zero ∧ Box3 W (w.heap.size + 1) ⟨1, n, i⟩) := by
    rw [hW]
    exact ⟨Go.Joins.below_alloc2 w _ _, (Box3.new w BV.zero).below (Go.Joins.below_alloc1 _ _) (by simp [World.size_alloc]), by have := Box3.new (w.alloc (.cells #[.int .u64 0, .int .i64 0, .int .u64 0] 24)) ⟨1, n, i⟩; rwa [World.size_alloc] at this⟩
  have HK : Hid (∀ w3, Below W.heap.size W w3 → Below w.heap.size w w3 ∧ Box3 w3 w.heap.size BV.zero ∧ Box3 w3 (w.heap.size + 1) ⟨1, n, i⟩) := fun w3 hb => ⟨HW.out.1.trans (hb.mono HW.out.1.size), HW.out.2.1.below hb HW.out.2.1.lt, HW.out.2.2.below hb HW.out.2.2.lt⟩
  clear hN hp
  cases hl : life n i
  · have HN : Hid (N = (BV.zero, 1)) := by rw [← HN.out, next, hl]; exact rfl
    have HM : Hid (∀ W, Calls Try.prog 14 #[.agg #[.int .u64 1, .int .i64 n, .int .u64 i]] W fun e w' => e = .returned (.bool false) ∧ Below W.heap.size W w') := by rw [← hl, ← hmay]; exact HM.out
    clear hl hmay HOK HH
    go_enter Try.func18, Try.ntmps18
    go_wp2_with fail
    rw [← hW]
    clear hW
    refine (HM.out _).mono ?_
    rintro e w3 ⟨rfl, hb3⟩
    obtain ⟨h1, h2, h3⟩ := HK.out w3 hb3
    have z0 := h2.c0
    have z1 := h2.c1
    have z2 := h2.c2
    have zf := h2.fz
    have HX := Lib.hid (And.intro h1 h2)
    clear h1 h2 h3 hb3
    go_wp2
    rw [HN.out]
    exact ends_bal (q := BV.zero) (z := BV.zero) (w3 := w3) rfl rfl rfl HX.out.2 HX.out.1
  · have HM : Hid (∀ W, Calls Try.prog 14 #[.agg #[.int .u64 1, .int .i64 n, .int .u64 i]] W fun e w' => e = .returned (.bool true) ∧ Below W.heap.size W w') := by rw [← hl, ← hmay]; exact HM.out
    have HN2 : Hid (N = if (top l).r < 4611686018427387903 then (⟨(top l).r + 1, n, i⟩, 0) else (BV.zero, 3)) := by rw [← HN.out, next, hl]; exact rfl
    generalize (top l) = t at HH HOK HN2
    clear hl hmay HN
    go_enter Try.func18, Try.ntmps18
    go_wp2_with fail
    rw [← hW]
    clear hW
    refine (HM.out _).mono ?_
    rintro e w3 ⟨rfl, hb3⟩
    have hk3 := HK.out w3 hb3
    have HB3 := Lib.hid hb3
    clear hb3
    go_wp2_with fail
    refine (HH.out w3 hk3.1).mono ?_
    rintro e w4 ⟨rfl, hb4⟩
    have hb4' := hb4.mono HB3.out.size
    obtain ⟨h1, h2, h3⟩ := HK.out w4 (HB3.out.trans hb4')
    have hA : ∀ o, Box3 (w4.alloc o) w.heap.size BV.zero ∧ Box3 (w4.alloc o) (w.heap.size + 1) ⟨1, n, i⟩ := fun o => ⟨h2.below (Go.Joins.below_alloc1 w4 o) h2.lt, h3.below (Go.Joins.below_alloc1 w4 o) h3.lt⟩
    have HA := Lib.hid (show ∀ o, Box3 (w4.alloc o) w.heap.size BV.zero ∧ Below w.heap.size w (w4.alloc o) from fun o => ⟨(hA o).1, h1.alloc h1.size o⟩)
    have z0 := fun o => (hA o).1.c0
    have z1 := fun o => (hA o).1.c1
    have z2 := fun o => (hA o).1.c2
    have zf := fun o => (hA o).1.fz
    have y0 := fun o => (hA o).2.c0
    have y1 := fun o => (hA o).2.c1
    have y2 := fun o => (hA o).2.c2
    have yf := fun o => (hA o).2.fz
    clear h1 h2 h3 hA hb4 hb4' hk3
    by_cases ht : t.r < 4611686018427387903
    · have hd : decide (4611686018427387903 ≤ t.r) = false := by simp; omega
      have hw : (1 + t.r) % 18446744073709551616 = 1 + t.r := by have := HOK.out.1; omega
      have HN3 := Lib.hid (show N = (⟨1 + t.r, n, i⟩, 0) by rw [HN2.out, if_pos ht, Int.add_comm])
      clear ht
      go_wp2
      rw [HN3.out]
      refine ends_bal (q := ⟨1 + t.r, n, i⟩) (z := BV.zero) (w3 := (w4.alloc (.cells #[.int .u64 t.r, .int .i64 t.n, .int .u64 t.i] 24)).setCell ⟨w.heap.size + 1, 0, none⟩ (.int .u64 (1 + t.r))) rfl rfl rfl ?_ ?_
      · have h := (HA.out (.cells #[.int .u64 t.r, .int .i64 t.n, .int .u64 t.i] 24)).1
        unfold Box3 at h ⊢
        rw [← h]
        exact Below.heap_setCell _ _ _ _ (by simp)
      · have h := (HA.out (.cells #[.int .u64 t.r, .int .i64 t.n, .int .u64 t.i] 24)).2
        exact h.trans (((Chg.refl (fun k => k = w.heap.size + 1) _).setCell (p := ⟨w.heap.size + 1, 0, none⟩) (.inl rfl) _).below h.size (fun k hk => by omega))
    · have hd : decide (4611686018427387903 ≤ t.r) = true := by simp; omega
      have HN3 := Lib.hid (show N = (BV.zero, 3) by rw [HN2.out, if_neg ht])
      clear ht
      go_wp2
      rw [HN3.out]
      exact ends_bal (q := BV.zero) (z := BV.zero) (w3 := w4.alloc (.cells #[.int .u64 t.r, .int .i64 t.n, .int .u64 t.i] 24)) rfl rfl rfl (HA.out _).1 (HA.out _).2
end Go.Proofs.Ytomoomeocolkmaa
