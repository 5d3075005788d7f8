/- slices.IndexFunc, slices.DeleteFunc of promises that have accepted nothing. -/
import Derived.Test.YtomoomeocolkmaaHighP
import Derived.Laws.IdiomCopy
namespace Go.Proofs.Ytomoomeocolkmaa
open Go.RowKit
/-- the cells vs over c from o on -/
def over (c : Array Value) (o : Nat) : List Value → Array Value
  | [] => c
  | v :: r => over (c.setIfInBounds o v) (o + 1) r
theorem over_size : ∀ (vs : List Value) (c : Array Value) (o : Nat), (over c o vs).size = c.size
  | [], _, _ => rfl
  | v :: r, c, o => by rw [over, over_size r]; simp
theorem over_get : ∀ (vs : List Value) (c : Array Value) (o j : Nat), o + vs.length ≤ c.size → (over c o vs)[j]? = if o ≤ j ∧ j < o + vs.length then vs[j - o]? else c[j]?
  | [], c, o, j, _ => by rw [over, if_neg (by simp)]
  | v :: r, c, o, j, h => by
    simp only [List.length_cons] at h
    rw [over, over_get r _ (o + 1) j (by simp; omega)]
    by_cases h1 : o + 1 ≤ j ∧ j < o + 1 + r.length
    · rw [if_pos h1, if_pos (by simp; omega), show j - o = j - (o + 1) + 1 by omega]
      rfl
    · rw [if_neg h1]
      by_cases h2 : j = o
      · subst h2
        rw [if_pos (by simp), Array.getElem?_setIfInBounds]
        simp
        omega
      · rw [if_neg (by simp; omega), Array.getElem?_setIfInBounds, if_neg (by omega)]
theorem block_setCells (g : Nat) (t : TypeId) (fr : Nat × Nat) : ∀ (vs : List Value) (o : Nat) (c : Array Value) (w : World), w.heap[g]? = some (.cells c t fr) → (w.setCells g o vs).heap[g]? = some (.cells (over c o vs) t fr)
  | [], _, _, _, h => h
  | v :: r, o, c, w, h => by
    rw [World.setCells, over]
    exact block_setCells g t fr r (o + 1) _ _ (Go.Joins.block_setCell h v)
theorem chg_setCells {S : Nat → Prop} (g : Nat) : ∀ (vs : List Value) (o : Nat) (a w : World), Chg S a w → S g → Chg S a (w.setCells g o vs)
  | [], _, _, _, h, _ => h
  | v :: r, o, a, w, h, hg => by
    rw [World.setCells]
    exact chg_setCells g r (o + 1) a _ (h.setCell (p := ⟨g, o, none⟩) (.inl hg) v) hg
theorem put8_cells (w : World) (g o : Nat) (q : PV) : put8 w g o q = w.setCells g o q.cells := rfl
/-- of the first j those that are kept lie ahead, those from j on where they lay -/
def KeptAt (w : World) (g cap : Nat) (l : List PV) (j : Nat) (F : List PV) : Prop :=
  ∃ cur, w.heap[g]? = some (.cells cur 47 (0, 0)) ∧ cur.size = cap * 8 ∧ (∀ (t : Nat) x, F[t]? = some x → ∀ r, r < 8 → cur[t * 8 + r]? = x.cells[r]?) ∧ ∀ (t : Nat) x, j ≤ t → l[t]? = some x → ∀ r, r < 8 → cur[t * 8 + r]? = x.cells[r]?
theorem KeptAt.chg {w w' : World} {g cap : Nat} {l : List PV} {j : Nat} {F : List PV} (h : KeptAt w g cap l j F) (hb : w'.heap[g]? = w.heap[g]?) : KeptAt w' g cap l j F := by
  obtain ⟨cur, hg, h⟩ := h
  exact ⟨cur, hb.trans hg, h⟩
theorem KeptAt.skip {w : World} {g cap : Nat} {l : List PV} {j : Nat} {F : List PV} (h : KeptAt w g cap l j F) : KeptAt w g cap l (j + 1) F := by
  obtain ⟨cur, hg, hs, h1, h2⟩ := h
  exact ⟨cur, hg, hs, h1, fun t x ht => h2 t x (by omega)⟩
theorem KeptAt.keep {w : World} {g cap : Nat} {l : List PV} {j : Nat} {F : List PV} (h : KeptAt w g cap l j F) (x : PV) (hj : F.length ≤ j) (hc : j < cap) : KeptAt (put8 w g (F.length * 8) x) g cap l (j + 1) (F ++ [x]) := by
  obtain ⟨cur, hg, hs, h1, h2⟩ := h
  have hx8 : x.cells.length = 8 := rfl
  have hfit : F.length * 8 + x.cells.length ≤ cur.size := by rw [hs]; omega
  refine ⟨over cur (F.length * 8) x.cells, by rw [put8_cells]; exact block_setCells g 47 (0, 0) _ _ _ _ hg, by rw [over_size, hs], fun t y ht r hr => ?_, fun t y ht hy r hr => ?_⟩
  · rw [over_get _ _ _ _ hfit]
    rcases Nat.lt_or_ge t F.length with h | h
    · rw [if_neg (by omega)]
      rw [List.getElem?_append_left h] at ht
      exact h1 t y ht r hr
    · have htl := (List.getElem?_eq_some_iff.1 ht).1
      simp only [List.length_append, List.length_cons, List.length_nil] at htl
      obtain rfl : t = F.length := by omega
      rw [List.getElem?_append_right (Nat.le_refl _), Nat.sub_self] at ht
      simp at ht
      subst ht
      rw [if_pos (by omega), show F.length * 8 + r - F.length * 8 = r by omega]
  · rw [over_get _ _ _ _ hfit]
    rw [if_neg (by omega)]
    exact h2 t y (by omega) hy r hr
theorem KeptAt.done {w : World} {g cap base : Nat} {l : List PV} {j : Nat} {F : List PV} (h : KeptAt w g cap l j F) (zs : List Value) (hF : F.length * 8 + zs.length ≤ cap * 8) (hcap : cap ≤ maxLen) (hb : base ≤ g) :
    OwnPs base (w.setCells g (F.length * 8) zs) (.slice (some ⟨g, 0, none⟩) F.length cap) F := by
  obtain ⟨cur, hg, hs, h1, _⟩ := h
  refine ⟨flat_len (k := 8) (enc := PV.cells) (fun _ => rfl) F, .inr ⟨g, cap, _, rfl, hb, block_setCells g 47 (0, 0) _ _ _ _ hg, by omega, hcap, by rw [over_size, hs], ?_⟩⟩
  have hl := flat_len (k := 8) (enc := PV.cells) (fun _ => rfl) F
  apply List.ext_getElem?
  intro n
  by_cases hn : n < F.length * 8
  · rw [List.getElem?_take_of_lt hn, Array.getElem?_toList, over_get _ _ _ _ (by rw [hs]; exact hF), if_neg (by omega)]
    have hd : n / 8 * 8 + n % 8 = n := by omega
    have hx := List.getElem?_eq_getElem (show n / 8 < F.length by omega)
    rw [← hd, flat_at (k := 8) (enc := PV.cells) (fun _ => rfl) _ _ _ (by omega), hx]
    exact h1 _ _ hx _ (by omega)
  · rw [List.getElem?_eq_none (by simp; omega), List.getElem?_eq_none (by rw [hl]; omega)]
theorem KeptAt.start {w : World} {g cap : Nat} {l : List PV} {cur : Array Value} (hg : w.heap[g]? = some (.cells cur 47 (0, 0))) (hcs : cur.size = cap * 8) (htake : cur.toList.take (l.length * 8) = l.flatMap PV.cells) (k : Nat) : KeptAt w g cap l (k + 1) (l.take k) := by
  have hcell : ∀ (t : Nat) x, l[t]? = some x → ∀ r, r < 8 → cur[t * 8 + r]? = x.cells[r]? := fun t x hx r hr => by
    have htl := (List.getElem?_eq_some_iff.1 hx).1
    have e : (cur.toList.take (l.length * 8))[t * 8 + r]? = (l.flatMap PV.cells)[t * 8 + r]? := by rw [htake]
    rw [List.getElem?_take_of_lt (by omega), Array.getElem?_toList, flat_at (k := 8) (enc := PV.cells) (fun _ => rfl) _ _ _ hr, hx] at e
    exact e
  exact ⟨cur, hg, hcs, fun t x hx => hcell t x (by rw [List.getElem?_take] at hx; split at hx; exact hx; cases hx), fun t x _ hx => hcell t x hx⟩
set_option maxHeartbeats 400000 in
theorem index_any (v : Value) (l : List PV) (w : World) (hp : PsAt w v l) :
    Calls Try.prog 50 #[v, .func (.func 39) #[] #[]] w fun e w' => ∃ z : Int, e = .returned (.int .i64 z) ∧ ((z = -1 ∧ ∀ q ∈ l, q.none = false) ∨ ∃ k : Nat, z = k ∧ (∃ q, l[k]? = some q ∧ q.none = true) ∧ ∀ q ∈ l.take k, q.none = false) ∧ Below w.heap.size w w' := by
  have HP := Lib.hid hp
  obtain ⟨a, cap, rfl, hlen, -⟩ := hp
  obtain ⟨L, hL⟩ : ∃ L, l.length = L := ⟨_, rfl⟩
  rw [hL] at hlen HP ⊢
  have HL := Lib.hid hL
  clear hL
  go_enter Try.func50, Try.ntmps50
  go_wp2
  go_loopw [8] (fun i wr => ∃ k : Nat, k ≤ L ∧ i = .int .i64 (k : Nat) ∧ Hid (Below w.heap.size w wr ∧ ∀ q ∈ l.take k, q.none = false)) (fun i _ => L - (intOf i).toNat)
  case atStart => exact ⟨0, Nat.zero_le _, rfl, Below.refl _ _, by simp⟩
  case round =>
    obtain ⟨k, hk, rfl, HR⟩ := hrel
    by_cases hlt : k < L
    · have hltz : (k : Int) < (L : Int) := by omega
      obtain ⟨a', cap', hv, _, _, _, hc⟩ := HP.out.below HR.out.1
      cases hv
      obtain ⟨b, off, rfl, hb, hc⟩ := hc (by omega)
      obtain ⟨x, hx⟩ : ∃ x, l[k]? = some x := ⟨_, List.getElem?_eq_getElem hlt⟩
      obtain ⟨-, hr⟩ := hc k x hx
      have c0 : wr.cell? ⟨b, off + k * 8, none⟩ = some (.int .i64 x.f) := hr 0 (by omega)
      have c1 : wr.cell? ⟨b, off + k * 8 + 1, none⟩ = some (.int .u64 x.p.r) := hr 1 (by omega)
      have c2 : wr.cell? ⟨b, off + k * 8 + 2, none⟩ = some (.int .i64 x.p.n) := hr 2 (by omega)
      have c3 : wr.cell? ⟨b, off + k * 8 + 3, none⟩ = some (.int .u64 x.p.i) := hr 3 (by omega)
      have c4 : wr.cell? ⟨b, off + k * 8 + 4, none⟩ = some (.int .u64 x.a.r) := hr 4 (by omega)
      have c5 : wr.cell? ⟨b, off + k * 8 + 5, none⟩ = some (.int .i64 x.a.n) := hr 5 (by omega)
      have c6 : wr.cell? ⟨b, off + k * 8 + 6, none⟩ = some (.int .u64 x.a.i) := hr 6 (by omega)
      have c7 : wr.cell? ⟨b, off + k * 8 + 7, none⟩ = some (.slice x.ua x.b.length x.uc) := hr 7 (by omega)
      have HN := Lib.hid (none_any x)
      have HX := Lib.hid hx
      clear hc hr hx hb
      cases hz : x.none
      · rw [hz] at HN
        have HZ := Lib.hid hz
        clear hz
        go_wp2_with (go_at_call 39; refine (HN.out _).mono ?_; rintro e w3 ⟨rfl, hb3⟩; have HB := Lib.hid (HR.out.1.trans (hb3.mono HR.out.1.size)); clear hb3)
        go_roundw
        case rel =>
          refine ⟨k + 1, by omega, by go_num, HB.out, fun q hq => ?_⟩
          obtain ⟨hkl, he⟩ := List.getElem?_eq_some_iff.1 HX.out
          rw [List.take_succ_eq_append_getElem hkl, he] at hq
          rcases List.mem_append.1 hq with hq | hq
          · exact HR.out.2 q hq
          · rw [List.mem_singleton] at hq; rw [hq]; exact HZ.out
        case measure => simp [intOf]; omega
      · rw [hz] at HN
        have HZ := Lib.hid hz
        clear hz
        go_wp2_with (go_at_call 39; refine (HN.out _).mono ?_; rintro e w3 ⟨rfl, hb3⟩; have HB := Lib.hid (HR.out.1.trans (hb3.mono HR.out.1.size)); clear hb3)
        go_ret
        exact ⟨_, rfl, .inr ⟨k, rfl, ⟨x, HX.out, HZ.out⟩, HR.out.2⟩, HB.out⟩
    · obtain rfl : k = L := by omega
      have HB := Lib.hid HR.out
      clear HR
      go_wp2
      go_ret
      exact ⟨_, rfl, .inl ⟨rfl, fun q hq => HB.out.2 q (by rw [List.take_of_length_le (by rw [HL.out]; exact Nat.le_refl _)]; exact hq)⟩, HB.out.1⟩
theorem OwnRow.chg {α : Type} {k : Nat} {enc : α → List Value} {T : TypeId} {base : Nat} {w w' : World} {v : Value} {l : List α} {S : Nat → Prop} (h : OwnRow T k enc base w v l) (hc : Chg S w w') (hS : ∀ k, v.ownBlock = some k → ¬ S k) : OwnRow T k enc base w' v l := by
  refine ⟨h.1, ?_⟩
  rcases h.2 with h2 | ⟨g, cap, cur, rfl, hbg, hg, r⟩
  · exact .inl h2
  · exact .inr ⟨g, cap, cur, rfl, hbg, hc.heap hg (hS g rfl), r⟩
theorem KeptAt.cell {w : World} {g cap : Nat} {l : List PV} {j : Nat} {F : List PV} (h : KeptAt w g cap l j F) {x : PV} (hx : l[j]? = some x) (r : Nat) (hr : r < 8) : w.cell? ⟨g, j * 8 + r, none⟩ = x.cells[r]? := by
  obtain ⟨cur, hg, _, _, h2⟩ := h
  rw [Go.Joins.cell_of_block hg]
  exact h2 j x (Nat.le_refl _) hx r hr
theorem KeptAt.has {w : World} {g cap : Nat} {l : List PV} {j : Nat} {F : List PV} (h : KeptAt w g cap l j F) (n : Nat) (hn : n < cap * 8) : ∃ e, w.cell? ⟨g, n, none⟩ = some e := by
  obtain ⟨cur, hg, hs, _⟩ := h
  exact ⟨_, by rw [Go.Joins.cell_of_block hg]; exact Array.getElem?_eq_getElem (by omega)⟩
theorem KeptAt.fz {w : World} {g cap : Nat} {l : List PV} {j : Nat} {F : List PV} (h : KeptAt w g cap l j F) (n : Nat) : w.frozen? ⟨g, n, none⟩ = false := by
  obtain ⟨cur, hg, _⟩ := h
  simp [World.frozen?, hg]
def zProm : List Value := [.int .i64 0, .int .u64 0, .int .i64 0, .int .u64 0, .int .u64 0, .int .i64 0, .int .u64 0, .slice none 0 0]
def zRows (n : Nat) : List Value := (Builtin.zeroCells zProm.toArray n).toList
theorem zRows_len (n : Nat) : (zRows n).length = n * 8 := by
  unfold zRows
  rw [Array.length_toList, size_zeroCells]
  rfl
theorem run_clear_ps (w : World) (ty : TypeId) (b o n c : Nat) (hn : 0 < n) (hc : ∀ j, j < n * 8 → (w.cell? ⟨b, o + j, none⟩).isSome = true ∧ w.frozen? ⟨b, o + j, none⟩ = false) :
    (Builtin.clear_ #[44] ty #[.slice (some ⟨b, o, none⟩) n c]).run Try.prog w = .ok (.tuple #[]) (w.setCells b o (zRows n)) := by
  have hone : ∀ v ∈ zRows n, v.oneCell' = true := by
    intro v hv
    unfold zRows Builtin.zeroCells at hv
    simp [zProm] at hv
    obtain ⟨a, _, rfl⟩ := hv
    have h8 := Nat.mod_lt a (show 0 < 8 by decide)
    generalize a % 8 = r at h8
    rcases (show r = 0 ∨ r = 1 ∨ r = 2 ∨ r = 3 ∨ r = 4 ∨ r = 5 ∨ r = 6 ∨ r = 7 by omega) with rfl | rfl | rfl | rfl | rfl | rfl | rfl | rfl <;> rfl
  have hst := run_storeCells_cells (P := Try.prog) b o (zRows n) 0 w (fun j hj => by simpa using (hc j (by rwa [zRows_len] at hj)).1) (fun j hj => by simpa using (hc j (by rwa [zRows_len] at hj)).2) hone
  simp only [Nat.add_zero] at hst
  unfold zRows zProm at hst ⊢
  obtain ⟨m, rfl⟩ : ∃ m, n = m + 1 := ⟨n - 1, by omega⟩
  simp [Builtin.clear_, run_underlying Try.underlying44, Try.zeroValue47, Value.cells, hst]
/-- those that have accepted something -/
def accd (l : List PV) : List PV := l.filter fun q => !q.none
theorem accd_app (l : List PV) (x : PV) : accd (l ++ [x]) = if x.none = true then accd l else accd l ++ [x] := by
  unfold accd
  rw [List.filter_append]
  cases hx : x.none <;> simp [hx]
theorem accd_len (l : List PV) : (accd l).length ≤ l.length := List.length_filter_le _ _
set_option maxRecDepth 100000 in
set_option maxHeartbeats 1000000 in
theorem delete_ps (base g cap : Nat) (l : List PV) (w : World) (ho : OwnPs base w (.slice (some ⟨g, 0, none⟩) l.length cap) l) (hok : ∀ q ∈ l, q.ok w) (hl : l.length ≤ 1000) :
    Calls Try.prog 40 #[.slice (some ⟨g, 0, none⟩) l.length cap, .func (.func 39) #[] #[]] w fun e w' => e = .returned (.slice (some ⟨g, 0, none⟩) (accd l).length cap) ∧ OwnPs base w' (.slice (some ⟨g, 0, none⟩) (accd l).length cap) (accd l) ∧ Chg (fun k => k = g) w w' := by
  have HIX := Lib.hid (index_any _ l w (OwnRow.at (fun _ => rfl) ho hok))
  have HO := Lib.hid ho
  rcases ho.2 with ⟨h0, _⟩ | ⟨g', cap', cur, hv, hbg, hg, hnc, hcm, hcs, htake⟩
  · cases h0
  · cases hv
    have hgl := (Array.getElem?_eq_some_iff.1 hg).1
    obtain ⟨L, hL⟩ : ∃ L, l.length = L := ⟨_, rfl⟩
    have HST := Lib.hid (fun k => KeptAt.start hg hcs htake k)
    rw [hL] at HIX hnc hl HO ⊢
    have HL := Lib.hid hL
    have HG := Lib.hid (And.intro hgl (And.intro hbg hcm))
    obtain ⟨A, hA⟩ : ∃ A, accd l = A := ⟨_, rfl⟩
    rw [hA]
    have HA := Lib.hid hA
    clear hg hcs htake hL hok hA hgl hbg hcm ho
    go_enter Try.func40, Try.ntmps40
    go_wp2_with fail
    refine HIX.out.mono ?_
    rintro e w1 ⟨z, rfl, hz, hb1⟩
    rcases hz with ⟨rfl, hall⟩ | ⟨k, rfl, hk, hpre⟩
    · have hAl : A = l := by rw [← HA.out]; exact List.filter_eq_self.2 fun q hq => by rw [hall q hq]; rfl
      have HE := Lib.hid (show A.length = L ∧ OwnPs base w1 (.slice (some ⟨g, 0, none⟩) L cap) A ∧ Chg (fun k => k = g) w w1 from ⟨by rw [hAl]; exact HL.out, by rw [hAl]; exact OwnRow.chg HO.out (Chg.of_below (S := fun _ => False) hb1 (Nat.le_refl _)) (fun _ _ h => h), Chg.of_below hb1 (Nat.le_refl _)⟩)
      clear hall hAl hb1
      go_wp2
      go_ret
      rw [HE.out.1]
      exact ⟨rfl, HE.out.2.1, HE.out.2.2⟩
    · obtain ⟨q, hq, hqn⟩ := hk
      have hkL := (List.getElem?_eq_some_iff.1 hq).1
      have hkL' : k < L := by rw [← HL.out]; exact hkL
      have hac : accd (l.take (k + 1)) = l.take k := by
        obtain ⟨hkl, he⟩ := List.getElem?_eq_some_iff.1 hq
        rw [List.take_succ_eq_append_getElem hkl, he, accd_app, if_pos hqn]
        exact List.filter_eq_self.2 fun q hq => by rw [hpre q hq]; rfl
      have HS0 := Lib.hid (show Chg (fun k => k = g) w w1 ∧ KeptAt w1 g cap l (k + 1) (accd (l.take (k + 1))) ∧ (accd (l.take (k + 1))).length = k from
        ⟨Chg.of_below hb1 (Nat.le_refl _), by rw [hac]; exact (HST.out k).chg (hb1.block g HG.out.1), by rw [hac, List.length_take]; omega⟩)
      have hz1 : ((k : Int) == -1) = false := by simp
      clear hq hqn hac hpre hb1 HIX HST hkL
      go_wp2
      go_loopw [5, 6] (fun s5 s6 wr => ∃ j : Nat, j ≤ L ∧ s6 = .int .i64 (j : Nat) ∧ s5 = .int .i64 ((accd (l.take j)).length : Nat) ∧ Hid (Chg (fun k => k = g) w wr ∧ KeptAt wr g cap l j (accd (l.take j)) ∧ (accd (l.take j)).length < j)) (fun _ s6 _ => L - (intOf s6).toNat)
      case atStart => exact ⟨k + 1, by omega, by go_num, by rw [HS0.out.2.2], HS0.out.1, HS0.out.2.1, by rw [HS0.out.2.2]; omega⟩
      case round =>
        obtain ⟨j, hj, rfl, rfl, HR⟩ := hrel
        obtain ⟨F, hF⟩ : ∃ F, accd (l.take j) = F := ⟨_, rfl⟩
        rw [hF] at HR ⊢
        have HFF := Lib.hid hF
        obtain ⟨i, hi⟩ : ∃ i, F.length = i := ⟨_, rfl⟩
        have HI := Lib.hid hi
        rw [hi]
        have hij : i < j := by rw [← hi]; exact HR.out.2.2
        clear hF hi
        by_cases hlt : j < L
        · have hltz : (j : Int) < (L : Int) := by omega
          obtain ⟨x, hx⟩ : ∃ x, l[j]? = some x := ⟨_, List.getElem?_eq_getElem (by rw [HL.out]; exact hlt)⟩
          have hka := HR.out.2.1
          have c0 : wr.cell? ⟨g, j * 8, none⟩ = some (.int .i64 x.f) := hka.cell hx 0 (by omega)
          have c1 : wr.cell? ⟨g, j * 8 + 1, none⟩ = some (.int .u64 x.p.r) := hka.cell hx 1 (by omega)
          have c2 : wr.cell? ⟨g, j * 8 + 2, none⟩ = some (.int .i64 x.p.n) := hka.cell hx 2 (by omega)
          have c3 : wr.cell? ⟨g, j * 8 + 3, none⟩ = some (.int .u64 x.p.i) := hka.cell hx 3 (by omega)
          have c4 : wr.cell? ⟨g, j * 8 + 4, none⟩ = some (.int .u64 x.a.r) := hka.cell hx 4 (by omega)
          have c5 : wr.cell? ⟨g, j * 8 + 5, none⟩ = some (.int .i64 x.a.n) := hka.cell hx 5 (by omega)
          have c6 : wr.cell? ⟨g, j * 8 + 6, none⟩ = some (.int .u64 x.a.i) := hka.cell hx 6 (by omega)
          have c7 : wr.cell? ⟨g, j * 8 + 7, none⟩ = some (.slice x.ua x.b.length x.uc) := hka.cell hx 7 (by omega)
          have HN := Lib.hid (none_any x)
          have hgw : g < wr.heap.size := by have := HR.out.1.size; have := HG.out.1; omega
          have HW3 := Lib.hid (show ∀ w3, Below (wr.alloc x.obj).heap.size (wr.alloc x.obj) w3 → Chg (fun k => k = g) w w3 ∧ KeptAt w3 g cap l j F ∧ Box8 w3 wr.heap.size x from fun w3 hb => by
            have hb' : Below wr.heap.size wr w3 := (Go.Joins.below_alloc1 wr x.obj).trans (hb.mono (by simp [World.size_alloc]))
            exact ⟨HR.out.1.trans (Chg.of_below hb' (Nat.le_refl _)), hka.chg (hb'.block g hgw), (Box8.new wr x).below hb (Box8.new wr x).lt⟩)
          have hst : accd (l.take (j + 1)) = if x.none = true then F else F ++ [x] := by
            obtain ⟨hjl, he⟩ := List.getElem?_eq_some_iff.1 hx
            rw [List.take_succ_eq_append_getElem hjl, he, accd_app, HFF.out]
          have HCAP := Lib.hid hnc
          clear hka hx HR hgw
          cases hz : x.none
          · rw [hz] at HN
            have HT := Lib.hid (show accd (l.take (j + 1)) = F ++ [x] by rw [hst, hz]; simp)
            clear hz hst
            go_wp2_with (go_at_call 39; refine (HN.out _).mono ?_; rintro e w3 ⟨rfl, hb3⟩; obtain ⟨k1, k2, k3⟩ := HW3.out w3 hb3; have kf := k2.fz; obtain ⟨e0, d0⟩ := k2.has (i * 8) (by omega); obtain ⟨e1, d1⟩ := k2.has (i * 8 + 1) (by omega); obtain ⟨e2, d2⟩ := k2.has (i * 8 + 2) (by omega); obtain ⟨e3, d3⟩ := k2.has (i * 8 + 3) (by omega); obtain ⟨e4, d4⟩ := k2.has (i * 8 + 4) (by omega); obtain ⟨e5, d5⟩ := k2.has (i * 8 + 5) (by omega); obtain ⟨e6, d6⟩ := k2.has (i * 8 + 6) (by omega); obtain ⟨e7, d7⟩ := k2.has (i * 8 + 7) (by omega); obtain ⟨x0, x1, x2, x3, x4, x5, x6, x7⟩ := k3.c; have HK := Lib.hid (And.intro k1 k2); clear k1 k2 k3 hb3)
            have HKX := Lib.hid (show Chg (fun k => k = g) w (put8 w3 g (i * 8) x) ∧ KeptAt (put8 w3 g (i * 8) x) g cap l (j + 1) (F ++ [x]) from
              ⟨HK.out.1.trans (put8_chg w3 g (i * 8) x), by have := HK.out.2.keep x (by rw [HI.out]; omega) (by omega); rwa [HI.out] at this⟩)
            clear d0 d1 d2 d3 d4 d5 d6 d7 x0 x1 x2 x3 x4 x5 x6 x7 c0 c1 c2 c3 c4 c5 c6 c7 kf
            go_roundw
            case rel => exact ⟨j + 1, by omega, by go_num, by rw [HT.out, List.length_append, HI.out]; go_num, HKX.out.1, by rw [HT.out]; exact HKX.out.2, by rw [HT.out, List.length_append, HI.out]; simp; omega⟩
            case measure => simp [intOf]; omega
          · rw [hz] at HN
            have HT := Lib.hid (show accd (l.take (j + 1)) = F by rw [hst, hz]; simp)
            clear hz hst
            go_wp2_with (go_at_call 39; refine (HN.out _).mono ?_; rintro e w3 ⟨rfl, hb3⟩; have HK := Lib.hid (HW3.out w3 hb3); clear hb3)
            go_roundw
            case rel => exact ⟨j + 1, by omega, by go_num, by rw [HT.out, HI.out], HK.out.1, by rw [HT.out]; exact HK.out.2.1.skip, by rw [HT.out, HI.out]; omega⟩
            case measure => simp [intOf]; omega
        · obtain rfl : j = L := by omega
          have hFA : F = A := by rw [← HFF.out, ← HA.out, List.take_of_length_le (by rw [HL.out]; exact Nat.le_refl _)]
          have hk2 := HR.out.2.1
          have k := fun ty c => run_clear_ps wr ty g (i * 8) (j - i) c (by omega) (fun n hn => ⟨by obtain ⟨e, he⟩ := hk2.has (i * 8 + n) (by omega); rw [he]; rfl, hk2.fz _⟩)
          have HE := Lib.hid (show A.length = i ∧ OwnPs base (wr.setCells g (i * 8) (zRows (j - i))) (.slice (some ⟨g, 0, none⟩) i cap) A ∧ Chg (fun k => k = g) w (wr.setCells g (i * 8) (zRows (j - i))) from by
            have h := hk2.done (base := base) (zRows (j - i)) (by rw [HI.out, zRows_len]; omega) HG.out.2.2 HG.out.2.1
            rw [HI.out] at h
            exact ⟨by rw [← hFA]; exact HI.out, by rw [← hFA]; exact h, chg_setCells g _ _ _ _ HR.out.1 rfl⟩)
          clear hFA hk2 HR hlt
          go_wp2
          go_ret
          rw [HE.out.1]
          exact ⟨rfl, HE.out.2.1, HE.out.2.2⟩
end Go.Proofs.Ytomoomeocolkmaa
