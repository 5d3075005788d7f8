/- The place of one among others; are two rows the same? -/
import Derived.Test.YtpihogkhfmijcaaGreatPb
import Derived.Test.YtpihogkhfmijcaaGreatKit
namespace Go.Proofs.YtpihogkhfmijcaaGreat
open Go.RowKit Go.Maps Go.Shelf
/-- where a place stands first -/
def at? (l : List PL) (x : PL) : Option Nat := l.findIdx? fun q => decide (q = x)
theorem at_some {l : List PL} {x : PL} {k : Nat} (h1 : l[k]? = some x) (h2 : (l.take k).contains x = false) : at? l x = some k := by
  unfold at?
  rw [List.findIdx?_eq_some_iff_getElem]
  obtain ⟨hk, he⟩ := List.getElem?_eq_some_iff.1 h1
  refine ⟨hk, by simpa using he, fun j hj => ?_⟩
  simp only [decide_eq_true_eq]
  intro e
  have : x ∈ l.take k := List.mem_of_getElem? (i := j) (by rw [List.getElem?_take_of_lt hj, List.getElem?_eq_getElem (by omega), e])
  simp [this] at h2
theorem at_none {l : List PL} {x : PL} (h : l.contains x = false) : at? l x = none := by
  unfold at?
  rw [List.findIdx?_eq_none_iff]
  intro q hq
  simp only [decide_eq_false_iff_not]
  rintro rfl
  simp [hq] at h
theorem at_spec {l : List PL} {x : PL} {k : Nat} (h : at? l x = some k) : l[k]? = some x ∧ ∀ j, j < k → l[j]? ≠ some x := by
  unfold at? at h
  rw [List.findIdx?_eq_some_iff_getElem] at h
  obtain ⟨hk, h1, h2⟩ := h
  refine ⟨by rw [List.getElem?_eq_getElem hk]; simpa using h1, fun j hj e => ?_⟩
  obtain ⟨hj', he⟩ := List.getElem?_eq_some_iff.1 e
  have := h2 j hj
  simp [he] at this
theorem at_lt {l : List PL} {x : PL} {k : Nat} (h : at? l x = some k) : k < l.length := (List.getElem?_eq_some_iff.1 (at_spec h).1).1
def idxI (l : List PL) (x : PL) : Int := match at? l x with
  | none => -1
  | some k => k
set_option maxRecDepth 100000 in
set_option maxHeartbeats 1000000 in
theorem idx_any (v : Value) (l : List PL) (x : PL) (w : World) (hp : PsAt w v l) (hl : l.length ≤ 100000) :
    Calls Tryz.prog 76 #[v, x.val] w fun e w' => e = .returned (.int .i64 (idxI l x)) ∧ Below w.heap.size w w' := by
  have HP := Lib.hid hp
  obtain ⟨a, cap, rfl, hlen, -⟩ := hp
  obtain ⟨L, hL⟩ : ∃ L, l.length = L := ⟨_, rfl⟩
  rw [hL] at hlen HP hl ⊢
  have HL := Lib.hid hL
  clear hL
  obtain ⟨W, hW⟩ : ∃ W, W = w.alloc (.cells #[.int .i64 x.n, .int .u64 x.s] 40) := ⟨_, rfl⟩
  have hB : Below w.heap.size w W := by rw [hW]; exact Go.Joins.below_alloc1 w _
  have hsz : W.heap.size = w.heap.size + 1 := by rw [hW, World.size_alloc]
  have x0 : W.cell? ⟨w.heap.size, 0, none⟩ = some (.int .i64 x.n) := by rw [hW, World.cell?_alloc_new]; rfl
  have x1 : W.cell? ⟨w.heap.size, 1, none⟩ = some (.int .u64 x.s) := by rw [hW, World.cell?_alloc_new]; rfl
  have HX : Hid (∀ W', Below W.heap.size W W' → (W'.cell? ⟨w.heap.size, 0, none⟩ = some (.int .i64 x.n) ∧ W'.cell? ⟨w.heap.size, 1, none⟩ = some (.int .u64 x.s)) ∧ Below w.heap.size w W') := fun W' h =>
    ⟨⟨(h.cell (p := ⟨w.heap.size, 0, none⟩) (by show w.heap.size < W.heap.size; omega)).trans x0, (h.cell (p := ⟨w.heap.size, 1, none⟩) (by show w.heap.size < W.heap.size; omega)).trans x1⟩, hB.trans (h.mono hB.size)⟩
  obtain ⟨R, hR⟩ : ∃ R, idxI l x = R := ⟨_, rfl⟩
  rw [hR]
  have HR0 := Lib.hid hR
  clear x0 x1 hsz hB hR
  go_enter Tryz.func76, Tryz.ntmps76
  go_wp2
  rw [← hW]
  clear hW
  go_loopw [8] (fun i wr => ∃ k : Nat, k ≤ L ∧ i = .int .i64 (k : Nat) ∧ Hid ((l.take k).contains x = false ∧ Below W.heap.size W wr)) (fun i _ => L - (intOf i).toNat)
  case atStart => exact ⟨0, Nat.zero_le _, rfl, by simp, Below.refl _ _⟩
  case round =>
    obtain ⟨k, hk, rfl, HR⟩ := hrel
    by_cases hlt : k < L
    · obtain ⟨y, hy⟩ : ∃ y, l[k]? = some y := ⟨_, List.getElem?_eq_getElem (by rw [HL.out]; exact hlt)⟩
      have hltz : (k : Int) < (L : Int) := by omega
      obtain ⟨r3, r4⟩ := HR.out
      obtain ⟨⟨x0, x1⟩, hBw⟩ := HX.out wr r4
      obtain ⟨b, off, rfl, hb, hc⟩ := PsAt.cell (HP.out.below hBw) hy
      obtain ⟨c0, c1⟩ := hc wr (Below.refl _ _)
      have hct := contains_snoc (x := x) hy
      rw [r3, Bool.false_or] at hct
      have k1 := fun w => eql38 x y w
      have kg := guard38
      have HYM := Lib.hid hy
      clear hc hy
      by_cases hxy : x = y
      · rw [decide_eq_true hxy] at k1
        dsimp only [PL.val] at k1
        have HXY := Lib.hid (show R = (k : Int) from by
          rw [← HR0.out]
          unfold idxI
          rw [at_some (by rw [hxy]; exact HYM.out) r3])
        have HB := Lib.hid hBw
        clear hct r3 r4 HR hxy hBw
        go_wp2_with fail
        go_quiet (fail)
        go_wp2
        go_ret
        exact ⟨by rw [HXY.out]; rfl, drewN_below HB.out _⟩
      · rw [decide_eq_false hxy] at k1 hct
        dsimp only [PL.val] at k1
        have HNX := Lib.hid (And.intro hct (drewN_below r4))
        clear hct r3 r4 HR hxy hBw
        go_wp2_with fail
        go_quiet (fail)
        go_wp2
        go_roundw
        case rel => exact ⟨k + 1, by omega, by go_num, HNX.out.1, HNX.out.2 _⟩
        case measure => simp [intOf]; omega
    · obtain rfl : k = L := by omega
      have HD := Lib.hid (show R = -1 ∧ Below w.heap.size w wr from ⟨by
        have h := HR.out.1
        rw [take_all HL.out] at h
        rw [← HR0.out]
        unfold idxI
        rw [at_none h], (HX.out wr HR.out.2).2⟩)
      clear HR
      go_wp2
      go_ret
      exact ⟨by rw [HD.out.1]; rfl, HD.out.2⟩
theorem drewN_add (w : World) (m n : Nat) : (w.drewN m).drewN n = w.drewN (m + n) := by unfold World.drewN; simp [Nat.add_assoc]
theorem idxI_ge (l : List PL) (x : PL) : decide ((0 : Int) ≤ idxI l x) = decide (x ∈ l) := by
  unfold idxI
  cases h : at? l x with
  | none =>
    have h1 : x ∉ l := by
      unfold at? at h
      rw [List.findIdx?_eq_none_iff] at h
      intro hx
      have := h x hx
      simp at this
    rw [decide_eq_false h1]
    rfl
  | some k =>
    have h1 : x ∈ l := List.mem_of_getElem? (at_spec h).1
    rw [decide_eq_true h1]
    simp
set_option maxRecDepth 100000 in
theorem containsP_any (v : Value) (l : List PL) (x : PL) (w : World) (hp : PsAt w v l) (hl : l.length ≤ 100000) :
    Calls Tryz.prog 67 #[v, x.val] w fun e w' => e = .returned (.bool (decide (x ∈ l))) ∧ Below w.heap.size w w' := by
  obtain ⟨W, hW⟩ : ∃ W, W = w.alloc (.cells #[.int .i64 x.n, .int .u64 x.s] 40) := ⟨_, rfl⟩
  have hB : Below w.heap.size w W := by rw [hW]; exact Go.Joins.below_alloc1 w _
  have HI := Lib.hid (idx_any v l x W (hp.below hB) hl)
  have x0 : W.cell? ⟨w.heap.size, 0, none⟩ = some (.int .i64 x.n) := by rw [hW, World.cell?_alloc_new]; rfl
  have x1 : W.cell? ⟨w.heap.size, 1, none⟩ = some (.int .u64 x.s) := by rw [hW, World.cell?_alloc_new]; rfl
  have HB := Lib.hid hB
  have HG := Lib.hid (idxI_ge l x)
  clear hB hp
  subst hW
  go_enter Tryz.func67, Tryz.ntmps67
  go_wp2_with fail
  refine HI.out.mono ?_
  rintro e w1 ⟨rfl, hb⟩
  have HF := Lib.hid (HB.out.trans (hb.mono HB.out.size))
  clear hb x0 x1
  go_wp2
  go_ret
  exact ⟨by rw [← HG.out]; rfl, HF.out⟩
set_option maxRecDepth 100000 in
set_option maxHeartbeats 1000000 in
theorem equal_any (v u : Value) (l m : List PL) (w : World) (hp : PsAt w v l) (hq : PsAt w u m) :
    Calls Tryz.prog 36 #[v, u] w fun e w' => e = .returned (.bool (decide (l = m))) ∧ Below w.heap.size w w' := by
  have HP := Lib.hid hp
  have HQ := Lib.hid hq
  obtain ⟨a, cap, rfl, hlen, -⟩ := hp
  obtain ⟨a2, cap2, rfl, hlen2, -⟩ := hq
  obtain ⟨L, hL⟩ : ∃ L, l.length = L := ⟨_, rfl⟩
  obtain ⟨M, hM⟩ : ∃ M, m.length = M := ⟨_, rfl⟩
  rw [hL] at hlen HP ⊢
  rw [hM] at hlen2 HQ ⊢
  have HL := Lib.hid hL
  have HM := Lib.hid hM
  clear hL hM
  by_cases hLM : L = M
  · subst hLM
    go_enter Tryz.func36, Tryz.ntmps36
    go_wp2
    go_loopw [13] (fun i wr => ∃ k : Nat, k ≤ L ∧ i = .int .i64 (k : Nat) ∧ Hid (l.take k = m.take k ∧ Below w.heap.size w wr)) (fun i _ => L - (intOf i).toNat)
    case atStart => exact ⟨0, Nat.zero_le _, rfl, by simp, Below.refl _ _⟩
    case round =>
      obtain ⟨k, hk, rfl, HR⟩ := hrel
      by_cases hlt : k < L
      · obtain ⟨x, hx⟩ : ∃ x, l[k]? = some x := ⟨_, List.getElem?_eq_getElem (by rw [HL.out]; exact hlt)⟩
        obtain ⟨y, hy⟩ : ∃ y, m[k]? = some y := ⟨_, List.getElem?_eq_getElem (by rw [HM.out]; exact hlt)⟩
        have hltz : (k : Int) < (L : Int) := by omega
        obtain ⟨r3, r4⟩ := HR.out
        obtain ⟨b, off, rfl, hb, hc⟩ := PsAt.cell (HP.out.below r4) hx
        obtain ⟨c0, c1⟩ := hc wr (Below.refl _ _)
        obtain ⟨b2, off2, rfl, hb2, hc2⟩ := PsAt.cell (HQ.out.below r4) hy
        obtain ⟨d0, d1⟩ := hc2 wr (Below.refl _ _)
        have k1 := fun w => neq38 x y w
        have kg := guard38
        have HTE := Lib.hid (take_eq_snoc r3 hx hy)
        have HB := Lib.hid r4
        clear hc hc2 hx hy r3 r4 HR hb hb2
        by_cases hxy : x = y
        · rw [decide_eq_true hxy] at k1
          dsimp only [PL.val, Bool.not_true] at k1
          have HT := Lib.hid (HTE.out.2 hxy)
          clear hxy
          go_wp2_with fail
          go_quiet (fail)
          go_wp2
          go_roundw
          case rel => exact ⟨k + 1, by omega, by go_num, HT.out, drewN_below HB.out _⟩
          case measure => simp [intOf]; omega
        · rw [decide_eq_false hxy] at k1
          dsimp only [PL.val, Bool.not_false] at k1
          have HT := Lib.hid (show decide (l = m) = false from decide_eq_false fun e => hxy (HTE.out.1 (by rw [e])))
          clear hxy
          go_wp2_with fail
          go_quiet (fail)
          go_wp2
          go_ret
          exact ⟨by rw [HT.out]; rfl, drewN_below HB.out _⟩
      · obtain rfl : k = L := by omega
        have HT := Lib.hid (show decide (l = m) = true from decide_eq_true (by have := HR.out.1; rw [take_all HL.out, take_all HM.out] at this; exact this))
        go_wp2
        go_ret
        exact ⟨by rw [HT.out]; rfl, HR.out.2⟩
  · have hne : ((L : Int) == (M : Int)) = false := by simp; omega
    have HT := Lib.hid (show decide (l = m) = false from decide_eq_false fun e => hLM (by rw [← HL.out, ← HM.out, e]))
    go_enter Tryz.func36, Tryz.ntmps36
    go_wp2
    go_ret
    exact ⟨by rw [HT.out]; rfl, Below.refl _ _⟩
end Go.Proofs.YtpihogkhfmijcaaGreat
