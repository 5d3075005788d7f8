/- count: how many unlike ones of a row are as asked. -/
import Derived.Test.YtnfjhpdpeihheaaAmong
namespace Go.Proofs.Ytnfjhpdpeihheaa
open Go.RowKit Go.Maps Go.Shelf
/-- how many unlike ones are as p says -/
def hits (p : PL → Bool) (l : List PL) : Nat := dist (l.filter p)
theorem hits_le (p : PL → Bool) (l : List PL) : hits p l ≤ l.length := Nat.le_trans (dist_le_length _) (List.length_filter_le _ _)
set_option maxRecDepth 100000 in
set_option maxHeartbeats 2000000 in
theorem count_any (v : Value) (l : List PL) (f : Nat) (c : Value) (p : PL → Bool) (w : World) (hp : PsAt w v l) (hl : l.length ≤ 100000) (ha : AsksAt w f c p) :
    Calls Try.prog 34 #[v, .func (.func f) #[] #[c]] w fun e w' => e = .returned (.int .i64 (hits p l)) ∧ Below w.heap.size w w' := by
  have HP := Lib.hid hp
  obtain ⟨a, cap, rfl, hlen, -⟩ := hp
  obtain ⟨L, hL⟩ : ∃ L, l.length = L := ⟨_, rfl⟩
  rw [hL] at hlen HP hl ⊢
  have HL := Lib.hid hL
  have HA := Lib.hid ha
  have hen := ha.enters
  have HLEN := Lib.hid (fun (w : World) (h : TimesAt w ((w.heap.size)) []) => h)
  clear hL ha HLEN
  have hmm := @run_makeMap Try.prog
  have HST : Hid (TimesAt (w.alloc (.map #[] 0)) w.heap.size ((l.take 0).filter p) ∧ Below w.heap.size w (w.alloc (.map #[] 0))) := ⟨TimesAt.made w, Go.Joins.below_alloc1 w _⟩
  go_enter Try.func34, Try.ntmps34
  go_wp2
  go_loopw [11] (fun i wr => ∃ k : Nat, k ≤ L ∧ i = .int .i64 (k : Nat) ∧ Hid (TimesAt wr w.heap.size ((l.take k).filter p) ∧ Below w.heap.size w wr)) (fun i _ => L - (intOf i).toNat)
  case atStart =>
    exact ⟨0, Nat.zero_le _, rfl, HST.out⟩
  case round =>
    obtain ⟨k, hk, rfl, HR⟩ := hrel
    by_cases hlt : k < L
    · obtain ⟨x, hx⟩ : ∃ x, l[k]? = some x := ⟨_, List.getElem?_eq_getElem (by rw [HL.out]; exact hlt)⟩
      have hltz : (k : Int) < (L : Int) := by omega
      obtain ⟨r3, r4⟩ := HR.out
      obtain ⟨b, off, rfl, hb, hc⟩ := PsAt.cell (HP.out.below r4) hx
      obtain ⟨c0, c1⟩ := hc wr (Below.refl _ _)
      have hxo := HP.out.ok x (List.mem_of_getElem? hx)
      obtain ⟨W, hW⟩ : ∃ W, W = wr.alloc (.cells #[.int .i64 x.n, .int .u64 x.s] 38) := ⟨_, rfl⟩
      have hBW : Below w.heap.size w W := by rw [hW]; exact r4.alloc r4.size _
      have hBr : Below wr.heap.size wr W := by rw [hW]; exact Go.Joins.below_alloc1 wr _
      have hsW : W.heap.size = wr.heap.size + 1 := by rw [hW, World.size_alloc]
      have x0 : W.cell? ⟨wr.heap.size, 0, none⟩ = some (.int .i64 x.n) := by rw [hW, World.cell?_alloc_new]; rfl
      have x1 : W.cell? ⟨wr.heap.size, 1, none⟩ = some (.int .u64 x.s) := by rw [hW, World.cell?_alloc_new]; rfl
      have HC := Lib.hid (HA.out.calls W hBW x hxo)
      have hT0 : TimesAt W w.heap.size ((l.take k).filter p) := r3.below hBr (Nat.le_refl _)
      cases hpx : p x
      · rw [hpx] at HC
        have HN : Hid (∀ w1, Below W.heap.size W w1 → TimesAt w1 w.heap.size ((l.take (k + 1)).filter p) ∧ Below w.heap.size w w1) := fun w1 h1 => by
          rw [take_snoc hx, List.filter_append]
          simp only [List.filter_cons, hpx, List.filter_nil]
          simp only [Bool.false_eq_true, if_false, List.append_nil]
          exact ⟨hT0.below h1 (Nat.le_refl _), hBW.trans (h1.mono hBW.size)⟩
        clear hT0 hpx hBr hBW r3 r4 HR hc hx hsW x0 x1
        subst hW
        go_wp2_with fail
        refine HC.out.mono ?_
        rintro e w1 ⟨rfl, hb1⟩
        have HN1 := Lib.hid (HN.out w1 hb1)
        clear hb1
        go_wp2
        go_roundw
        case rel => exact ⟨k + 1, by omega, by go_num, HN1.out⟩
        case measure => simp [intOf]; omega
      · rw [hpx] at HC
        have HW : Hid (∀ w1, Below W.heap.size W w1 → w1.cell? ⟨wr.heap.size, 0, none⟩ = some (.int .i64 x.n) ∧ w1.cell? ⟨wr.heap.size, 1, none⟩ = some (.int .u64 x.s) ∧ TimesAt w1.drew w.heap.size ((l.take k).filter p) ∧ w.heap.size < wr.heap.size ∧ wr.heap.size < w1.heap.size ∧ Below w.heap.size w w1) := fun w1 h1 =>
          ⟨(h1.cell (p := ⟨wr.heap.size, 0, none⟩) (by show wr.heap.size < W.heap.size; omega)).trans x0, (h1.cell (p := ⟨wr.heap.size, 1, none⟩) (by show wr.heap.size < W.heap.size; omega)).trans x1, (hT0.below h1 (Nat.le_refl _)).block rfl, r3.lt, by have := h1.size; omega, hBW.trans (h1.mono hBW.size)⟩
        have HF : Hid ((l.take (k + 1)).filter p = (l.take k).filter p ++ [x]) := by
          show (l.take (k + 1)).filter p = _
          rw [take_snoc hx, List.filter_append]
          simp [hpx]
        have HLF : Hid (((l.take k).filter p).length ≤ 100000) := Nat.le_trans (List.length_filter_le _ _) (by rw [List.length_take]; omega)
        clear hT0 hpx hBr hBW r3 r4 HR hc hx hsW x0 x1
        subst hW
        go_wp2_with fail
        refine HC.out.mono ?_
        rintro e w1 ⟨rfl, hb1⟩
        obtain ⟨x0, x1, hT, s1, s2, hBW⟩ := HW.out w1 hb1
        have hlk := hT.look x hxo
        obtain ⟨v0, st, w2, w3, e1, e2, e3, hT2, g1, g2⟩ := hT.bump x hxo (by have := HLF.out; omega)
        have x01 : w2.cell? ⟨wr.heap.size, 0, none⟩ = some (.int .i64 x.n) := by
          rw [cell_grown g1 s2 (by show wr.heap.size ≠ w.heap.size; omega)]; exact x0
        have x11 : w2.cell? ⟨wr.heap.size, 1, none⟩ = some (.int .u64 x.s) := by
          rw [cell_grown g1 s2 (by show wr.heap.size ≠ w.heap.size; omega)]; exact x1
        have HN : Hid (TimesAt w3 w.heap.size ((l.take (k + 1)).filter p) ∧ Below w.heap.size w w3) :=
          ⟨by rw [HF.out]; exact hT2, hBW.drew.grown g2 hBW.drew.size (fun j hj => by have := Option.some.inj hj; omega)⟩
        obtain ⟨C, hC⟩ : ∃ C : Nat, ((l.take k).filter p).count x = C := ⟨_, rfl⟩
        rw [hC] at hlk e2 e3
        have hCL : C ≤ 100000 := by rw [← hC]; exact Nat.le_trans (count_lt _ _) HLF.out
        clear hT hT2 g1 g2 hBW hC hb1 HW HC
        go_wp2
        go_region
        all_goals go_wp2
        all_goals go_roundw
        case rel => exact ⟨k + 1, by omega, by go_num, HN.out⟩
        case measure => simp [intOf]; omega
    · obtain rfl : k = L := by omega
      have h := HR.out
      rw [take_all HL.out] at h
      have hln := fun ty => h.1.len ty
      have H := Lib.hid h
      clear h
      go_wp2
      go_ret
      exact ⟨rfl, H.out.2⟩
end Go.Proofs.Ytnfjhpdpeihheaa
