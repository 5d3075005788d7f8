/- Highest. -/
import Derived.Test.YtomoomeocolkmaaDel
namespace Go.Proofs.Ytomoomeocolkmaa
open Go.RowKit
theorem delete_ps_none (w : World) : Calls Try.prog 40 #[.slice none 0 0, .func (.func 39) #[] #[]] w fun e w' => e = .returned (.slice none 0 0) ∧ Below w.heap.size w w' := by
  have HI := Lib.hid (index_any (.slice none 0 0) [] w ⟨none, 0, rfl, by simp, by simp, fun _ => rfl, fun h => absurd h (by simp)⟩)
  go_enter Try.func40, Try.ntmps40
  go_wp2_with fail
  refine HI.out.mono ?_
  rintro e w1 ⟨z, rfl, hz, hb⟩
  have HB := Lib.hid hb
  rcases hz with ⟨rfl, _⟩ | ⟨k, _, ⟨q, hq, _⟩, _⟩
  · clear hb
    go_wp2
    go_ret
    exact ⟨rfl, HB.out⟩
  · simp at hq
theorem topOf_mem {α : Type} (cmp : α → α → Int) (z : α) : ∀ l : List α, topOf cmp z l = z ∨ topOf cmp z l ∈ l
  | [] => .inl rfl
  | a :: t => by
    right
    show t.foldl (fun b x => if 0 < cmp x b then x else b) a ∈ a :: t
    induction t generalizing a with
    | nil => simp
    | cons b t ih =>
      simp only [List.foldl_cons]
      rcases List.mem_cons.1 (ih (if 0 < cmp b a then b else a)) with e | e
      · rw [e]; split <;> simp
      · simp [e]
/-- the one that Highest tells -/
def hiP (l : List PV) : PV := topP (accd l)
theorem hiP_ok {w : World} {l : List PV} (h : ∀ q ∈ l, q.ok w) : (hiP l).ok w := by
  rcases topOf_mem cmpA PV.zero (accd l) with e | e
  · show (topOf cmpA PV.zero (accd l)).ok w
    rw [e]
    exact ⟨⟨by decide, by decide⟩, ⟨⟨by decide, by decide⟩, ⟨by decide, by decide⟩, ⟨by decide, by decide⟩⟩, ⟨⟨by decide, by decide⟩, ⟨by decide, by decide⟩, ⟨by decide, by decide⟩⟩, BytesIn.nil _ _⟩
  · exact h _ (List.mem_filter.1 e).1
theorem hiP_len {l : List PV} (h : ∀ q ∈ l, q.b.length ≤ 10000) : (hiP l).b.length ≤ 10000 := by
  rcases topOf_mem cmpA PV.zero (accd l) with e | e
  · show (topOf cmpA PV.zero (accd l)).b.length ≤ 10000
    rw [e]; decide
  · exact h _ (List.mem_filter.1 e).1
set_option maxRecDepth 100000 in
set_option maxHeartbeats 400000 in
theorem hi_any (v : Value) (l : List PV) (w : World) (hp : PsAt w v l) (hl : l.length ≤ 1000) (hlen : ∀ q ∈ l, q.b.length ≤ 10000) :
    Calls Try.prog 24 #[v] w fun e w' => ∃ ua uc, e = .returned (.tuple #[PV.val { hiP l with ua := ua, uc := uc }, .bool (decide (0 < (accd l).length))]) ∧ OwnBytes w.heap.size w' (.slice ua (hiP l).b.length uc) (hiP l).b ∧ Below w.heap.size w w' := by
  obtain ⟨W, hW⟩ : ∃ W, W = w.alloc (.cells #[.int .i64 0, .int .u64 0, .int .i64 0, .int .u64 0, .int .u64 0, .int .i64 0, .int .u64 0, .slice none 0 0] 47) := ⟨_, rfl⟩
  have hBW : Below w.heap.size w W := by rw [hW]; exact Go.Joins.below_alloc1 w _
  have hsW : W.heap.size = w.heap.size + 1 := by rw [hW, World.size_alloc]
  have HW := Lib.hid (show Below w.heap.size w W ∧ Box8 W w.heap.size PV.zero from ⟨hBW, by rw [hW]; exact Box8.new w PV.zero⟩)
  have HCL := Lib.hid (clone_ps v l W (hp.below hBW) hl)
  have HOK := Lib.hid (show ∀ W', Below w.heap.size w W' → ∀ q ∈ l, q.ok W' from fun W' hb q hq => (hp.ok q hq).below hb)
  have HLL := Lib.hid hl
  have HHL := Lib.hid (hiP_len hlen)
  have HHO := Lib.hid (show ∀ W', Below w.heap.size w W' → (hiP l).ok W' from fun W' hb => hiP_ok (HOK.out W' hb))
  have HPH := Lib.hid (show ∀ W' v', PsAt W' v' (accd l) → Calls Try.prog 42 #[.func (.func 43) #[] #[], v'] W' fun e w' => e = .returned (.tuple #[(hiP l).val, .bool (decide (0 < (accd l).length))]) ∧ Below W'.heap.size W' w' from fun W' v' h => highestp_any v' (accd l) W' h)
  have hAM : ∀ q ∈ accd l, q ∈ l := fun q hq => (List.mem_filter.1 hq).1
  have HAO := Lib.hid (show ∀ W', Below w.heap.size w W' → ∀ q ∈ accd l, q.ok W' from fun W' hb q hq => HOK.out W' hb q (hAM q hq))
  generalize hiP l = h at HHL HHO HPH ⊢
  clear hp hlen hAM hl hBW
  go_enter Try.func24, Try.ntmps24
  go_wp2_with fail
  rw [← hW]
  clear hW
  refine HCL.out.mono ?_
  rintro e w1 ⟨v1, rfl, ho1, hb1⟩
  have B1 := Lib.hid (HW.out.1.trans (hb1.mono HW.out.1.size))
  have Z1 := Lib.hid (HW.out.2.below hb1 HW.out.2.lt)
  clear hb1
  rcases ho1.2 with ⟨rfl, h0⟩ | ⟨g, cap, cur, rfl, hbg, _⟩
  · obtain rfl : l = [] := List.eq_nil_of_length_eq_zero h0
    clear ho1 h0
    go_wp2_with fail
    refine (delete_ps_none _).mono ?_
    rintro e w2 ⟨rfl, hb2⟩
    have B2 := Lib.hid (B1.out.trans (hb2.mono B1.out.size))
    have Z2 := Lib.hid (Z1.out.below hb2 Z1.out.lt)
    have hps : PsAt w2 (.slice none 0 0) (accd []) := ⟨none, 0, rfl, by simp [accd], by simp [accd], fun _ => rfl, fun h => absurd h (by simp [accd])⟩
    clear hb2
    go_wp2_with fail
    refine (HPH.out w2 _ hps).mono ?_
    rintro e w3 ⟨rfl, hb3⟩
    have B3 := Lib.hid (B2.out.trans (hb3.mono B2.out.size))
    have Z3 := Lib.hid (Z2.out.below hb3 Z2.out.lt)
    have hb3a := B3.out.alloc B3.out.size h.obj
    have HC4 := Lib.hid (clone_any (.slice h.ua h.b.length h.uc) h.b (w3.alloc h.obj) (HHO.out _ hb3a).2.2.2 (by have := HHL.out; omega))
    have B3a := Lib.hid hb3a
    clear hb3 hb3a hps
    go_wp2_with fail
    refine HC4.out.mono ?_
    rintro e w4 ⟨v4, rfl, ho4, hb4⟩
    obtain ⟨ua, uc, rfl⟩ := ho4.form
    have hbh := (Box8.new w3 h).below hb4 (Box8.new w3 h).lt
    have hbz := (Z3.out.below (Go.Joins.below_alloc1 w3 h.obj) Z3.out.lt).below hb4 (by have := Z3.out.lt; simp [World.size_alloc]; omega)
    obtain ⟨x0, x1, x2, x3, x4, x5, x6, x7⟩ := hbh.c
    obtain ⟨y0, y1, y2, y3, y4, y5, y6, y7⟩ := hbz.c
    have xf := hbh.fz
    have yf := hbz.fz
    have B4 := Lib.hid (B3a.out.trans (hb4.mono B3a.out.size))
    have HFIN := Lib.hid (show Box8 (w4.setCell ⟨w3.heap.size, 7, none⟩ (.slice ua h.b.length uc)) w.heap.size PV.zero ∧ Below w.heap.size w (w4.setCell ⟨w3.heap.size, 7, none⟩ (.slice ua h.b.length uc)) ∧ OwnBytes w.heap.size (put8 (w4.setCell ⟨w3.heap.size, 7, none⟩ (.slice ua h.b.length uc)) w.heap.size 0 { h with ua := ua, uc := uc }) (.slice ua h.b.length uc) h.b from by
      have hs := B3.out.size
      have hlz := Z3.out.lt
      have hc1 : Chg (fun k => k = w3.heap.size) w4 (w4.setCell ⟨w3.heap.size, 7, none⟩ (.slice ua h.b.length uc)) := (Chg.refl (fun k => k = w3.heap.size) w4).setCell (p := ⟨w3.heap.size, 7, none⟩) (.inl rfl) _
      refine ⟨hc1.heap hbz (by omega), B4.out.trans (hc1.below B4.out.size fun k hk => by omega), ?_⟩
      have ha : (w3.alloc h.obj).heap.size = w3.heap.size + 1 := World.size_alloc _ _
      have h1 := ho4.chg hc1 fun k hk he => by have := (ho4.lt k hk).1; omega
      exact (h1.chg (put8_chg _ w.heap.size 0 { h with ua := ua, uc := uc }) fun k hk he => by have := (ho4.lt k hk).1; omega).base_le (by omega))
    clear hbh hbz ho4 hb4
    have hne1 : w3.heap.size ≠ w.heap.size := by have := Z3.out.lt; omega
    have hne2 : w.heap.size ≠ w3.heap.size := by omega
    go_wp2
    have e : ((((((((w4.setCell ⟨w3.heap.size, 7, none⟩ (.slice ua h.b.length uc)).setCell ⟨w.heap.size, 0, none⟩ (.int .i64 h.f)).setCell ⟨w.heap.size, 1, none⟩ (.int .u64 h.p.r)).setCell ⟨w.heap.size, 2, none⟩ (.int .i64 h.p.n)).setCell ⟨w.heap.size, 3, none⟩ (.int .u64 h.p.i)).setCell ⟨w.heap.size, 4, none⟩ (.int .u64 h.a.r)).setCell ⟨w.heap.size, 5, none⟩ (.int .i64 h.a.n)).setCell ⟨w.heap.size, 6, none⟩ (.int .u64 h.a.i)).setCell ⟨w.heap.size, 7, none⟩ (.slice ua h.b.length uc) = put8 (w4.setCell ⟨w3.heap.size, 7, none⟩ (.slice ua h.b.length uc)) w.heap.size 0 { h with ua := ua, uc := uc } := rfl
    rw [e]
    exact ends_prom (q := { h with ua := ua, uc := uc }) (z := PV.zero) (w3 := w4.setCell ⟨w3.heap.size, 7, none⟩ (.slice ua h.b.length uc)) (c := .bool (decide (0 < (accd ([] : List PV)).length))) rfl rfl rfl HFIN.out.1 HFIN.out.2.1 (fun hb => ⟨ua, uc, rfl, HFIN.out.2.2, hb⟩)
  · have HD := Lib.hid (delete_ps W.heap.size g cap l w1 ho1 (HOK.out w1 B1.out) HLL.out)
    have HBG := Lib.hid hbg
    clear ho1 hbg
    go_wp2_with fail
    refine HD.out.mono ?_
    rintro e w2 ⟨rfl, ho2, hc2⟩
    have hg0 := HBG.out
    have B2 := Lib.hid (B1.out.trans (hc2.below B1.out.size fun k hk => by omega))
    have Z2 := Lib.hid (show Box8 w2 w.heap.size PV.zero from hc2.heap Z1.out (by omega))
    have hps := OwnRow.at (k := 8) (enc := PV.cells) (fun _ => rfl) ho2 (HAO.out w2 B2.out)
    clear ho2 hc2 hg0
    go_wp2_with fail
    refine (HPH.out w2 _ hps).mono ?_
    rintro e w3 ⟨rfl, hb3⟩
    have B3 := Lib.hid (B2.out.trans (hb3.mono B2.out.size))
    have Z3 := Lib.hid (Z2.out.below hb3 Z2.out.lt)
    have hb3a := B3.out.alloc B3.out.size h.obj
    have HC4 := Lib.hid (clone_any (.slice h.ua h.b.length h.uc) h.b (w3.alloc h.obj) (HHO.out _ hb3a).2.2.2 (by have := HHL.out; omega))
    have B3a := Lib.hid hb3a
    clear hb3 hb3a hps
    go_wp2_with fail
    refine HC4.out.mono ?_
    rintro e w4 ⟨v4, rfl, ho4, hb4⟩
    obtain ⟨ua, uc, rfl⟩ := ho4.form
    have hbh := (Box8.new w3 h).below hb4 (Box8.new w3 h).lt
    have hbz := (Z3.out.below (Go.Joins.below_alloc1 w3 h.obj) Z3.out.lt).below hb4 (by have := Z3.out.lt; simp [World.size_alloc]; omega)
    obtain ⟨x0, x1, x2, x3, x4, x5, x6, x7⟩ := hbh.c
    obtain ⟨y0, y1, y2, y3, y4, y5, y6, y7⟩ := hbz.c
    have xf := hbh.fz
    have yf := hbz.fz
    have B4 := Lib.hid (B3a.out.trans (hb4.mono B3a.out.size))
    have HFIN := Lib.hid (show Box8 (w4.setCell ⟨w3.heap.size, 7, none⟩ (.slice ua h.b.length uc)) w.heap.size PV.zero ∧ Below w.heap.size w (w4.setCell ⟨w3.heap.size, 7, none⟩ (.slice ua h.b.length uc)) ∧ OwnBytes w.heap.size (put8 (w4.setCell ⟨w3.heap.size, 7, none⟩ (.slice ua h.b.length uc)) w.heap.size 0 { h with ua := ua, uc := uc }) (.slice ua h.b.length uc) h.b from by
      have hs := B3.out.size
      have hlz := Z3.out.lt
      have hc1 : Chg (fun k => k = w3.heap.size) w4 (w4.setCell ⟨w3.heap.size, 7, none⟩ (.slice ua h.b.length uc)) := (Chg.refl (fun k => k = w3.heap.size) w4).setCell (p := ⟨w3.heap.size, 7, none⟩) (.inl rfl) _
      refine ⟨hc1.heap hbz (by omega), B4.out.trans (hc1.below B4.out.size fun k hk => by omega), ?_⟩
      have ha : (w3.alloc h.obj).heap.size = w3.heap.size + 1 := World.size_alloc _ _
      have h1 := ho4.chg hc1 fun k hk he => by have := (ho4.lt k hk).1; omega
      exact (h1.chg (put8_chg _ w.heap.size 0 { h with ua := ua, uc := uc }) fun k hk he => by have := (ho4.lt k hk).1; omega).base_le (by omega))
    clear hbh hbz ho4 hb4
    have hne1 : w3.heap.size ≠ w.heap.size := by have := Z3.out.lt; omega
    have hne2 : w.heap.size ≠ w3.heap.size := by omega
    go_wp2
    have e : ((((((((w4.setCell ⟨w3.heap.size, 7, none⟩ (.slice ua h.b.length uc)).setCell ⟨w.heap.size, 0, none⟩ (.int .i64 h.f)).setCell ⟨w.heap.size, 1, none⟩ (.int .u64 h.p.r)).setCell ⟨w.heap.size, 2, none⟩ (.int .i64 h.p.n)).setCell ⟨w.heap.size, 3, none⟩ (.int .u64 h.p.i)).setCell ⟨w.heap.size, 4, none⟩ (.int .u64 h.a.r)).setCell ⟨w.heap.size, 5, none⟩ (.int .i64 h.a.n)).setCell ⟨w.heap.size, 6, none⟩ (.int .u64 h.a.i)).setCell ⟨w.heap.size, 7, none⟩ (.slice ua h.b.length uc) = put8 (w4.setCell ⟨w3.heap.size, 7, none⟩ (.slice ua h.b.length uc)) w.heap.size 0 { h with ua := ua, uc := uc } := rfl
    rw [e]
    exact ends_prom (q := { h with ua := ua, uc := uc }) (z := PV.zero) (w3 := w4.setCell ⟨w3.heap.size, 7, none⟩ (.slice ua h.b.length uc)) (c := .bool (decide (0 < (accd l).length))) rfl rfl rfl HFIN.out.1 HFIN.out.2.1 (fun hb => ⟨ua, uc, rfl, HFIN.out.2.2, hb⟩)
end Go.Proofs.Ytomoomeocolkmaa
