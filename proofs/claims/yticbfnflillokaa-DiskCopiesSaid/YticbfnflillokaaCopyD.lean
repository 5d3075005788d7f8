/- Copy. -/
import Derived.Test.YticbfnflillokaaOps9
import Derived.Deep.RegionHeld3
namespace Go.Proofs.Yticbfnflillokaa
open Go.RowKit Go.Maps Go.WideMaps
/-- the copy's block, ahead of its own files and of itself -/
def qcells (m1 b2 : Nat) (v : Value) (d : Dk) : Array Value := #[.map (some m1), .int .i64 (d.synced.total : Nat), .int .i64 (d.cap : Nat), .int .u64 (d.serial : Nat), .bool d.down, .map (some b2), .int .i64 (d.seen.total : Nat), v, .pointer none]
/-- the world behind all of Copy -/
def W8 (w5 : World) (q b1 T : Nat) : World := ((w5.setCell ⟨q, 0, none⟩ (.map (some b1))).setCell ⟨q, 1, none⟩ (.int .i64 (T : Nat))).setCell ⟨q, 8, none⟩ (.pointer (some ⟨q, 0, none⟩))
def Copied (w : World) (I : Nat → Prop) (N : Nat) (d : Dk) (w' : World) (q : Nat) : Prop := ∃ O, DiskAt w' O I q N d ∧ (∀ k, O k → w.heap.size ≤ k) ∧ Below w.heap.size w w'
theorem copied {w w3 w4 w5 : World} {O I : Nat → Prop} {p N : Nat} {d : Dk} {n1 n2 m1 m2 b1 b2 : Nat} {wv v3 : Value} {vs : List (Value × Value)} {S1 S2 T1 T2 : Nat → Prop} (h : DiskP w O I p n1 n2 d m1 m2 wv vs S1 S2) (hok : d.ok) (hn : n1 + d.waits.length ≤ N ∧ n2 ≤ N ∧ d.serial ≤ N + 1)
    (hb3 : Below w.heap.size w w3) (hs2 : ShelfOf w3 T2 b2 n2 d.seen) (hg2 : ∀ k, T2 k → w.heap.size ≤ k) (hv : OwnChs w4 v3 vs) (hgv : ∀ k, v3.ownBlock = some k → w3.heap.size ≤ k) (hb4 : Below w3.heap.size w3 w4)
    (hs1 : ShelfOf w5 T1 b1 n1 d.synced) (hg1 : ∀ k, T1 k → w4.heap.size + 1 ≤ k) (hb5 : Below (w4.heap.size + 1) (w4.alloc (.cells (qcells m1 b2 v3 d) 47)) w5) : Copied w I N d (W8 w5 w4.heap.size b1 d.synced.total) w4.heap.size := by
  have z3 := hb3.size
  have z4 := hb4.size
  have z5 := hb5.size
  rw [World.size_alloc] at z5
  have hA : Chg (fun _ => False) w4 (w4.alloc (.cells (qcells m1 b2 v3 d) 47)) := (Chg.refl _ w4).alloc _
  have hC5 : Chg (fun _ => False) w4 w5 := hA.then (S' := fun _ => False) (Chg.of_below hb5 (by rw [World.size_alloc]; exact Nat.le_refl _)) fun _ h => h.elim
  have hC8 : Chg (fun i => i = w4.heap.size) w5 (W8 w5 w4.heap.size b1 d.synced.total) := (((Chg.refl (fun i => i = w4.heap.size) w5).setCell (p := ⟨w4.heap.size, 0, none⟩) (.inl rfl) _).setCell (p := ⟨w4.heap.size, 1, none⟩) (.inl rfl) _).setCell (p := ⟨w4.heap.size, 8, none⟩) (.inl rfl) _
  have hC48 : Chg (fun i => i = w4.heap.size) w4 (W8 w5 w4.heap.size b1 d.synced.total) := (hC5.mono (S' := fun i => i = w4.heap.size) fun _ h => h.elim).trans hC8
  have hC38 : Chg (fun i => i = w4.heap.size) w3 (W8 w5 w4.heap.size b1 d.synced.total) := Chg.behind hb4 hC48
  have hC08 : Chg (fun i => i = w4.heap.size) w (W8 w5 w4.heap.size b1 d.synced.total) := Chg.behind hb3 hC38
  have hq5 : w5.heap[w4.heap.size]? = some (.cells (qcells m1 b2 v3 d) 47 (0, 0)) := by rw [hb5.block _ (by omega), heap_alloc_new]
  have hbf := Go.Joins.block_setCell (i := 8) (Go.Joins.block_setCell (i := 1) (Go.Joins.block_setCell (i := 0) hq5 (.map (some b1))) (.int .i64 (d.synced.total : Nat))) (.pointer (some ⟨w4.heap.size, 0, none⟩))
  have zf := hC8.size
  have hl1 := hs1.lt
  have hl2 := hs2.lt
  have hlv : ∀ k, v3.ownBlock = some k → k < w4.heap.size := fun k hk => (World.ownsRow.lt hv k hk).2
  refine ⟨fun k => ((T1 k ∨ T2 k) ∨ v3.ownBlock = some k) ∨ k = w4.heap.size, ⟨n1, n2, ⟨b1, b2, v3, vs, T1, T2, ?_⟩, hok, hn⟩, fun k hk => ?_, hC08.below (Nat.le_refl _) fun k hk => by omega⟩
  · exact {
      block := hbf
      one := hs1.chg hC8 fun k hk hS => by have := hg1 k hS; omega
      two := hs2.chg hC38 fun k hk hS => by have := hl2 k hS; omega
      row := hv.chg hC48 fun k hk e => by have := hlv k hk; omega
      len := h.len
      chs := fun j c v hj hv' => (h.chs j c v hj hv').keep (hC08.keep fun k hk hI => by have := h.lt k (.inr hI); omega)
      o1 := fun k hk => .inl (.inl (.inl hk))
      o2 := fun k hk => .inl (.inl (.inr hk))
      ow := fun k hk => .inl (.inr hk)
      op := .inr rfl
      d1 := fun k hk => ⟨fun h2 => by have := hg1 k hk; have := hl2 k h2; omega, fun e => by have := hg1 k hk; have := hlv k e; omega, by have := hg1 k hk; omega⟩
      d2 := fun k hk => ⟨fun e => by have := hl2 k hk; have := hgv k e; omega, by have := hl2 k hk; omega⟩
      dw := fun e => by have := hlv _ e; omega
      di := fun k hk hI => by
        have := h.lt k (.inr hI)
        rcases hk with ((hk | hk) | hk) | hk
        · have := hg1 k hk; omega
        · have := hg2 k hk; omega
        · have := hgv k hk; omega
        · omega
      lt := fun k hk => by
        rcases hk with (((hk | hk) | hk) | hk) | hk
        · have := hl1 k hk; omega
        · have := hl2 k hk; omega
        · have := hlv k hk; omega
        · omega
        · have := h.lt k (.inr hk); omega }
  · rcases hk with ((hk | hk) | hk) | hk
    · have := hg1 k hk; omega
    · exact hg2 k hk
    · have := hgv k hk; omega
    · omega
set_option maxRecDepth 100000 in
theorem copy_no (q : Option Addr) (w : World) (h : NotMade w q) : Calls Try.prog 13 #[.pointer q] w fun e w' => e = .returned (.pointer none) ∧ w = w' := by
  have HM := Lib.hid (isMade_no q w h)
  clear h
  go_enter Try.func13, Try.ntmps13
  go_wp2_with (go_at_call 35; refine HM.out.mono ?_; rintro e w1 ⟨rfl, rfl⟩)
  go_ret
  exact ⟨rfl, rfl⟩
set_option maxRecDepth 100000 in
set_option maxHeartbeats 2000000 in
theorem copy_any {w : World} {O I : Nat → Prop} {p N : Nat} {d : Dk} (h : DiskAt w O I p N d) (hN : N ≤ 400000) :
    Calls Try.prog 13 #[.pointer (some ⟨p, 0, none⟩)] w fun e w' => ∃ q, e = .returned (.pointer (some ⟨q, 0, none⟩)) ∧ Copied w I N d w' q := by
  obtain ⟨n1, n2, ⟨m1, m2, wv, vs, S1, S2, hP⟩, hok, hn⟩ := h
  obtain ⟨wa, wc, rfl⟩ := hP.row.form
  have HM := Lib.hid (isMade_yes p w hP.raw.c8)
  have hcap := hok.cap
  have htot := hok.total
  have htot0 := hok.total0
  have hP3 : ∀ W, Below w.heap.size w W → DiskP W O I p n1 n2 d m1 m2 (.slice wa vs.length wc) vs S1 S2 := fun W hb => hP.chg (Chg.of_below (S := fun _ => False) hb (Nat.le_refl _)) fun _ h => h.elim
  have HC36 : Hid (∀ W, Below w.heap.size w W → Calls Try.prog 36 #[.pointer (some ⟨p, 5, none⟩)] W fun e w' => ∃ b' S', e = .returned (.agg #[.map (some b'), .int .i64 (d.seen.total : Nat)]) ∧ ShelfOf w' S' b' n2 d.seen ∧ (∀ k, S' k → W.heap.size ≤ k) ∧ Below W.heap.size W w') := fun W hb =>
    clone_sh p 5 m2 n2 S2 d.seen W ⟨_, 47, (hP3 W hb).block, rfl, rfl⟩ (hP3 W hb).two (by omega) (by omega)
  have HC36b : Hid (∀ W, Below w.heap.size w W → Calls Try.prog 36 #[.pointer (some ⟨p, 0, none⟩)] W fun e w' => ∃ b' S', e = .returned (.agg #[.map (some b'), .int .i64 (d.synced.total : Nat)]) ∧ ShelfOf w' S' b' n1 d.synced ∧ (∀ k, S' k → W.heap.size ≤ k) ∧ Below W.heap.size W w') := fun W hb =>
    clone_sh p 0 m1 n1 S1 d.synced W ⟨_, 47, (hP3 W hb).block, rfl, rfl⟩ (hP3 W hb).one (by omega) (by omega)
  have HC37 : Hid (∀ W, Below w.heap.size w W → Calls Try.prog 37 #[.slice wa vs.length wc] W (GivesChs W vs)) := fun W hb => chclone_any _ vs W (hP3 W hb).row hP.oneCells (by have := hP.len; omega)
  have HS : Hid (∀ W, Below w.heap.size w W → (W.cell? ⟨p, 0, none⟩ = some (.map (some m1)) ∧ W.cell? ⟨p, 1, none⟩ = some (.int .i64 (d.synced.total : Nat)) ∧ W.cell? ⟨p, 2, none⟩ = some (.int .i64 (d.cap : Nat))) ∧ W.cell? ⟨p, 3, none⟩ = some (.int .u64 (d.serial : Nat)) ∧ W.cell? ⟨p, 4, none⟩ = some (.bool d.down) ∧ W.cell? ⟨p, 7, none⟩ = some (.slice wa vs.length wc)) := fun W hb => by
    have hb := (hP3 W hb).block
    refine ⟨⟨?_, ?_, ?_⟩, ?_, ?_, ?_⟩ <;> rw [Go.Joins.cell_of_block hb] <;> rfl
  have HFIN : Hid (∀ w3 w4 w5 b1 b2 v3 T1 T2, Below w.heap.size w w3 → ShelfOf w3 T2 b2 n2 d.seen → (∀ k, T2 k → w.heap.size ≤ k) → OwnChs w4 v3 vs → (∀ k, v3.ownBlock = some k → w3.heap.size ≤ k) → Below w3.heap.size w3 w4 →
      ShelfOf w5 T1 b1 n1 d.synced → (∀ k, T1 k → w4.heap.size + 1 ≤ k) → Below (w4.heap.size + 1) (w4.alloc (.cells (qcells m1 b2 v3 d) 47)) w5 → Copied w I N d (W8 w5 w4.heap.size b1 d.synced.total) w4.heap.size) :=
    fun w3 w4 w5 b1 b2 v3 T1 T2 a1 a2 a3 a4 a5 a6 a7 a8 a9 => copied hP hok hn a1 a2 a3 a4 a5 a6 a7 a8 a9
  have HB0 : Hid (Below w.heap.size w w.drew) := (Below.refl _ _).drew
  have c0 := (HS.out w (Below.refl _ _))
  obtain ⟨L, hL⟩ : ∃ L, vs.length = L := ⟨_, rfl⟩
  rw [hL] at HC37 HS c0
  clear hP hP3 hn hcap htot htot0 hok hL
  obtain ⟨⟨c0, c1, c2⟩, c3, c4, c7⟩ := c0
  go_enter Try.func13, Try.ntmps13
  go_wp2_with (go_at_call 35; refine HM.out.mono ?_; rintro e w1 ⟨rfl, rfl⟩)
  go_region_held3 (fun W => (W.cell? ⟨p, 0, none⟩ = some (.map (some m1)) ∧ W.cell? ⟨p, 1, none⟩ = some (.int .i64 (d.synced.total : Nat)) ∧ W.cell? ⟨p, 2, none⟩ = some (.int .i64 (d.cap : Nat))) ∧ W.cell? ⟨p, 3, none⟩ = some (.int .u64 (d.serial : Nat)) ∧ W.cell? ⟨p, 4, none⟩ = some (.bool d.down) ∧ W.cell? ⟨p, 7, none⟩ = some (.slice wa L wc)) ((refine HS.out _ ?_; first | exact Below.refl _ _ | exact HB0.out | exact HB3.out | exact HB4.out | exact HB4.out.alloc HB4.out.size _))
    (first | (go_at_call 36; refine (HC36.out _ HB0.out).mono ?_; rintro e w3 ⟨b2, T2, rfl, hs2, hg2, hb3⟩; have HB3 : Hid (Below w.heap.size w w3) := HB0.out.trans hb3; have H36 := Lib.hid (And.intro hs2 hg2); clear hs2 hg2 hb3) | (go_at_call 37; refine (HC37.out _ HB3.out).mono ?_; rintro e w4 ⟨v3, rfl, ho4, hg4, hb4⟩; have HB4 : Hid (Below w.heap.size w w4) := HB3.out.trans (hb4.mono HB3.out.size); have H37 := Lib.hid (And.intro ho4 (And.intro hg4 hb4)); obtain ⟨a4, z4, rfl⟩ := ho4.form; clear ho4 hg4 hb4))
  clear c0 c1 c2 c3 c4 c7 HS
  go_wp2_with fail
  refine (HC36b.out _ (HB4.out.alloc HB4.out.size _)).mono ?_
  rintro e w5 ⟨b1, T1, rfl, hs1, hg1, hb5⟩
  rw [World.size_alloc] at hg1 hb5
  have hq5 : w5.heap[w4.heap.size]? = some (.cells (qcells m1 b2 (.slice a4 vs.length z4) d) 47 (0, 0)) := by rw [hb5.block _ (by omega)]; exact heap_alloc_new w4 _
  have HF := Lib.hid (HFIN.out w3 w4 w5 b1 b2 (.slice a4 vs.length z4) T1 T2 HB3.out H36.out.1 H36.out.2 H37.out.1 H37.out.2.1 H37.out.2.2 hs1 hg1 hb5)
  have q0 : w5.cell? ⟨w4.heap.size, 0, none⟩ = some (.map (some m1)) := by rw [Go.Joins.cell_of_block hq5]; rfl
  have q1 : w5.cell? ⟨w4.heap.size, 1, none⟩ = some (.int .i64 (d.synced.total : Nat)) := by rw [Go.Joins.cell_of_block hq5]; rfl
  have q8 : w5.cell? ⟨w4.heap.size, 8, none⟩ = some (.pointer none) := by rw [Go.Joins.cell_of_block hq5]; rfl
  have qf : ∀ i, w5.frozen? ⟨w4.heap.size, i, none⟩ = false := fun i => by simp [World.frozen?, hq5]
  clear hs1 hg1 hb5 hq5 HFIN
  go_wp2
  go_ret
  exact ⟨_, rfl, HF.out⟩
end Go.Proofs.Yticbfnflillokaa
