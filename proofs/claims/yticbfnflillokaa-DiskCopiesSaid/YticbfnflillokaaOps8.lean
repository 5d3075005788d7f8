/- New, Wipe, slices.Clone of what waits, Copy. -/
import Derived.Test.YticbfnflillokaaOps7
namespace Go.Proofs.Yticbfnflillokaa
open Go.RowKit Go.Maps Go.WideMaps
def Dk.new (cap : Nat) : Dk := ⟨[], [], [], cap, 1, false⟩
theorem Dk.ok_new {cap : Nat} (h : cap ≤ 65536) : (Dk.new cap).ok := ⟨Fs.ok_nil, rfl, fun i _ => by rw [show (Dk.new cap).waits.take i = [] by simp [Dk.new]]; exact Nat.zero_le _, h⟩
/-- a disk of the call's own -/
def Fresh (w : World) (N : Nat) (d : Dk) (w' : World) (p : Nat) : Prop := ∃ O I, DiskAt w' O I p N d ∧ (∀ k, O k ∨ I k → w.heap.size ≤ k) ∧ Below w.heap.size w w'
set_option maxRecDepth 100000 in
theorem new_bad (c : Int) (w : World) (hc : c < 0 ∨ 65536 < c) : Calls Try.prog 11 #[.int .i64 c] w fun e w' => e = .returned (.tuple #[.pointer none, .int .i64 1]) ∧ w = w' := by
  rcases hc with hc | hc
  · go_enter Try.func11, Try.ntmps11
    go_wp2
    go_ret2
    exact ⟨rfl, rfl⟩
  · go_enter Try.func11, Try.ntmps11
    go_wp2
    go_ret2
    exact ⟨rfl, rfl⟩
theorem fresh_of {w w1 w2 : World} {b1 b2 : Nat} {d : Dk} (hb1 : Below w.heap.size w w1) (h1 : w1.heap[b1]? = some (.map #[] 0)) (hg1 : w.heap.size ≤ b1) (hb2 : Below w1.heap.size w1 w2) (h2 : w2.heap[b2]? = some (.map #[] 0)) (hg2 : w1.heap.size ≤ b2) (hd : d = Dk.new d.cap) (hc : d.cap ≤ 65536) :
    Fresh w 0 d (w2.alloc (.cells (dcells w2.heap.size b1 b2 (.slice none 0 0) d) 47)) w2.heap.size := by
  have hs1 := hb1.size
  have hs2 := hb2.size
  have hl1 := lt_of_block h1
  have hl2 := lt_of_block h2
  have e1 : d.synced = [] := by rw [hd]; rfl
  have e2 : d.seen = [] := by rw [hd]; rfl
  have e3 : d.waits = [] := by rw [hd]; rfl
  have e4 : d.serial = 1 := by rw [hd]; rfl
  have h1' : w2.heap[b1]? = some (.map #[] 0) := by rw [hb2.block b1 hl1]; exact h1
  have hA : Chg (fun _ => False) w2 (w2.alloc (.cells (dcells w2.heap.size b1 b2 (.slice none 0 0) d) 47)) := (Chg.refl _ w2).alloc _
  have hsz : (w2.alloc (.cells (dcells w2.heap.size b1 b2 (.slice none 0 0) d) 47)).heap.size = w2.heap.size + 1 := World.size_alloc _ _
  refine ⟨fun k => (k = b1 ∨ k = b2) ∨ k = w2.heap.size, fun _ => False, ⟨0, 0, ⟨b1, b2, .slice none 0 0, [], fun k => k = b1, fun k => k = b2, ?_⟩, by rw [hd]; exact Dk.ok_new hc, by rw [e3]; exact Nat.le_refl 0, Nat.le_refl _, by rw [e4]; exact Nat.le_refl 1⟩, fun k hk => ?_, (hb1.trans (hb2.mono hs1)).alloc (by omega) _⟩
  · exact {
      block := heap_alloc_new _ _
      one := by rw [e1]; exact (ShelfOf.empty h1').chg hA fun _ h => h.elim
      two := by rw [e2]; exact (ShelfOf.empty h2).chg hA fun _ h => h.elim
      row := World.ownsRow_nil _ _ _ _
      len := by rw [e3]; rfl
      chs := fun j c v hj _ => by rw [e3] at hj; simp at hj
      o1 := fun k hk => .inl (.inl hk)
      o2 := fun k hk => .inl (.inr hk)
      ow := fun k hk => by simp [Value.ownBlock] at hk
      op := .inr rfl
      d1 := fun k hk => ⟨fun h => by omega, by simp [Value.ownBlock], by omega⟩
      d2 := fun k hk => ⟨by simp [Value.ownBlock], by omega⟩
      dw := by simp [Value.ownBlock]
      di := fun _ _ h => h
      lt := fun k hk => by
        rcases hk with (hk | hk) | hk
        · omega
        · omega
        · exact hk.elim }
  · rcases hk with ((hk | hk) | hk) | hk
    · omega
    · omega
    · omega
    · exact hk.elim
set_option maxRecDepth 100000 in
theorem new_any (c : Nat) (w : World) (hc : c ≤ 65536) : Calls Try.prog 11 #[.int .i64 (c : Nat)] w fun e w' => ∃ p, e = .returned (.tuple #[.pointer (some ⟨p, 0, none⟩), .int .i64 0]) ∧ Fresh w 0 (Dk.new c) w' p := by
  go_enter Try.func11, Try.ntmps11
  go_wp2_with fail
  all_goals try omega
  refine (emptyShelf_any w).mono ?_
  rintro e w1 ⟨b1, rfl, _, hg1, hm1, hb1⟩
  have H1 := Lib.hid (And.intro hb1 (And.intro hm1 hg1))
  clear hb1 hm1 hg1
  go_wp2_with fail
  refine (emptyShelf_any w1).mono ?_
  rintro e w2 ⟨b2, rfl, _, hg2, hm2, hb2⟩
  have HF : Hid (Fresh w 0 (Dk.new c) (w2.alloc (.cells (dcells w2.heap.size b1 b2 (.slice none 0 0) (Dk.new c)) 47)) w2.heap.size) := fresh_of H1.out.1 H1.out.2.1 H1.out.2.2 hb2 hm2 hg2 rfl hc
  clear hb2 hm2 hg2 H1
  go_wp2
  go_ret2
  exact ⟨_, rfl, HF.out⟩
def Dk.wipe (d : Dk) : Dk := { d with synced := [], seen := [], waits := [], serial := d.serial + 1 }
/-- Wipe's last steps -/
def W6 (w2 : World) (p b1 b2 s : Nat) : World := (((((w2.setCell ⟨p, 0, none⟩ (.map (some b1))).setCell ⟨p, 1, none⟩ (.int .i64 0)).setCell ⟨p, 5, none⟩ (.map (some b2))).setCell ⟨p, 6, none⟩ (.int .i64 0)).setCell ⟨p, 7, none⟩ (.slice none 0 0)).setCell ⟨p, 3, none⟩ (.int .u64 (s : Nat))
theorem wiped {w w1 w2 : World} {O I : Nat → Prop} {p N : Nat} {d : Dk} (h : DiskAt w O I p N d) {b1 b2 : Nat} (hb1 : Below w.heap.size w w1) (h1 : w1.heap[b1]? = some (.map #[] 0)) (hg1 : w.heap.size ≤ b1) (hb2 : Below w1.heap.size w1 w2) (h2 : w2.heap[b2]? = some (.map #[] 0)) (hg2 : w1.heap.size ≤ b2) :
    ∃ O', DiskAt (W6 w2 p b1 b2 (d.serial + 1)) O' I p (N + 1) d.wipe ∧ Step w O I (W6 w2 p b1 b2 (d.serial + 1)) O' I := by
  obtain ⟨n1, n2, ⟨m1, m2, wv, vs, S1, S2, hP⟩, hok, hn1, hn2, hser⟩ := h
  have hs1 := hb1.size
  have hs2 := hb2.size
  have hl1 := lt_of_block h1
  have hl2 := lt_of_block h2
  have hpl := hP.lt p (.inl hP.op)
  have h1' : w2.heap[b1]? = some (.map #[] 0) := by rw [hb2.block b1 hl1]; exact h1
  have hbl : w2.heap[p]? = some (.cells (dcells p m1 m2 wv d) 47 (0, 0)) := by rw [hb2.block p (by omega), hb1.block p hpl]; exact hP.block
  have hc : Chg (fun i => i = p) w2 (W6 w2 p b1 b2 (d.serial + 1)) := ((((((Chg.refl (fun i => i = p) w2).setCell (p := ⟨p, 0, none⟩) (.inl rfl) _).setCell (p := ⟨p, 1, none⟩) (.inl rfl) _).setCell (p := ⟨p, 5, none⟩) (.inl rfl) _).setCell (p := ⟨p, 6, none⟩) (.inl rfl) _).setCell (p := ⟨p, 7, none⟩) (.inl rfl) _).setCell (p := ⟨p, 3, none⟩) (.inl rfl) _
  have hc0 : Chg (fun i => i = p) w (W6 w2 p b1 b2 (d.serial + 1)) := Chg.behind (hb1.trans (hb2.mono hs1)) hc
  have hbf := Go.Joins.block_setCell (i := 3) (Go.Joins.block_setCell (i := 7) (Go.Joins.block_setCell (i := 6) (Go.Joins.block_setCell (i := 5) (Go.Joins.block_setCell (i := 1) (Go.Joins.block_setCell (i := 0) hbl (.map (some b1))) (.int .i64 0)) (.map (some b2))) (.int .i64 0)) (.slice none 0 0)) (.int .u64 (d.serial + 1 : Nat))
  have hsz := hc.size
  refine ⟨fun k => O k ∨ k = b1 ∨ k = b2, ⟨0, 0, ⟨b1, b2, .slice none 0 0, [], fun k => k = b1, fun k => k = b2, ?_⟩, ⟨Fs.ok_nil, rfl, fun i _ => by rw [show d.wipe.waits.take i = [] by simp [Dk.wipe]]; exact Nat.zero_le _, hok.cap⟩, Nat.zero_le _, Nat.zero_le _, by show d.serial + 1 ≤ N + 1 + 1; omega⟩, hc0.mono fun k hk => .inl (by rw [hk]; exact hP.op), fun k hk => by
    rcases hk with hk | hk | hk
    · exact .inl hk
    · exact .inr (by omega)
    · exact .inr (by omega), fun _ h => .inl h⟩
  exact {
    block := hbf
    one := (ShelfOf.empty h1').chg hc fun k hk hS => by omega
    two := (ShelfOf.empty h2).chg hc fun k hk hS => by omega
    row := World.ownsRow_nil _ _ _ _
    len := rfl
    chs := fun j c v hj _ => by simp [Dk.wipe] at hj
    o1 := fun k hk => .inr (.inl hk)
    o2 := fun k hk => .inr (.inr hk)
    ow := fun k hk => by simp [Value.ownBlock] at hk
    op := .inl hP.op
    d1 := fun k hk => ⟨fun h => by omega, by simp [Value.ownBlock], by omega⟩
    d2 := fun k hk => ⟨by simp [Value.ownBlock], by omega⟩
    dw := by simp [Value.ownBlock]
    di := fun k hk hI => by
      have := hP.lt k (.inr hI)
      rcases hk with hk | hk | hk
      · exact hP.di k hk hI
      · omega
      · omega
    lt := fun k hk => by
      rcases hk with (hk | hk | hk) | hk
      · have := hP.lt k (.inl hk); omega
      · omega
      · omega
      · have := hP.lt k (.inr hk); omega }
set_option maxRecDepth 100000 in
theorem wipe_any {w : World} {O I : Nat → Prop} {p N : Nat} {d : Dk} (h : DiskAt w O I p N d) (hN : N ≤ 400000) :
    Calls Try.prog 15 #[.pointer (some ⟨p, 0, none⟩)] w fun e w' => e = .returned (.tuple #[]) ∧ ∃ O' I', DiskAt w' O' I' p (N + 1) d.wipe ∧ Step w O I w' O' I' := by
  obtain ⟨n1, n2, hr⟩ := h.raw
  have HM := Lib.hid (isMade_yes p w hr.c8)
  have hser : d.serial ≤ N + 1 := by obtain ⟨_, _, _, _, _, _, h⟩ := h; exact h
  have HW : Hid (∀ w1 w2 b1 b2, Below w.heap.size w w1 → w1.heap[b1]? = some (.map #[] 0) → w.heap.size ≤ b1 → Below w1.heap.size w1 w2 → w2.heap[b2]? = some (.map #[] 0) → w1.heap.size ≤ b2 → ∃ O', DiskAt (W6 w2 p b1 b2 (d.serial + 1)) O' I p (N + 1) d.wipe ∧ Step w O I (W6 w2 p b1 b2 (d.serial + 1)) O' I) := fun w1 w2 b1 b2 h1 h2 h3 h4 h5 h6 => wiped h h1 h2 h3 h4 h5 h6
  have HC : Hid (∀ w2, Below w.heap.size w w2 → ∃ m1 m2 wv, w2.heap[p]? = some (.cells (dcells p m1 m2 wv d) 47 (0, 0))) := fun w2 hb => DiskP.block' (hr.below hb (Nat.le_refl _))
  clear hr h
  go_enter Try.func15, Try.ntmps15
  go_wp2_with (go_at_call 35; refine HM.out.mono ?_; rintro e w1 ⟨rfl, rfl⟩)
  refine (emptyShelf_any w).mono ?_
  rintro e w1 ⟨b1, rfl, _, hg1, hm1, hb1⟩
  have H1 := Lib.hid (And.intro hb1 (And.intro hm1 hg1))
  clear hb1 hm1 hg1
  go_wp2_with fail
  refine (emptyShelf_any w1).mono ?_
  rintro e w2 ⟨b2, rfl, _, hg2, hm2, hb2⟩
  have HF := Lib.hid (HW.out w1 w2 b1 b2 H1.out.1 H1.out.2.1 H1.out.2.2 hb2 hm2 hg2)
  obtain ⟨m1, m2, wv, hblk⟩ := HC.out w2 (H1.out.1.trans (hb2.mono H1.out.1.size))
  have q0 : w2.cell? ⟨p, 0, none⟩ = some (.map (some m1)) := by rw [Go.Joins.cell_of_block hblk]; rfl
  have q1 : w2.cell? ⟨p, 1, none⟩ = some (.int .i64 (d.synced.total : Nat)) := by rw [Go.Joins.cell_of_block hblk]; rfl
  have q3 : w2.cell? ⟨p, 3, none⟩ = some (.int .u64 (d.serial : Nat)) := by rw [Go.Joins.cell_of_block hblk]; rfl
  have q5 : w2.cell? ⟨p, 5, none⟩ = some (.map (some m2)) := by rw [Go.Joins.cell_of_block hblk]; rfl
  have q6 : w2.cell? ⟨p, 6, none⟩ = some (.int .i64 (d.seen.total : Nat)) := by rw [Go.Joins.cell_of_block hblk]; rfl
  have q7 : w2.cell? ⟨p, 7, none⟩ = some wv := by rw [Go.Joins.cell_of_block hblk]; rfl
  have qf : ∀ i, w2.frozen? ⟨p, i, none⟩ = false := fun i => by simp [World.frozen?, hblk]
  clear hblk hb2 hm2 hg2 H1
  obtain ⟨s, hs⟩ : ∃ s, d.serial = s := ⟨_, rfl⟩
  rw [hs] at q3 HF hser
  clear hs
  go_wp2
  obtain ⟨O', hd, hst⟩ := HF.out
  exact bodyPost_end (results_none rfl _ _ _) rfl ⟨rfl, O', I, hd, hst⟩
end Go.Proofs.Yticbfnflillokaa
