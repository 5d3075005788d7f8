/- The document's disk: New, Start, Wipe, Sync, Read. -/
import Derived.Test.YticbfnflillokaaRow7
namespace Go.Proofs.Yticbfnflillokaa
open Go.RowKit
/-- what a call of the document's disk leaves -/
def RDoes (w : World) (R : Bks) (q N : Nat) (d : Dk) (w' : World) : Prop := ∃ R', RefAt w' R' q N d ∧ (∀ k, R' k → R k ∨ w.heap.size ≤ k) ∧ Chg (fun k => k = q) w w'
theorem RDoes.still {w w' : World} {R : Bks} {q N N' : Nat} {d : Dk} (h : RefAt w R q N d) (hN : N ≤ N') (hb : Below w.heap.size w w') : RDoes w R q N' d w' :=
  ⟨R, (h.below hb).mono hN, fun _ h => .inl h, Chg.of_below hb (Nat.le_refl _)⟩
def dCells (d : Dk) (la wa : Option Addr) (L lc K wc : Nat) : Array Value := #[.slice la L lc, .slice wa K wc, .int .i64 (d.cap : Nat), .int .u64 (d.serial : Nat), .bool d.down]
theorem RefP.turn {w W W' : World} {R : Bks} {q N' : Nat} {d d' : Dk} {la wa la' wa' : Option Addr} {lc wc lc' wc' : Nat} {vs vs' : List FV} {cs cs' : List CV} (h : RefP w R q d la wa lc wc vs cs) (hb : Below w.heap.size w W) (hc : Chg (fun k => k = q) W W')
    (hblk : W'.heap[q]? = some (.cells (dCells d' la' wa' vs'.length lc' cs'.length wc') 68 (0, 0))) (hl : FilesIn (fun k => R k ∨ w.heap.size ≤ k) W (.slice la' vs'.length lc') vs') (hf : fsOf vs' = d'.synced) (hw : ChsIn (fun k => R k ∨ w.heap.size ≤ k) W (.slice wa' cs'.length wc') cs') (hcs : cs'.map CV.ch = d'.waits)
    (hok : d'.ok) (hN : d'.synced.length + d'.waits.length ≤ N') (hs : d'.serial ≤ N' + 1) : RDoes w R q N' d' W' := by
  have hq := lt_of_block h.block
  have hqR : ∀ k, (R k ∨ w.heap.size ≤ k) → k ≠ q := fun k hk e => by
    subst e
    rcases hk with hk | hk
    · exact h.qR hk
    · omega
  have hkeep : Keep (fun k => k ≠ q) W W' := hc.keep fun k hk hn => hn hk
  refine ⟨fun k => (R k ∨ w.heap.size ≤ k) ∧ k < W'.heap.size, ⟨hok, hN, hs, la', wa', lc', wc', vs', cs', { block := hblk, last := (hl.keep hkeep hqR).wide fun k hk h => ⟨h, hk⟩, lastIs := hf, waits := (hw.keep hkeep hqR).wide fun k hk h => ⟨h, hk⟩, waitsAre := hcs, qR := fun hx => hqR q hx.1 rfl, lt := fun k hk => hk.2 }⟩, fun k hk => hk.1, (Chg.of_below hb (Nat.le_refl _)).trans hc⟩
theorem chg1 (q i : Nat) (v : Value) (w : World) : Chg (fun k => k = q) w (w.setCell ⟨q, i, none⟩ v) := (Chg.refl (fun k => k = q) w).setCell (p := ⟨q, i, none⟩) (.inl rfl) v
theorem Dk.ok.wiped {d : Dk} (h : d.ok) : d.wipe.ok := ⟨Fs.ok_nil, rfl, fun i _ => by rw [show d.wipe.waits.take i = [] by simp [Dk.wipe]]; exact Nat.zero_le _, h.cap⟩
set_option maxRecDepth 100000 in
theorem rnew_bad (c : Int) (w : World) (hc : c < 0 ∨ 65536 < c) : Calls Try.prog 12 #[.int .i64 c] w fun e w' => e = .returned (.pointer none) ∧ w = w' := by
  go_enter Try.func12, Try.ntmps12
  go_wp2
  all_goals (first | omega | (go_ret; exact ⟨rfl, rfl⟩))
set_option maxRecDepth 100000 in
theorem rnew_any (c : Nat) (w : World) (hc : c ≤ 65536) : Calls Try.prog 12 #[.int .i64 (c : Nat)] w fun e w' => ∃ q, e = .returned (.pointer (some ⟨q, 0, none⟩)) ∧ RefAt w' (fun _ => False) q 0 (Dk.new c) ∧ w.heap.size ≤ q ∧ Below w.heap.size w w' := by
  have h1 : ¬ ((c : Int) < 0) := by omega
  have h2 : ¬ (65536 < (c : Int)) := by omega
  have HF : Hid (RefAt (w.alloc (.cells #[.slice none 0 0, .slice none 0 0, .int .i64 (c : Nat), .int .u64 1, .bool false] 68)) (fun _ => False) w.heap.size 0 (Dk.new c) ∧ w.heap.size ≤ w.heap.size ∧ Below w.heap.size w (w.alloc (.cells #[.slice none 0 0, .slice none 0 0, .int .i64 (c : Nat), .int .u64 1, .bool false] 68))) :=
    ⟨⟨Dk.ok_new hc, Nat.le_refl _, Nat.le_refl _, none, none, 0, 0, [], [], { block := heap_alloc_new _ _, last := FilesIn.nil _ _, lastIs := rfl, waits := ChsIn.nil _ _, waitsAre := rfl, qR := id, lt := fun _ h => h.elim }⟩, Nat.le_refl _, Go.Joins.below_alloc1 w _⟩
  clear hc
  go_enter Try.func12, Try.ntmps12
  go_wp2
  go_ret
  exact ⟨_, rfl, HF.out⟩
set_option maxRecDepth 100000 in
theorem rstart_any {w : World} {R : Bks} {q N : Nat} {d : Dk} (h : RefAt w R q N d) : Calls Try.prog 51 #[.pointer (some ⟨q, 0, none⟩)] w fun e w' => e = .returned (.int .i64 d.start.1) ∧ RDoes w R q (N + 1) d.start.2 w' := by
  have hA := h
  obtain ⟨hok, hlen, hs, la, wa, lc, wc, vs, cs, h⟩ := h
  have c4 := h.c4
  have f4 := h.fz 4
  unfold Dk.start
  cases hd : d.down
  · rw [hd] at c4
    have HR : Hid (RDoes w R q (N + 1) d w) := RDoes.still hA (Nat.le_succ N) (Below.refl _ _)
    clear hA h hok hlen hs
    go_enter Try.func51, Try.ntmps51
    go_wp2
    go_ret
    exact ⟨rfl, HR.out⟩
  · rw [hd] at c4
    have HR : Hid (RDoes w R q (N + 1) { d with down := false } (w.setCell ⟨q, 4, none⟩ (.bool false))) :=
      h.turn (d' := { d with down := false }) (Below.refl _ _) (chg1 _ _ _ _) (Go.Joins.block_setCell h.block _) (h.last.wide fun k _ hk => .inl hk) h.lastIs (h.waits.wide fun k _ hk => .inl hk) h.waitsAre (hok.downs false) (Nat.le_succ_of_le hlen) (Nat.le_succ_of_le hs)
    clear hA h hok hlen hs
    go_enter Try.func51, Try.ntmps51
    go_wp2
    go_ret
    exact ⟨rfl, HR.out⟩
set_option maxRecDepth 100000 in
theorem rwipe_any {w : World} {R : Bks} {q N : Nat} {d : Dk} (h : RefAt w R q N d) (hN : N ≤ 400000) : Calls Try.prog 52 #[.pointer (some ⟨q, 0, none⟩)] w fun e w' => e = .returned (.tuple #[]) ∧ RDoes w R q (N + 1) d.wipe w' := by
  obtain ⟨hok, hlen, hs, la, wa, lc, wc, vs, cs, h⟩ := h
  have c0 := h.c0
  have c1 := h.c1
  have c3 := h.c3
  have f0 := h.fz 0
  have f1 := h.fz 1
  have f3 := h.fz 3
  have hsm : d.serial ≤ 400001 := by omega
  obtain ⟨s, hse⟩ : ∃ s, d.serial = s := ⟨_, rfl⟩
  have HR : Hid (RDoes w R q (N + 1) d.wipe (((w.setCell ⟨q, 0, none⟩ (.slice none 0 0)).setCell ⟨q, 1, none⟩ (.slice none 0 0)).setCell ⟨q, 3, none⟩ (.int .u64 ((s : Int) + 1)))) :=
    h.turn (d' := d.wipe) (vs' := []) (cs' := []) (la' := none) (wa' := none) (lc' := 0) (wc' := 0) (Below.refl _ _) (((chg1 _ _ _ _).trans (chg1 _ _ _ _)).trans (chg1 _ _ _ _)) (by
      have := Go.Joins.block_setCell (Go.Joins.block_setCell (Go.Joins.block_setCell h.block (i := 0) (.slice none 0 0)) (i := 1) (.slice none 0 0)) (i := 3) (.int .u64 ((s : Int) + 1))
      rw [this, ← hse]
      rfl) (FilesIn.nil _ _) rfl (ChsIn.nil _ _) rfl hok.wiped (Nat.zero_le _) (by show d.serial + 1 ≤ _; omega)
  rw [hse] at c3 hsm
  clear h hok hlen hs hse
  go_enter Try.func52, Try.ntmps52
  go_wp2
  all_goals exact bodyPost_end (results_none rfl _ _ _) rfl ⟨rfl, HR.out⟩
set_option maxRecDepth 100000 in
theorem rsync_any {w : World} {R : Bks} {q N : Nat} {d : Dk} (h : RefAt w R q N d) (hN : N ≤ 400000) : Calls Try.prog 48 #[.pointer (some ⟨q, 0, none⟩)] w fun e w' => e = .returned (.int .i64 d.sync.1) ∧ RDoes w R q (N + 1) d.sync.2 w' := by
  have hA := h
  have HSEEN := Lib.hid (seen_any h hN (fun k => R k ∨ w.heap.size ≤ k) (fun k hk => .inl hk) fun k hk => .inr hk)
  obtain ⟨hok, hlen, hs, la, wa, lc, wc, vs, cs, h⟩ := h
  have c4 := h.c4
  unfold Dk.sync
  cases hd : d.down
  · rw [hd] at c4
    have hsl : d.seen.length ≤ N := by rw [hok.sees]; have := doAll_length d.waits d.synced; omega
    have HR : Hid (∀ W us a c, Below w.heap.size w W → FilesIn (fun k => R k ∨ w.heap.size ≤ k) W (.slice a us.length c) us → fsOf us = d.seen → RDoes w R q (N + 1) { d with synced := d.seen, waits := [] } ((W.setCell ⟨q, 0, none⟩ (.slice a us.length c)).setCell ⟨q, 1, none⟩ (.slice none 0 0))) := fun W us a c hb hf hF =>
      h.turn (d' := { d with synced := d.seen, waits := [] }) (vs' := us) (cs' := []) (la' := a) (wa' := none) (lc' := c) (wc' := 0) hb ((chg1 _ _ _ _).trans (chg1 _ _ _ _)) (by
        have := Go.Joins.block_setCell (Go.Joins.block_setCell (h.below hb).block (i := 0) (.slice a us.length c)) (i := 1) (.slice none 0 0)
        rw [this]; rfl) hf hF (ChsIn.nil _ _) rfl hok.synced (by simp; omega) (by show d.serial ≤ _; omega)
    have HC : Hid (∀ W, Below w.heap.size w W → (W.cell? ⟨q, 0, none⟩ = some (.slice la vs.length lc) ∧ W.frozen? ⟨q, 0, none⟩ = false) ∧ W.cell? ⟨q, 1, none⟩ = some (.slice wa cs.length wc) ∧ W.frozen? ⟨q, 1, none⟩ = false) := fun W hb => by
      have := h.below hb
      exact ⟨⟨this.c0, this.fz 0⟩, this.c1, this.fz 1⟩
    have HHD := Lib.hid hd
    clear hA h hok hlen hs hsl
    go_enter Try.func48, Try.ntmps48
    go_wp2_with fail
    refine HSEEN.out.mono ?_
    rintro e w2 ⟨us, ua, uc, rfl, hf, hF, hb⟩
    obtain ⟨⟨c0, f0⟩, c1, f1⟩ := HC.out w2 hb
    have HR2 := Lib.hid (HR.out w2 us ua uc hb hf hF)
    obtain ⟨UL, hUL⟩ : ∃ UL, us.length = UL := ⟨_, rfl⟩
    rw [hUL] at HR2 ⊢
    clear hf hF hb hUL HR c4
    go_wp2
    go_ret
    have h2 := HR2.out
    rw [HHD.out] at h2
    exact ⟨rfl, h2⟩
  · rw [hd] at c4
    have HR : Hid (RDoes w R q (N + 1) d w) := RDoes.still hA (Nat.le_succ N) (Below.refl _ _)
    clear hA h hok hlen hs
    go_enter Try.func48, Try.ntmps48
    go_wp2
    go_ret
    exact ⟨rfl, HR.out⟩
/-- what Read tells -/
def RReads (w : World) (d : Dk) (k : Bs) (e : Ending) (w' : World) : Prop := ∃ a c, e = .returned (.tuple #[.slice a (if lack d k [] = 0 then (d.seen.get k).getD [] else []).length c, .int .i64 (lack d k [])]) ∧ BytesAt w' (.slice a (if lack d k [] = 0 then (d.seen.get k).getD [] else []).length c) (if lack d k [] = 0 then (d.seen.get k).getD [] else []) ∧ Below w.heap.size w w'
set_option maxRecDepth 100000 in
theorem rread_any {w : World} {R : Bks} {q N : Nat} {d : Dk} (h : RefAt w R q N d) (hN : N ≤ 400000) (k : Bs) (hk : k.length ≤ maxLen) : Calls Try.prog 49 #[.pointer (some ⟨q, 0, none⟩), .string ⟨k.toArray⟩] w (RReads w d k) := by
  have HSEEN := Lib.hid (seen_any h hN (fun _ => True) (fun k hk => trivial) fun k hk => trivial)
  have HNM := Lib.hid (named_any k w hk)
  obtain ⟨hok, hlen, hs, la, wa, lc, wc, vs, cs, h⟩ := h
  have c4 := h.c4
  cases hd : d.down
  · rw [hd] at c4
    cases hn : isName k
    · have e1 : lack d k [] = 1 := by unfold lack refuse; simp [hd, hn]
      have E1 := Lib.hid e1
      rw [hn] at HNM
      clear h hok hlen hs HSEEN e1
      go_enter Try.func49, Try.ntmps49
      go_wp2_with fail
      refine HNM.out.mono ?_
      rintro e w2 ⟨rfl, rfl⟩
      go_wp2
      go_ret2
      unfold RReads
      rw [E1.out]
      exact ⟨none, 0, rfl, BytesIn.nil _ _, Below.refl _ _⟩
    · rw [hn] at HNM
      have hl : lack d k [] = if (d.seen.get k).isSome = true then 0 else 4 := by unfold lack refuse; simp [hd, hn]
      have HLK := Lib.hid hl
      clear h hok hlen hs hl
      go_enter Try.func49, Try.ntmps49
      go_wp2_with fail
      refine HNM.out.mono ?_
      rintro e w2 ⟨rfl, rfl⟩
      go_wp2_with fail
      refine HSEEN.out.mono ?_
      rintro e w3 ⟨us, ua, uc, rfl, hf, hF, hb⟩
      have HFI := Lib.hid (find_any (.slice ua us.length uc) us k w3 hf)
      have HBY := Lib.hid (rbytes_any (.slice ua us.length uc) us k w3 hf)
      rw [hF] at HBY
      have HF := Lib.hid hF
      have HB := Lib.hid hb
      obtain ⟨UL, hUL⟩ : ∃ UL, us.length = UL := ⟨_, rfl⟩
      rw [hUL] at HFI HBY ⊢
      clear hf hF hb hUL
      go_wp2_with fail
      refine HFI.out.mono ?_
      rintro e w4 ⟨⟨r, rfl, hfo⟩, rfl⟩
      rcases hfo with ⟨rfl, hg⟩ | ⟨i, x, rfl, hx, hg⟩
      · rw [HF.out] at hg
        have e4 : lack d k [] = 4 := by rw [HLK.out, hg]; rfl
        have E4 := Lib.hid e4
        clear hg e4
        go_wp2
        go_ret2
        unfold RReads
        rw [E4.out]
        exact ⟨none, 0, rfl, BytesIn.nil _ _, HB.out⟩
      · rw [HF.out] at hg
        have e0 : lack d k [] = 0 := by rw [HLK.out, hg]; rfl
        have E0 := Lib.hid e0
        clear hx hg e0
        go_wp2_with fail
        refine HBY.out.mono ?_
        rintro e w5 ⟨⟨a, c, rfl, hby⟩, rfl⟩
        have HY := Lib.hid hby
        clear hby
        go_wp2
        go_ret2
        unfold RReads
        rw [E0.out]
        exact ⟨a, c, rfl, HY.out.at, HB.out⟩
  · rw [hd] at c4
    have e6 : lack d k [] = 6 := by unfold lack refuse; simp [hd]
    have E6 := Lib.hid e6
    clear h hok hlen hs HSEEN HNM e6
    go_enter Try.func49, Try.ntmps49
    go_wp2
    go_ret2
    unfold RReads
    rw [E6.out]
    exact ⟨none, 0, rfl, BytesIn.nil _ _, Below.refl _ _⟩
end Go.Proofs.Yticbfnflillokaa
