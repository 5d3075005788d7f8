/- Deliver. -/
import Derived.Test.YtbmebmkpjbgdoaaOps2
namespace Go.Proofs.Ytbmebmkpjbgdoaa
open Go.RowKit
theorem fin3 {W : World} {b : Nat} {x y z : Value} {fr : Nat × Nat} (h : W.heap[b]? = some (.cells #[x, y, z] 49 fr)) (p q r : Value) : (((W.setCell ⟨b, 0, none⟩ p).setCell ⟨b, 1, none⟩ q).setCell ⟨b, 2, none⟩ r).heap[b]? = some (.cells #[p, q, r] 49 fr) :=
  Go.Joins.block_setCell (Go.Joins.block_setCell (Go.Joins.block_setCell h _) _) _
theorem chg3 {S : Nat → Prop} {w W : World} {b : Nat} (h : Chg S w W) (hb : S b ∨ w.heap.size ≤ b) (p q r : Value) : Chg S w (((W.setCell ⟨b, 0, none⟩ p).setCell ⟨b, 1, none⟩ q).setCell ⟨b, 2, none⟩ r) :=
  ((h.setCell (p := ⟨b, 0, none⟩) hb _).setCell (p := ⟨b, 1, none⟩) hb _).setCell (p := ⟨b, 2, none⟩) hb _
def z3 : Obj := .cells #[.int .i64 0, .int .i64 0, .slice none 0 0] 49
theorem Delivers.nothing {w W : World} {O I : Nat → Prop} {p : Nat} {d : Nt} {i : Int} (h : NetAt w O I p d) {r : Int} (hd : d.deliver i = (noMsg, r, d)) (hb : Below w.heap.size w W) : Delivers w O I p d i (.returned (.tuple #[.agg #[.int .i64 0, .int .i64 0, .slice none 0 0], .int .i64 r])) W := by
  unfold Delivers
  rw [hd]
  exact ⟨.slice none 0 0, rfl, OwnBytes.nil _ _, O, I, h.below hb (Nat.le_refl _), Step.of_below hb, fun k hk => by simp [Value.ownBlock] at hk⟩
set_option maxRecDepth 100000 in
set_option maxHeartbeats 1000000 in
theorem deliver_at {w : World} {O I : Nat → Prop} {p : Nat} {d : Nt} (h : NetAt w O I p d) (i : Int) :
    Calls Try.prog 18 #[.pointer (some ⟨p, 0, none⟩), .int .i64 i] w (Delivers w O I p d i) := by
  have hA := h
  obtain ⟨ho, sv, vs, h⟩ := h
  have HAT : Hid (∀ W, Below w.heap.size w W → Calls Try.prog 17 #[.pointer (some ⟨p, 0, none⟩), .int .i64 i] W fun e w' => ∃ u, e = .returned (.tuple #[.agg #[.int .i64 (d.at i).1.fr, .int .i64 (d.at i).1.to, u], .int .i64 (d.at i).2]) ∧ Told W (d.at i).1 w' u) := fun W hb => at_any (h.below hb) ho i
  have HBA : Hid (Below w.heap.size w (w.alloc z3)) := Go.Joins.below_alloc1 w _
  have hres1 : ∀ w1, Below (w.alloc z3).heap.size (w.alloc z3) w1 → w1.heap[w.heap.size]? = some z3 := fun w1 hb => (hb.block _ (by rw [World.size_alloc]; omega)).trans (heap_alloc_new _ _)
  cases hi : d.has i
  · have hres : d.deliver i = (noMsg, 4, d) := by unfold Nt.deliver; rw [if_pos hi]
    have hat : d.at i = (noMsg, 4) := by unfold Nt.at; rw [if_neg (by simp [hi])]
    have HF : Hid (∀ W, Below w.heap.size w W → Delivers w O I p d i (.returned (.tuple #[.agg #[.int .i64 0, .int .i64 0, .slice none 0 0], .int .i64 4])) W) := fun W hb => Delivers.nothing hA hres hb
    rw [hat] at HAT
    have HR := Lib.hid hres1
    clear h ho hi hA hres hat hres1
    go_enter Try.func18, Try.ntmps18
    go_wp2_with fail
    refine (HAT.out _ HBA.out).mono ?_
    rintro e w1 ⟨u, rfl, ho1, hb1⟩
    have HB1 : Hid (Below w.heap.size w w1) := HBA.out.trans (hb1.mono HBA.out.size)
    have hz := HR.out w1 hb1
    obtain ⟨ua, uc, rfl⟩ := ho1.form
    have q0 : ∀ o, (w1.alloc o).cell? ⟨w.heap.size, 0, none⟩ = some (.int .i64 0) := fun o => by rw [World.cell?_alloc_lt _ _ _ (lt_of_block hz), Go.Joins.cell_of_block hz]; rfl
    have q1 : ∀ o, (w1.alloc o).cell? ⟨w.heap.size, 1, none⟩ = some (.int .i64 0) := fun o => by rw [World.cell?_alloc_lt _ _ _ (lt_of_block hz), Go.Joins.cell_of_block hz]; rfl
    have q2 : ∀ o, (w1.alloc o).cell? ⟨w.heap.size, 2, none⟩ = some (.slice none 0 0) := fun o => by rw [World.cell?_alloc_lt _ _ _ (lt_of_block hz), Go.Joins.cell_of_block hz]; rfl
    have hz2 : ∀ o, (w1.alloc o).heap[w.heap.size]? = some z3 := fun o => by rw [heap_alloc_old (h := lt_of_block hz)]; exact hz
    have f0 : ∀ o j, (w1.alloc o).frozen? ⟨w.heap.size, j, none⟩ = false := fun o j => by simp [World.frozen?, hz2 o, z3]
    have HZ := Lib.hid hz2
    clear ho1 hb1 hz hz2
    go_wp2
    have hch := (chg3 (S := fun _ => False) ((Chg.of_below (S := fun _ => False) HB1.out (Nat.le_refl _)).alloc (.cells #[.int .i64 noMsg.fr, .int .i64 noMsg.to, .slice ua noMsg.b.length uc] 49)) (.inr (Nat.le_refl w.heap.size)) (.int .i64 0) (.int .i64 0) (.slice none 0 0)).below (Nat.le_refl _) fun _ h => h.elim
    exact bodyPost_ret (results_msg (p := 4) (u := 5) rfl _ _ w.heap.size _ _ _ (0, 0) rfl (fin3 (HZ.out _) _ _ _)) rfl (HF.out _ hch)
  · have hat : d.at i = (d.msg i, 0) := by unfold Nt.at; rw [if_pos hi]
    rw [hat] at HAT
    cases hop : d.isOpen (d.msg i).fr (d.msg i).to
    · have hres : d.deliver i = (noMsg, 6, d) := by unfold Nt.deliver; rw [if_neg (by simp [hi]), if_pos hop]
      have HF : Hid (∀ W, Below w.heap.size w W → Delivers w O I p d i (.returned (.tuple #[.agg #[.int .i64 0, .int .i64 0, .slice none 0 0], .int .i64 6])) W) := fun W hb => Delivers.nothing hA hres hb
      have HOPEN : Hid (∀ W, Below w.heap.size w W → Calls Try.prog 22 #[.pointer (some ⟨p, 0, none⟩), .int .i64 (d.msg i).fr, .int .i64 (d.msg i).to] W fun e w' => e = .returned (.bool false) ∧ W = w') := fun W hb => by
        have := open_at (h.below hb) ho (d.msg i).fr (d.msg i).to
        rw [hop] at this
        exact this
      have HR := Lib.hid hres1
      clear h ho hi hA hres hat hres1 hop
      generalize d.msg i = m at HAT HOPEN
      go_enter Try.func18, Try.ntmps18
      go_wp2_with fail
      refine (HAT.out _ HBA.out).mono ?_
      rintro e w1 ⟨u, rfl, ho1, hb1⟩
      have HB1 : Hid (Below w.heap.size w w1) := HBA.out.trans (hb1.mono HBA.out.size)
      have hz := HR.out w1 hb1
      obtain ⟨ua, uc, rfl⟩ := ho1.form
      have q0 : ∀ o, (w1.alloc o).cell? ⟨w.heap.size, 0, none⟩ = some (.int .i64 0) := fun o => by rw [World.cell?_alloc_lt _ _ _ (lt_of_block hz), Go.Joins.cell_of_block hz]; rfl
      have q1 : ∀ o, (w1.alloc o).cell? ⟨w.heap.size, 1, none⟩ = some (.int .i64 0) := fun o => by rw [World.cell?_alloc_lt _ _ _ (lt_of_block hz), Go.Joins.cell_of_block hz]; rfl
      have q2 : ∀ o, (w1.alloc o).cell? ⟨w.heap.size, 2, none⟩ = some (.slice none 0 0) := fun o => by rw [World.cell?_alloc_lt _ _ _ (lt_of_block hz), Go.Joins.cell_of_block hz]; rfl
      have hz2 : ∀ o, (w1.alloc o).heap[w.heap.size]? = some z3 := fun o => by rw [heap_alloc_old (h := lt_of_block hz)]; exact hz
      have f0 : ∀ o j, (w1.alloc o).frozen? ⟨w.heap.size, j, none⟩ = false := fun o j => by simp [World.frozen?, hz2 o, z3]
      have HZ := Lib.hid hz2
      have HBO : Hid (∀ o, Below w.heap.size w (w1.alloc o)) := fun o => HB1.out.alloc HB1.out.size o
      clear ho1 hb1 hz hz2
      go_wp2_with (go_at_call 22; refine (HOPEN.out _ (HBO.out _)).mono ?_; rintro e w2 ⟨rfl, rfl⟩)
      have hch := (chg3 (S := fun _ => False) ((Chg.of_below (S := fun _ => False) HB1.out (Nat.le_refl _)).alloc (.cells #[.int .i64 m.fr, .int .i64 m.to, .slice ua m.b.length uc] 49)) (.inr (Nat.le_refl w.heap.size)) (.int .i64 0) (.int .i64 0) (.slice none 0 0)).below (Nat.le_refl _) fun _ h => h.elim
      exact bodyPost_ret (results_msg (p := 4) (u := 5) rfl _ _ w.heap.size _ _ _ (0, 0) rfl (fin3 (HZ.out _) _ _ _)) rfl (HF.out _ hch)
    · have hres : d.deliver i = (d.msg i, 0, d.out i) := by unfold Nt.deliver; rw [if_neg (by simp [hi]), if_neg (by simp [hop])]
      have HOPEN : Hid (∀ W, Below w.heap.size w W → Calls Try.prog 22 #[.pointer (some ⟨p, 0, none⟩), .int .i64 (d.msg i).fr, .int .i64 (d.msg i).to] W fun e w' => e = .returned (.bool true) ∧ W = w') := fun W hb => by
        have := open_at (h.below hb) ho (d.msg i).fr (d.msg i).to
        rw [hop] at this
        exact this
      have hok := ho.out i
      obtain ⟨h1, h2⟩ := (has_iff d i).1 hi
      obtain ⟨k, rfl⟩ := Int.eq_ofNat_of_zero_le h1
      have hlen := ho.len
      have HTAKE : Hid (∀ W, Below w.heap.size w W → Calls Try.prog 30 #[.pointer (some ⟨p, 0, none⟩), .int .i64 (k : Nat)] W fun e w' => e = .returned (.tuple #[]) ∧ ∃ O' sv', NetP w' O' I p (d.out k) sv' (vs.eraseIdx k) ∧ Step W O I w' O' I) := fun W hb => take_any (h.below hb) k (by rw [h.len]; omega) (by rw [h.len]; omega)
      have HD : Hid (∀ e W, (∃ u, e = Ending.returned (.tuple #[.agg #[.int .i64 (d.msg k).fr, .int .i64 (d.msg k).to, u], .int .i64 0]) ∧ OwnBytes w.heap.size W u (d.msg k).b ∧ ∃ O' I', NetAt W O' I' p (d.out k) ∧ Step w O I W O' I' ∧ ∀ j, u.ownBlock = some j → ¬ O' j ∧ ¬ I' j) → Delivers w O I p d k e W) := fun e W hx => by
        unfold Delivers
        rw [hres]
        exact hx
      have HLT : Hid (∀ j, O j ∨ I j → j < w.heap.size) := h.lt
      have HR := Lib.hid hres1
      clear h ho hi hA hres hat hres1 hop h1 h2 hlen
      generalize d.msg (k : Int) = m at HAT HOPEN HD
      go_enter Try.func18, Try.ntmps18
      go_wp2_with fail
      refine (HAT.out _ HBA.out).mono ?_
      rintro e w1 ⟨u, rfl, ho1, hb1⟩
      have HB1 : Hid (Below w.heap.size w w1) := HBA.out.trans (hb1.mono HBA.out.size)
      have hz := HR.out w1 hb1
      obtain ⟨ua, uc, rfl⟩ := ho1.form
      have HO1 := Lib.hid ho1
      have hlt1 := ho1.lt
      have hws : w.heap.size < w1.heap.size := lt_of_block hz
      obtain ⟨L, hL⟩ : ∃ L, m.b.length = L := ⟨_, rfl⟩
      rw [hL] at HO1 hlt1 ⊢
      have hz2 : ∀ o, (w1.alloc o).heap[w.heap.size]? = some z3 := fun o => by rw [heap_alloc_old (h := lt_of_block hz)]; exact hz
      have HBO : Hid (∀ o, Below w.heap.size w (w1.alloc o)) := fun o => HB1.out.alloc HB1.out.size o
      -- what stands behind take
      have HT : Hid (∀ w2 O' sv', NetP w2 O' I p (d.out k) sv' (vs.eraseIdx k) → Step (w1.alloc (.cells #[.int .i64 m.fr, .int .i64 m.to, .slice ua L uc] 49)) O I w2 O' I →
          w2.heap[w.heap.size]? = some z3 ∧ w2.heap[w1.heap.size]? = some (.cells #[.int .i64 m.fr, .int .i64 m.to, .slice ua L uc] 49 (0, 0)) ∧
          ∀ W, W = (((w2.setCell ⟨w.heap.size, 0, none⟩ (.int .i64 m.fr)).setCell ⟨w.heap.size, 1, none⟩ (.int .i64 m.to)).setCell ⟨w.heap.size, 2, none⟩ (.slice ua L uc)) →
            Delivers w O I p d k (.returned (.tuple #[.agg #[.int .i64 m.fr, .int .i64 m.to, .slice ua L uc], .int .i64 0])) W) := fun w2 O' sv' hx hs => by
        have hnO : ∀ j, w.heap.size ≤ j → ¬ O j := fun j hj hO => by have := HLT.out j (.inl hO); omega
        have hsz2 := hs.1.size
        rw [World.size_alloc] at hsz2
        have hO' : ∀ j, O' j → O j ∨ w1.heap.size + 1 ≤ j := fun j hj => by have := hs.2.1 j hj; rwa [World.size_alloc] at this
        have hnO' : ∀ j, w.heap.size ≤ j → j < w1.heap.size → ¬ O' j := fun j h1 h2 hj => by
          rcases hO' j hj with h | h
          · exact hnO j h1 h
          · omega
        refine ⟨hs.1.heap (hz2 _) (hnO _ (Nat.le_refl _)), hs.1.heap (heap_alloc_new _ _) (hnO _ (by omega)), fun W hW => HD.out _ W ⟨_, rfl, ?_, O', I, ⟨hok, sv', vs.eraseIdx k, ?_⟩, ⟨?_, fun j hj => (hO' j hj).imp id fun h => by omega, fun j hj => .inl hj⟩, fun j hj => ?_⟩⟩
        · rw [hW]
          refine (HO1.out.chg (S := fun j => O j ∨ j = w.heap.size) ?_ fun j hj hS => ?_).base_le (by rw [World.size_alloc]; omega)
          · exact chg3 ((((Chg.refl (fun j => O j ∨ j = w.heap.size) w1).alloc _).then hs.1 fun j hj => .inl (.inl hj))) (.inl (.inr rfl)) _ _ _
          · have := hlt1 j hj
            rw [World.size_alloc] at this
            rcases hS with hS | hS
            · exact hnO j (by omega) hS
            · omega
        · rw [hW]
          refine hx.chg (C := fun j => j = w.heap.size) (chg3 (S := fun j => j = w.heap.size) (Chg.refl _ w2) (.inl rfl) _ _ _) fun j hj => ?_
          subst hj
          exact ⟨hnO' _ (Nat.le_refl _) hws, fun hI => by have := HLT.out _ (.inr hI); omega⟩
        · rw [hW]
          exact chg3 (((Chg.of_below (S := O) (HBO.out _) (Nat.le_refl _))).trans hs.1) (.inr (Nat.le_refl _)) _ _ _
        · have := hlt1 j hj
          rw [World.size_alloc] at this
          exact ⟨hnO' j (by omega) (by omega), fun hI => by have := HLT.out _ (.inr hI); omega⟩
      clear ho1 hb1 hz hz2 hlt1 hws HR
      go_wp2_with (go_at_call 22; refine (HOPEN.out _ (HBO.out _)).mono ?_; rintro e w2 ⟨rfl, rfl⟩)
      refine (HTAKE.out _ (HBO.out _)).mono ?_
      rintro e w3 ⟨rfl, O', sv', hx, hs⟩
      obtain ⟨b0, b1, hfin⟩ := HT.out w3 O' sv' hx hs
      have HFIN := Lib.hid hfin
      have HZ := Lib.hid b0
      have q0 : w3.cell? ⟨w.heap.size, 0, none⟩ = some (.int .i64 0) := by rw [Go.Joins.cell_of_block b0]; rfl
      have q1 : w3.cell? ⟨w.heap.size, 1, none⟩ = some (.int .i64 0) := by rw [Go.Joins.cell_of_block b0]; rfl
      have q2 : w3.cell? ⟨w.heap.size, 2, none⟩ = some (.slice none 0 0) := by rw [Go.Joins.cell_of_block b0]; rfl
      have r0 : w3.cell? ⟨w1.heap.size, 0, none⟩ = some (.int .i64 m.fr) := by rw [Go.Joins.cell_of_block b1]; rfl
      have r1 : w3.cell? ⟨w1.heap.size, 1, none⟩ = some (.int .i64 m.to) := by rw [Go.Joins.cell_of_block b1]; rfl
      have r2 : w3.cell? ⟨w1.heap.size, 2, none⟩ = some (.slice ua L uc) := by rw [Go.Joins.cell_of_block b1]; rfl
      have f0 : ∀ j, w3.frozen? ⟨w.heap.size, j, none⟩ = false := fun j => by simp [World.frozen?, b0, z3]
      clear b0 b1 hfin hx hs
      go_wp2
      exact bodyPost_ret (results_msg (p := 4) (u := 5) rfl _ _ w.heap.size _ _ _ (0, 0) rfl (fin3 HZ.out _ _ _)) rfl (HFIN.out _ rfl)
end Go.Proofs.Ytbmebmkpjbgdoaa
