/- holds, Drop, At, Double. -/
import Derived.Test.YtbmebmkpjbgdoaaTake
import Derived.Deep.RegionHeld3
import Derived.Laws.ResultCell
namespace Go.Proofs.Ytbmebmkpjbgdoaa
open Go.RowKit
theorem has_any {w : World} {O I : Nat → Prop} {p : Nat} {d : Nt} {sv : Value} {vs : List MV} (h : NetP w O I p d sv vs) (i : Int) :
    Calls Try.prog 49 #[.pointer (some ⟨p, 0, none⟩), .int .i64 i] w fun e w' => e = .returned (.bool (d.has i)) ∧ w = w' := by
  obtain ⟨a, c, rfl⟩ := h.row.form
  have c0 := h.c0
  rw [h.len] at c0
  unfold Nt.has
  generalize d.bag.length = L at c0 ⊢
  clear h
  go_enter Try.func49, Try.ntmps49
  go_wp2
  all_goals go_ret
  all_goals refine ⟨?_, rfl⟩
  all_goals (show Ending.returned (Value.bool _) = Ending.returned (Value.bool _); congr 2; rw [Bool.eq_iff_iff]; simp; try omega)
set_option maxRecDepth 100000 in
theorem holds_at {w : World} {O I : Nat → Prop} {p : Nat} {d : Nt} {sv : Value} {vs : List MV} (h : NetP w O I p d sv vs) (ho : d.ok) (i : Int) :
    Calls Try.prog 29 #[.pointer (some ⟨p, 0, none⟩), .int .i64 i] w fun e w' => e = .returned (.bool (d.has i)) ∧ w = w' := by
  have HM := Lib.hid (h.made ho)
  have HH := Lib.hid (has_any h i)
  clear h ho
  generalize d.has i = B at HH ⊢
  go_enter Try.func29, Try.ntmps29
  go_wp2_with (first | (go_at_call 27; refine HM.out.mono ?_; rintro e w1 ⟨rfl, rfl⟩) | (go_at_call 49; refine HH.out.mono ?_; rintro e w1 ⟨rfl, rfl⟩))
  go_ret
  exact ⟨rfl, rfl⟩
set_option maxRecDepth 100000 in
theorem holds_no (q : Option Addr) (i : Int) (w : World) (h : NotMade w q) :
    Calls Try.prog 29 #[.pointer q, .int .i64 i] w fun e w' => e = .returned (.bool false) ∧ w = w' := by
  have HM := Lib.hid (isMade_no q w h)
  clear h
  go_enter Try.func29, Try.ntmps29
  go_wp2_with (go_at_call 27; refine HM.out.mono ?_; rintro e w1 ⟨rfl, rfl⟩)
  go_ret
  exact ⟨rfl, rfl⟩
theorem out_ok {d : Nt} (h : d.ok) (i : Nat) : ({ d with bag := d.bag.eraseIdx i } : Nt).ok := h.out (i : Int)
set_option maxRecDepth 100000 in
theorem drop_at {w : World} {O I : Nat → Prop} {p : Nat} {d : Nt} (h : NetAt w O I p d) (i : Int) :
    Calls Try.prog 13 #[.pointer (some ⟨p, 0, none⟩), .int .i64 i] w (Does w O I p (d.drop i).1 (d.drop i).2) := by
  have hA := h
  obtain ⟨ho, sv, vs, h⟩ := h
  have HM := holds_at h ho i
  unfold Nt.drop
  cases hi : d.has i
  · rw [hi] at HM
    have HM := Lib.hid HM
    have HF : Hid (Does w O I p 4 d (.returned (.int .i64 4)) w) := Does.still hA 4 (Below.refl _ _)
    clear h ho hi hA
    go_enter Try.func13, Try.ntmps13
    go_wp2_with (go_at_call 29; refine HM.out.mono ?_; rintro e w1 ⟨rfl, rfl⟩)
    go_ret
    exact HF.out
  · rw [hi] at HM
    have HM := Lib.hid HM
    obtain ⟨h1, h2⟩ := (has_iff d i).1 hi
    obtain ⟨k, rfl⟩ := Int.eq_ofNat_of_zero_le h1
    have HT := Lib.hid (take_any h k (by rw [h.len]; omega) (by rw [h.len]; have := ho.len; omega))
    have HF : Hid (∀ w', (∃ O' sv', NetP w' O' I p { d with bag := d.bag.eraseIdx k } sv' (vs.eraseIdx k) ∧ Step w O I w' O' I) → Does w O I p 0 (d.out k) (.returned (.int .i64 0)) w') := fun w' ⟨O', sv', hx, hs⟩ => ⟨rfl, O', I, ⟨out_ok ho k, sv', _, hx⟩, hs⟩
    simp only [if_true]
    clear h ho hi hA h1 h2
    go_enter Try.func13, Try.ntmps13
    go_wp2_with (first | (go_at_call 29; refine HM.out.mono ?_; rintro e w1 ⟨rfl, rfl⟩) | (go_at_call 30; refine HT.out.mono ?_; rintro e w2 ⟨rfl, hx⟩; have HX := Lib.hid (HF.out w2 hx); clear hx))
    go_ret
    exact HX.out
set_option maxRecDepth 100000 in
theorem drop_no (q : Option Addr) (i : Int) (w : World) (h : NotMade w q) :
    Calls Try.prog 13 #[.pointer q, .int .i64 i] w fun e w' => e = .returned (.int .i64 4) ∧ w = w' := by
  have HM := Lib.hid (holds_no q i w h)
  clear h
  go_enter Try.func13, Try.ntmps13
  go_wp2_with (go_at_call 29; refine HM.out.mono ?_; rintro e w1 ⟨rfl, rfl⟩)
  go_ret
  exact ⟨rfl, rfl⟩
theorem results_msg {fn : Func} {p u : Tmp} (h : fn.results = #[.cell p 49, .tmp u]) (tmps : Array Value) (w : World) (g : Nat) (a b c : Value) (fr : Nat × Nat) (hp : tmps.getD p undef = .pointer (some ⟨g, 0, none⟩)) (hg : w.heap[g]? = some (.cells #[a, b, c] 49 fr)) :
    (results fn tmps).run Try.prog w = .ok (.tuple #[.agg #[a, b, c], tmps.getD u undef]) w := by
  rw [results_cell_tmp h, hp]
  simp [asAddr, Result.andThen, run_loadVar_row w g 49 49 #[a, b, c] fr _ hg Try.underlying49 rfl (by kernel_rfl)]
/-- a message's bytes, in blocks that the call made -/
def Told (w : World) (m : Msg) (w' : World) (u : Value) : Prop := OwnBytes w.heap.size w' u m.b ∧ Below w.heap.size w w'
set_option maxRecDepth 100000 in
set_option maxHeartbeats 1000000 in
theorem at_any {w : World} {O I : Nat → Prop} {p : Nat} {d : Nt} {sv : Value} {vs : List MV} (h : NetP w O I p d sv vs) (ho : d.ok) (i : Int) :
    Calls Try.prog 17 #[.pointer (some ⟨p, 0, none⟩), .int .i64 i] w fun e w' => ∃ u, e = .returned (.tuple #[.agg #[.int .i64 (d.at i).1.fr, .int .i64 (d.at i).1.to, u], .int .i64 (d.at i).2]) ∧ Told w (d.at i).1 w' u := by
  have HM := fun W (hb : Below w.heap.size w W) => holds_at (h.below hb) ho i
  unfold Nt.at
  cases hi : d.has i
  · rw [hi] at HM
    have HM : Hid (∀ o, Calls Try.prog 29 #[.pointer (some ⟨p, 0, none⟩), .int .i64 i] (w.alloc o) fun e w' => e = .returned (.bool false) ∧ w.alloc o = w') := fun o => HM _ (Go.Joins.below_alloc1 w o)
    clear h ho hi
    go_enter Try.func17, Try.ntmps17
    go_wp2_with (go_at_call 29; refine (HM.out _).mono ?_; rintro e w1 ⟨rfl, rfl⟩)
    exact bodyPost_ret (results_msg rfl _ _ w.heap.size _ _ _ (0, 0) rfl (heap_alloc_new _ _)) rfl ⟨_, rfl, OwnBytes.nil _ _, Go.Joins.below_alloc1 w _⟩
  · rw [hi] at HM
    have HM : Hid (∀ o, Calls Try.prog 29 #[.pointer (some ⟨p, 0, none⟩), .int .i64 i] (w.alloc o) fun e w' => e = .returned (.bool true) ∧ w.alloc o = w') := fun o => HM _ (Go.Joins.below_alloc1 w o)
    obtain ⟨h1, h2⟩ := (has_iff d i).1 hi
    have hmg := Nt.msg_get hi
    have hmo := ho.msgs _ (Nt.msg_mem hi)
    obtain ⟨k, rfl⟩ := Int.eq_ofNat_of_zero_le h1
    simp only [Int.toNat_natCast] at hmg
    generalize d.msg (k : Int) = m at hmg hmo ⊢
    have hk : k < vs.length := by rw [h.len]; omega
    rcases h.row.2 with ⟨rfl, h0⟩ | ⟨g, cap, cur, rfl, hbg, hg, hnc, hcm, hcs, htake⟩
    · omega
    · obtain ⟨u, hv⟩ : ∃ u, vs[k]? = some (m, u) := by
        have e := List.getElem?_eq_getElem hk
        have e2 : (vs.map (·.1))[k]? = some m := by rw [h.bag]; exact hmg
        rw [List.getElem?_map, e] at e2
        simp only [Option.map_some, Option.some.injEq] at e2
        exact ⟨(vs[k]).2, by rw [e, ← e2]⟩
      have hu := h.byt _ (List.mem_of_getElem? hv)
      dsimp only at hu
      have hlen := hmo.len
      obtain ⟨ua, uc, rfl, _⟩ := hu.form
      have HC : Hid (∀ W, Below w.heap.size w W → Calls Try.prog 42 #[.slice ua m.b.length uc] W (Gives W m.b)) := fun W hb => clone_any _ _ W (hu.below hb (Nat.le_refl _)).at (by omega)
      have c0 : ∀ o, (w.alloc o).cell? ⟨p, 0, none⟩ = _ := fun o => (h.below (Go.Joins.below_alloc1 w o)).c0
      have e0 : ∀ o, (w.alloc o).cell? ⟨g, k * 3, none⟩ = some (.int .i64 m.fr) := fun o => (h.below (Go.Joins.below_alloc1 w o)).row.cell hv 0 (by omega)
      have e1 : ∀ o, (w.alloc o).cell? ⟨g, k * 3 + 1, none⟩ = some (.int .i64 m.to) := fun o => (h.below (Go.Joins.below_alloc1 w o)).row.cell hv 1 (by omega)
      have e2 : ∀ o, (w.alloc o).cell? ⟨g, k * 3 + 2, none⟩ = some (.slice ua m.b.length uc) := fun o => (h.below (Go.Joins.below_alloc1 w o)).row.cell hv 2 (by omega)
      obtain ⟨L, hL⟩ : ∃ L, vs.length = L := ⟨_, rfl⟩
      obtain ⟨Z, hZ⟩ : ∃ Z, m.b.length = Z := ⟨_, rfl⟩
      rw [hL] at c0 hk
      rw [hZ] at e2 HC
      obtain ⟨wa, hwa⟩ : ∃ wa, wa = w.alloc (.cells #[.int .i64 0, .int .i64 0, .slice none 0 0] 49) := ⟨_, rfl⟩
      obtain ⟨wb, hwb⟩ : ∃ wb, wb = wa.alloc (.cells #[.int .i64 m.fr, .int .i64 m.to, .slice ua Z uc] 49) := ⟨_, rfl⟩
      have hsa : wa.heap.size = w.heap.size + 1 := by rw [hwa, World.size_alloc]
      have hsb : wb.heap.size = w.heap.size + 2 := by rw [hwb, World.size_alloc, hsa]
      have hBb : Below w.heap.size w wb := by rw [hwb, hwa]; exact Go.Joins.below_alloc2 w _ _
      have k1 : wb.heap[w.heap.size + 1]? = some (.cells #[.int .i64 m.fr, .int .i64 m.to, .slice ua Z uc] 49 (0, 0)) := by rw [hwb, ← hsa]; exact heap_alloc_new _ _
      have k0 : wb.heap[w.heap.size]? = some (.cells #[.int .i64 0, .int .i64 0, .slice none 0 0] 49 (0, 0)) := by rw [hwb, heap_alloc_old (h := by omega), hwa]; exact heap_alloc_new _ _
      have HK : Hid (∀ w4, Below wb.heap.size wb w4 → w4.heap[w.heap.size + 1]? = some (.cells #[.int .i64 m.fr, .int .i64 m.to, .slice ua Z uc] 49 (0, 0)) ∧ w4.heap[w.heap.size]? = some (.cells #[.int .i64 0, .int .i64 0, .slice none 0 0] 49 (0, 0))) := fun w4 hb => ⟨(hb.block _ (by omega)).trans k1, (hb.block _ (by omega)).trans k0⟩
      have HB := Lib.hid hBb
      have HFIN : Hid (∀ w4 va vc, OwnBytes wb.heap.size w4 (.slice va Z vc) m.b → Below wb.heap.size wb w4 → ∀ W, W = (((w4.setCell ⟨w.heap.size + 1, 2, none⟩ (.slice va Z vc)).setCell ⟨w.heap.size, 0, none⟩ (.int .i64 m.fr)).setCell ⟨w.heap.size, 1, none⟩ (.int .i64 m.to)).setCell ⟨w.heap.size, 2, none⟩ (.slice va Z vc) →
          W.heap[w.heap.size]? = some (.cells #[.int .i64 m.fr, .int .i64 m.to, .slice va Z vc] 49 (0, 0)) ∧ Told w m W (.slice va Z vc)) := fun w4 va vc ho hb W hW => by
        have hch : Chg (fun k => k = w.heap.size ∨ k = w.heap.size + 1) w4 W := by
          rw [hW]
          exact ((((Chg.refl (fun k => k = w.heap.size ∨ k = w.heap.size + 1) w4).setCell (p := ⟨w.heap.size + 1, 2, none⟩) (.inl (.inr rfl)) _).setCell (p := ⟨w.heap.size, 0, none⟩) (.inl (.inl rfl)) _).setCell (p := ⟨w.heap.size, 1, none⟩) (.inl (.inl rfl)) _).setCell (p := ⟨w.heap.size, 2, none⟩) (.inl (.inl rfl)) _
        have hlt := ho.lt
        refine ⟨?_, ?_, ?_⟩
        · have hb0 := (HK.out w4 hb).2
          have hb1 : (w4.setCell ⟨w.heap.size + 1, 2, none⟩ (.slice va Z vc)).heap[w.heap.size]? = some (.cells #[.int .i64 0, .int .i64 0, .slice none 0 0] 49 (0, 0)) := by
            rw [← hb0]; exact Below.heap_setCell _ _ _ _ (by simp)
          rw [hW]
          exact Go.Joins.block_setCell (Go.Joins.block_setCell (Go.Joins.block_setCell hb1 _) _) _
        · exact (ho.chg hch fun k hk hx => by have := (hlt k hk).1; omega).base_le (by omega)
        · exact hBb.trans ((Chg.of_below (S := fun k => k = w.heap.size ∨ k = w.heap.size + 1) hb (Nat.le_refl _)).trans hch |>.below (by omega) fun k hk => by omega)
      simp only [if_true]
      clear h hbg hg hnc hcm hcs htake hu hv hi h1 h2 hmg hmo hlen hL hsa hsb hBb k0 k1 ho
      have HZ := Lib.hid hZ
      clear hZ
      subst hwb hwa
      go_enter Try.func17, Try.ntmps17
      go_wp2_with (go_at_call 29; refine (HM.out _).mono ?_; rintro e w1 ⟨rfl, rfl⟩)
      refine (HC.out _ HB.out).mono ?_
      rintro e w4 ⟨v, rfl, ho4, hb4⟩
      obtain ⟨va, vc, rfl⟩ := ho4.form
      rw [HZ.out] at ho4 ⊢
      obtain ⟨b1, b0⟩ := HK.out w4 hb4
      have HX4 := Lib.hid (HFIN.out w4 va vc ho4 hb4)
      have q0 : w4.cell? ⟨w.heap.size, 0, none⟩ = some (.int .i64 0) := by rw [Go.Joins.cell_of_block b0]; rfl
      have q1 : w4.cell? ⟨w.heap.size, 1, none⟩ = some (.int .i64 0) := by rw [Go.Joins.cell_of_block b0]; rfl
      have q2 : w4.cell? ⟨w.heap.size, 2, none⟩ = some (.slice none 0 0) := by rw [Go.Joins.cell_of_block b0]; rfl
      have r0 : w4.cell? ⟨w.heap.size + 1, 0, none⟩ = some (.int .i64 m.fr) := by rw [Go.Joins.cell_of_block b1]; rfl
      have r1 : w4.cell? ⟨w.heap.size + 1, 1, none⟩ = some (.int .i64 m.to) := by rw [Go.Joins.cell_of_block b1]; rfl
      have r2 : w4.cell? ⟨w.heap.size + 1, 2, none⟩ = some (.slice ua Z uc) := by rw [Go.Joins.cell_of_block b1]; rfl
      have f0 : ∀ j, w4.frozen? ⟨w.heap.size, j, none⟩ = false := fun j => by simp [World.frozen?, b0]
      have f1 : ∀ j, w4.frozen? ⟨w.heap.size + 1, j, none⟩ = false := fun j => by simp [World.frozen?, b1]
      clear b0 b1 ho4 hb4
      go_wp2
      obtain ⟨hX, hT⟩ := HX4.out _ rfl
      exact bodyPost_ret (results_msg rfl _ _ w.heap.size _ _ _ (0, 0) rfl hX) rfl ⟨_, rfl, hT⟩
end Go.Proofs.Ytbmebmkpjbgdoaa
