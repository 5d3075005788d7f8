/- Whether a net was made; links; what is open. -/
import Derived.Test.YtbmebmkpjbgdoaaNet
import Derived.LaidEqlPtr
namespace Go.Proofs.Ytbmebmkpjbgdoaa
open Go.RowKit
theorem info46 : (Try.prog.info? 46).isSome = true := by kernel_rfl
theorem eql_same (p : Nat) (w : World) : (binOp .eql 25 (.pointer (some ⟨p, 0, none⟩)) (.pointer (some ⟨p, 0, none⟩))).run Try.prog w = .ok (.bool true) w := by
  obtain ⟨j, hj⟩ := Option.isSome_iff_exists.1 info46
  exact run_eql_ptr_same w _ Try.underlying25 hj
theorem eql_none (a : Addr) (w : World) : (binOp .eql 25 (.pointer none) (.pointer (some a))).run Try.prog w = .ok (.bool false) w := by
  have h : ∀ d : Nat, (Op.equalIn (d + 1) 25 (.pointer none) (.pointer (some a))).run Try.prog w = .ok false w := fun d => by
    simp [Op.equalIn, run_underlying Try.underlying25]
  simp only [binOp]
  simp [Op.equal, Op.maxDepth, h 9999]
/-- nobody made that net -/
def NotMade (w : World) (q : Option Addr) : Prop := q = none ∨ ∃ p, q = some ⟨p, 0, none⟩ ∧ w.cell? ⟨p, 227, none⟩ = some (.pointer none)
set_option maxRecDepth 100000 in
theorem isMade_yes (p : Nat) (w : World) (h : w.cell? ⟨p, 227, none⟩ = some (.pointer (some ⟨p, 0, none⟩))) :
    Calls Try.prog 27 #[.pointer (some ⟨p, 0, none⟩)] w fun e w' => e = .returned (.bool true) ∧ w = w' := by
  have k := eql_same p
  go_enter Try.func27, Try.ntmps27
  go_wp2
  go_ret
  exact ⟨by simp, rfl⟩
set_option maxRecDepth 100000 in
theorem isMade_no (q : Option Addr) (w : World) (h : NotMade w q) :
    Calls Try.prog 27 #[.pointer q] w fun e w' => e = .returned (.bool false) ∧ w = w' := by
  rcases h with rfl | ⟨p, rfl, h⟩
  · go_enter Try.func27, Try.ntmps27
    go_wp2
    go_ret
    exact ⟨by simp, rfl⟩
  · have k := eql_none ⟨p, 0, none⟩
    go_enter Try.func27, Try.ntmps27
    go_wp2
    go_ret
    exact ⟨by simp, rfl⟩
set_option maxRecDepth 100000 in
theorem nodes_no (q : Option Addr) (w : World) (h : NotMade w q) :
    Calls Try.prog 20 #[.pointer q] w fun e w' => e = .returned (.int .i64 0) ∧ w = w' := by
  have HM := Lib.hid (isMade_no q w h)
  clear h
  go_enter Try.func20, Try.ntmps20
  go_wp2_with (go_at_call 27; refine HM.out.mono ?_; rintro e w1 ⟨rfl, rfl⟩)
  go_ret
  exact ⟨rfl, rfl⟩
set_option maxRecDepth 100000 in
theorem nodes_yes (p n : Nat) (w : World) (h : w.cell? ⟨p, 227, none⟩ = some (.pointer (some ⟨p, 0, none⟩))) (h1 : w.cell? ⟨p, 1, none⟩ = some (.int .i64 (n : Nat))) :
    Calls Try.prog 20 #[.pointer (some ⟨p, 0, none⟩)] w fun e w' => e = .returned (.int .i64 (n : Nat)) ∧ w = w' := by
  have HM := Lib.hid (isMade_yes p w h)
  clear h
  go_enter Try.func20, Try.ntmps20
  go_wp2_with (go_at_call 27; refine HM.out.mono ?_; rintro e w1 ⟨rfl, rfl⟩)
  go_ret
  exact ⟨rfl, rfl⟩
set_option maxRecDepth 100000 in
theorem len_no (q : Option Addr) (w : World) (h : NotMade w q) :
    Calls Try.prog 21 #[.pointer q] w fun e w' => e = .returned (.int .i64 0) ∧ w = w' := by
  have HM := Lib.hid (isMade_no q w h)
  clear h
  go_enter Try.func21, Try.ntmps21
  go_wp2_with (go_at_call 27; refine HM.out.mono ?_; rintro e w1 ⟨rfl, rfl⟩)
  go_ret
  exact ⟨rfl, rfl⟩
set_option maxRecDepth 100000 in
theorem len_yes (p : Nat) (a : Option Addr) (n c : Nat) (w : World) (h : w.cell? ⟨p, 227, none⟩ = some (.pointer (some ⟨p, 0, none⟩))) (h1 : w.cell? ⟨p, 0, none⟩ = some (.slice a n c)) :
    Calls Try.prog 21 #[.pointer (some ⟨p, 0, none⟩)] w fun e w' => e = .returned (.int .i64 (n : Nat)) ∧ w = w' := by
  have HM := Lib.hid (isMade_yes p w h)
  clear h
  go_enter Try.func21, Try.ntmps21
  go_wp2_with (go_at_call 27; refine HM.out.mono ?_; rintro e w1 ⟨rfl, rfl⟩)
  go_ret
  exact ⟨rfl, rfl⟩
set_option maxRecDepth 100000 in
theorem links_gen (q : Option Addr) (n : Nat) (a b : Int) (w : World) (hn : Calls Try.prog 20 #[.pointer q] w fun e w' => e = .returned (.int .i64 (n : Nat)) ∧ w = w') :
    Calls Try.prog 44 #[.pointer q, .int .i64 a, .int .i64 b] w fun e w' => e = .returned (.bool (a != b && decide (1 ≤ min a b) && decide (max a b ≤ n))) ∧ w = w' := by
  have HM := Lib.hid hn
  clear hn
  go_enter Try.func44, Try.ntmps44
  go_wp2_with (go_at_call 20; refine HM.out.mono ?_; rintro e w1 ⟨rfl, rfl⟩)
  all_goals go_ret
  all_goals refine ⟨?_, rfl⟩
  all_goals (show Ending.returned (Value.bool _) = Ending.returned (Value.bool _); congr 2; rw [Bool.eq_iff_iff]; simp; try omega)
theorem links_at (d : Nt) (q : Option Addr) (a b : Int) (w : World) (hn : Calls Try.prog 20 #[.pointer q] w fun e w' => e = .returned (.int .i64 (d.n : Nat)) ∧ w = w') :
    Calls Try.prog 44 #[.pointer q, .int .i64 a, .int .i64 b] w fun e w' => e = .returned (.bool (d.links a b)) ∧ w = w' := links_gen q d.n a b w hn
theorem links_no (q : Option Addr) (a b : Int) (w : World) (h : NotMade w q) :
    Calls Try.prog 44 #[.pointer q, .int .i64 a, .int .i64 b] w fun e w' => e = .returned (.bool false) ∧ w = w' := by
  have h0 := links_gen q 0 a b w (nodes_no q w h)
  have e : (a != b && decide (1 ≤ min a b) && decide (max a b ≤ ((0 : Nat) : Int))) = false := by
    rw [Bool.eq_false_iff]
    simp
    omega
  rw [e] at h0
  exact h0
theorem NetP.made {w : World} {O I : Nat → Prop} {p : Nat} {d : Nt} {sv : Value} {vs : List MV} (h : NetP w O I p d sv vs) (ho : d.ok) : Calls Try.prog 27 #[.pointer (some ⟨p, 0, none⟩)] w fun e w' => e = .returned (.bool true) ∧ w = w' := isMade_yes p w (h.self ho.cuts)
theorem NetP.nodes {w : World} {O I : Nat → Prop} {p : Nat} {d : Nt} {sv : Value} {vs : List MV} (h : NetP w O I p d sv vs) (ho : d.ok) : Calls Try.prog 20 #[.pointer (some ⟨p, 0, none⟩)] w fun e w' => e = .returned (.int .i64 (d.n : Nat)) ∧ w = w' := nodes_yes p d.n w (h.self ho.cuts) h.c1
theorem NetP.links {w : World} {O I : Nat → Prop} {p : Nat} {d : Nt} {sv : Value} {vs : List MV} (h : NetP w O I p d sv vs) (ho : d.ok) (a b : Int) : Calls Try.prog 44 #[.pointer (some ⟨p, 0, none⟩), .int .i64 a, .int .i64 b] w fun e w' => e = .returned (.bool (d.links a b)) ∧ w = w' := links_at d _ a b w (h.nodes ho)
theorem NetP.lenC {w : World} {O I : Nat → Prop} {p : Nat} {d : Nt} {sv : Value} {vs : List MV} (h : NetP w O I p d sv vs) (ho : d.ok) : Calls Try.prog 21 #[.pointer (some ⟨p, 0, none⟩)] w fun e w' => e = .returned (.int .i64 (d.bag.length : Nat)) ∧ w = w' := by
  obtain ⟨a, c, rfl⟩ := h.row.form
  rw [← h.len]
  exact len_yes p a _ c w (h.self ho.cuts) h.c0
set_option maxRecDepth 100000 in
theorem cut_ptr (p : Nat) (a b : Int) (lo hi : Nat) (w : World) (h1 : min a b = (lo : Nat) + 1) (h2 : max a b = (hi : Nat) + 1) (hlo : lo < 15) (hhi : hi < 15) :
    Calls Try.prog 45 #[.pointer (some ⟨p, 0, none⟩), .int .i64 a, .int .i64 b] w fun e w' => e = .returned (.pointer (some ⟨p, 2 + (lo * 15 + hi), none⟩)) ∧ w = w' := by
  go_enter Try.func45, Try.ntmps45
  go_wp2
  all_goals (go_ret; refine ⟨?_, rfl⟩; show Ending.returned (Value.pointer (some ⟨p, _, none⟩)) = Ending.returned (Value.pointer (some ⟨p, _, none⟩)); congr 4; omega)
theorem cut_at (d : Nt) (hn : d.n ≤ 15) (p : Nat) (a b : Int) (w : World) (hl : d.links a b = true) :
    Calls Try.prog 45 #[.pointer (some ⟨p, 0, none⟩), .int .i64 a, .int .i64 b] w fun e w' => e = .returned (.pointer (some ⟨p, 2 + place a b, none⟩)) ∧ w = w' := by
  obtain ⟨_, h1, h2⟩ := (links_iff d a b).1 hl
  have h := cut_ptr p a b (min a b - 1).toNat (max a b - 1).toNat w (by omega) (by omega) (by omega) (by omega)
  have e : (min a b - 1).toNat * 15 + (max a b - 1).toNat = place a b := by unfold place; omega
  rw [e] at h
  exact h
set_option maxRecDepth 100000 in
theorem open_no (q : Option Addr) (a b : Int) (w : World) (h : NotMade w q) :
    Calls Try.prog 22 #[.pointer q, .int .i64 a, .int .i64 b] w fun e w' => e = .returned (.bool false) ∧ w = w' := by
  have HM := Lib.hid (links_no q a b w h)
  clear h
  go_enter Try.func22, Try.ntmps22
  go_wp2_with (go_at_call 44; refine HM.out.mono ?_; rintro e w1 ⟨rfl, rfl⟩)
  go_ret
  exact ⟨rfl, rfl⟩
set_option maxRecDepth 100000 in
theorem open_at {w : World} {O I : Nat → Prop} {p : Nat} {d : Nt} {sv : Value} {vs : List MV} (h : NetP w O I p d sv vs) (ho : d.ok) (a b : Int) :
    Calls Try.prog 22 #[.pointer (some ⟨p, 0, none⟩), .int .i64 a, .int .i64 b] w fun e w' => e = .returned (.bool (d.isOpen a b)) ∧ w = w' := by
  have HM := h.links ho a b
  unfold Nt.isOpen
  cases hl : d.links a b
  · rw [hl] at HM
    have HM := Lib.hid HM
    clear h ho hl
    go_enter Try.func22, Try.ntmps22
    go_wp2_with (go_at_call 44; refine HM.out.mono ?_; rintro e w1 ⟨rfl, rfl⟩)
    go_ret
    exact ⟨rfl, rfl⟩
  · rw [hl] at HM
    have HM := Lib.hid HM
    have HC := Lib.hid (cut_at d ho.most p a b w hl)
    have hc := h.cut (k := place a b) (by rw [ho.cuts]; exact place_lt ho.most hl)
    generalize place a b = K at HC hc ⊢
    generalize d.cuts.getD K false = B at hc ⊢
    clear h ho hl
    go_enter Try.func22, Try.ntmps22
    go_wp2_with (first | (go_at_call 44; refine HM.out.mono ?_; rintro e w1 ⟨rfl, rfl⟩) | (go_at_call 45; refine HC.out.mono ?_; rintro e w1 ⟨rfl, rfl⟩))
    go_ret
    exact ⟨rfl, rfl⟩
theorem netCells_set_cut (sv : Value) (d : Nt) (p k : Nat) (hk : k < d.cuts.length) (c : Bool) : (netCells sv d p).setIfInBounds (2 + k) (.bool c) = netCells sv { d with cuts := d.cuts.set k c } p := by
  unfold netCells
  apply Array.ext'
  rw [Array.toList_setIfInBounds]
  show (sv :: Value.int .i64 (d.n : Nat) :: (d.cuts.map Value.bool ++ [.pointer (some ⟨p, 0, none⟩)])).set (2 + k) (.bool c) = sv :: Value.int .i64 (d.n : Nat) :: ((d.cuts.set k c).map Value.bool ++ [.pointer (some ⟨p, 0, none⟩)])
  rw [show 2 + k = k + 1 + 1 by omega, List.set_cons_succ, List.set_cons_succ, List.set_append_left _ _ (by simpa using hk), List.map_set]
theorem netCells_set_row (sv sv' : Value) (d : Nt) (bag : List Msg) (p : Nat) : (netCells sv d p).setIfInBounds 0 sv' = netCells sv' { d with bag := bag } p := by
  unfold netCells
  apply Array.ext'
  rw [Array.toList_setIfInBounds]
  rfl
set_option maxRecDepth 100000 in
theorem turn_at {w : World} {O I : Nat → Prop} {p : Nat} {d : Nt} (h : NetAt w O I p d) (a b : Int) (c : Bool) :
    Calls Try.prog 31 #[.pointer (some ⟨p, 0, none⟩), .int .i64 a, .int .i64 b, .bool c] w (Does w O I p (d.turn a b c).1 (d.turn a b c).2) := by
  have hA := h
  obtain ⟨ho, sv, vs, h⟩ := h
  have HM := h.links ho a b
  unfold Nt.turn
  cases hl : d.links a b
  · rw [hl] at HM
    have HM := Lib.hid HM
    have HF : Hid (Does w O I p 1 d (.returned (.int .i64 1)) w) := Does.still hA 1 (Below.refl _ _)
    clear h ho hl hA
    go_enter Try.func31, Try.ntmps31
    go_wp2_with (go_at_call 44; refine HM.out.mono ?_; rintro e w1 ⟨rfl, rfl⟩)
    go_ret
    exact HF.out
  · rw [hl] at HM
    have HM := Lib.hid HM
    have HC := Lib.hid (cut_at d ho.most p a b w hl)
    have hk : place a b < d.cuts.length := by rw [ho.cuts]; exact place_lt ho.most hl
    have hc := h.cut hk
    have hf := h.fz (2 + place a b)
    have hch : Chg O w (w.setCell ⟨p, 2 + place a b, none⟩ (.bool c)) := (Chg.refl O w).setCell (p := ⟨p, 2 + place a b, none⟩) (.inl h.op) _
    have hch2 : Chg (fun k => k = p) w (w.setCell ⟨p, 2 + place a b, none⟩ (.bool c)) := (Chg.refl (fun k => k = p) w).setCell (p := ⟨p, 2 + place a b, none⟩) (.inl rfl) _
    have HF : Hid (Does w O I p 0 { d with cuts := d.cuts.set (place a b) c } (.returned (.int .i64 0)) (w.setCell ⟨p, 2 + place a b, none⟩ (.bool c))) := by
      refine ⟨rfl, O, I, ⟨?_, sv, vs, ?_⟩, hch, fun _ h => .inl h, fun _ h => .inl h⟩
      · have := Nt.ok.turn ho a b c
        unfold Nt.turn at this
        rw [if_pos hl] at this
        exact this
      · exact {
          block := by rw [← netCells_set_cut sv d p _ hk c]; exact Go.Joins.block_setCell h.block _
          row := h.row.chg hch2 fun k hk e => by rw [e] at hk; exact h.dw hk
          bag := h.bag
          byt := fun v hv => (h.byt v hv).chg hch2 fun k e hI => by rw [e] at hI; exact h.di p h.op hI
          ow := h.ow
          op := h.op
          dw := h.dw
          di := h.di
          lt := fun k hk => Nat.lt_of_lt_of_le (h.lt k hk) hch.size }
    simp only [if_true]
    generalize place a b = K at HC hc hf HF ⊢
    generalize d.cuts.getD K false = B at hc
    clear h ho hl hA hk hch hch2
    go_enter Try.func31, Try.ntmps31
    go_wp2_with (first | (go_at_call 44; refine HM.out.mono ?_; rintro e w1 ⟨rfl, rfl⟩) | (go_at_call 45; refine HC.out.mono ?_; rintro e w1 ⟨rfl, rfl⟩))
    go_ret
    exact HF.out
set_option maxRecDepth 100000 in
theorem turn_no (q : Option Addr) (a b : Int) (c : Bool) (w : World) (h : NotMade w q) :
    Calls Try.prog 31 #[.pointer q, .int .i64 a, .int .i64 b, .bool c] w fun e w' => e = .returned (.int .i64 1) ∧ w = w' := by
  have HM := Lib.hid (links_no q a b w h)
  clear h
  go_enter Try.func31, Try.ntmps31
  go_wp2_with (go_at_call 44; refine HM.out.mono ?_; rintro e w1 ⟨rfl, rfl⟩)
  go_ret
  exact ⟨rfl, rfl⟩
set_option maxRecDepth 100000 in
theorem Cut_at {w : World} {O I : Nat → Prop} {p : Nat} {d : Nt} (h : NetAt w O I p d) (a b : Int) :
    Calls Try.prog 14 #[.pointer (some ⟨p, 0, none⟩), .int .i64 a, .int .i64 b] w (Does w O I p (d.turn a b true).1 (d.turn a b true).2) := by
  have HT := Lib.hid (turn_at h a b true)
  clear h
  generalize d.turn a b true = R at HT ⊢
  go_enter Try.func14, Try.ntmps14
  go_wp2_with (go_at_call 31; refine HT.out.mono ?_; rintro e w1 ⟨rfl, hx⟩)
  go_ret
  exact ⟨rfl, hx⟩
set_option maxRecDepth 100000 in
theorem Heal_at {w : World} {O I : Nat → Prop} {p : Nat} {d : Nt} (h : NetAt w O I p d) (a b : Int) :
    Calls Try.prog 23 #[.pointer (some ⟨p, 0, none⟩), .int .i64 a, .int .i64 b] w (Does w O I p (d.turn a b false).1 (d.turn a b false).2) := by
  have HT := Lib.hid (turn_at h a b false)
  clear h
  generalize d.turn a b false = R at HT ⊢
  go_enter Try.func23, Try.ntmps23
  go_wp2_with (go_at_call 31; refine HT.out.mono ?_; rintro e w1 ⟨rfl, hx⟩)
  go_ret
  exact ⟨rfl, hx⟩
theorem isFull_gen (q : Option Addr) (n : Nat) (w : World) (hn : Calls Try.prog 21 #[.pointer q] w fun e w' => e = .returned (.int .i64 (n : Nat)) ∧ w = w') :
    Calls Try.prog 46 #[.pointer q] w fun e w' => e = .returned (.bool (decide (64 ≤ n))) ∧ w = w' := by
  have HM := Lib.hid hn
  clear hn
  go_enter Try.func46, Try.ntmps46
  go_wp2_with (go_at_call 21; refine HM.out.mono ?_; rintro e w1 ⟨rfl, rfl⟩)
  all_goals go_ret
  all_goals refine ⟨?_, rfl⟩
  all_goals (show Ending.returned (Value.bool _) = Ending.returned (Value.bool _); congr 2; rw [Bool.eq_iff_iff]; simp; try omega)
end Go.Proofs.Ytbmebmkpjbgdoaa
