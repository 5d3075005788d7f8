/- among: a function that tells whether a place is among those; its call; how many unlike ones are as asked. -/
import Derived.Test.YtnfjhpdpeihheaaTimes
import Derived.StillTailTactics
import Derived.Deep.RegionHeld3
import Derived.Maps.OwnOps
import Derived.Shelf.Abstract
namespace Go.Proofs.Ytnfjhpdpeihheaa
open Go.RowKit Go.Maps Go.Shelf
theorem take_snoc {α : Type} {l : List α} {k : Nat} {x : α} (h : l[k]? = some x) : l.take (k + 1) = l.take k ++ [x] := by
  obtain ⟨hkl, rfl⟩ := List.getElem?_eq_some_iff.1 h
  exact List.take_succ_eq_append_getElem hkl
theorem take_all {α : Type} {l : List α} {k : Nat} (h : l.length = k) : l.take k = l := List.take_of_length_le (by omega)
theorem cell_grown {w w' : World} {b : Nat} (h : w.grownBy w' (some b)) {a : Addr} (ha : a.block < w.heap.size) (hb : a.block ≠ b) : w'.cell? a = w.cell? a :=
  World.cell?_of_block (h.block _ ha fun e => hb (Option.some.inj e))
set_option maxRecDepth 100000 in
set_option maxHeartbeats 2000000 in
theorem among_any (v : Value) (l : List PL) (w : World) (hp : PsAt w v l) (hl : l.length ≤ 100000) :
    Calls Try.prog 35 #[v] w fun e w' => e = .returned (.func (.func 53) #[] #[.pointer (some ⟨w.heap.size + 1, 0, none⟩)]) ∧ w'.cell? ⟨w.heap.size + 1, 0, none⟩ = some (.map (some w.heap.size)) ∧ w.heap.size + 1 < w'.heap.size ∧ TimesAt w' w.heap.size l ∧ Below w.heap.size w w' := by
  have HP := Lib.hid hp
  obtain ⟨a, cap, rfl, hlen, -⟩ := hp
  obtain ⟨L, hL⟩ : ∃ L, l.length = L := ⟨_, rfl⟩
  rw [hL] at hlen HP hl ⊢
  have HL := Lib.hid hL
  clear hL
  have hmm := @run_makeMap Try.prog
  have hmf : ∀ (fn : Fn) (first cap : Array Value) (w : World), (Instr.makeFunc fn first cap).run Try.prog w = .ok (.func fn first cap) w := fun _ _ _ _ => rfl
  have HST : Hid (((w.alloc (.map #[] 0)).alloc (.cells #[.map (some w.heap.size)] 82)).cell? ⟨w.heap.size + 1, 0, none⟩ = some (.map (some w.heap.size)) ∧ w.heap.size + 1 < ((w.alloc (.map #[] 0)).alloc (.cells #[.map (some w.heap.size)] 82)).heap.size ∧ TimesAt ((w.alloc (.map #[] 0)).alloc (.cells #[.map (some w.heap.size)] 82)) w.heap.size (l.take 0) ∧ Below w.heap.size w ((w.alloc (.map #[] 0)).alloc (.cells #[.map (some w.heap.size)] 82))) := by
    refine ⟨?_, by simp [World.size_alloc], ?_, Go.Joins.below_alloc2 w _ _⟩
    · rw [show w.heap.size + 1 = (w.alloc (.map #[] 0)).heap.size by simp [World.size_alloc], World.cell?_alloc_new]; rfl
    · exact (TimesAt.made w).below (Go.Joins.below_alloc1 _ _) (Nat.le_refl _)
  go_enter Try.func35, Try.ntmps35
  go_wp2
  go_loopw [9] (fun i wr => ∃ k : Nat, k ≤ L ∧ i = .int .i64 (k : Nat) ∧ Hid (wr.cell? ⟨w.heap.size + 1, 0, none⟩ = some (.map (some w.heap.size)) ∧ w.heap.size + 1 < wr.heap.size ∧ TimesAt wr w.heap.size (l.take k) ∧ Below w.heap.size w wr)) (fun i _ => L - (intOf i).toNat)
  case atStart =>
    exact ⟨0, Nat.zero_le _, rfl, HST.out⟩
  case round =>
    obtain ⟨k, hk, rfl, HR⟩ := hrel
    by_cases hlt : k < L
    · obtain ⟨x, hx⟩ : ∃ x, l[k]? = some x := ⟨_, List.getElem?_eq_getElem (by rw [HL.out]; exact hlt)⟩
      have hltz : (k : Int) < (L : Int) := by omega
      obtain ⟨r1, r2, r3, r4⟩ := HR.out
      obtain ⟨b, off, rfl, hb, hc⟩ := PsAt.cell (HP.out.below r4) hx
      obtain ⟨c0, c1⟩ := hc wr (Below.refl _ _)
      have hxo := HP.out.ok x (List.mem_of_getElem? hx)
      obtain ⟨W, hW⟩ : ∃ W, W = wr.alloc (.cells #[.int .i64 x.n, .int .u64 x.s] 38) := ⟨_, rfl⟩
      have hBW : Below w.heap.size w W := by rw [hW]; exact r4.alloc r4.size _
      have hBr : Below wr.heap.size wr W := by rw [hW]; exact Go.Joins.below_alloc1 wr _
      have hsW : W.heap.size = wr.heap.size + 1 := by rw [hW, World.size_alloc]
      have x0 : W.cell? ⟨wr.heap.size, 0, none⟩ = some (.int .i64 x.n) := by rw [hW, World.cell?_alloc_new]; rfl
      have x1 : W.cell? ⟨wr.heap.size, 1, none⟩ = some (.int .u64 x.s) := by rw [hW, World.cell?_alloc_new]; rfl
      have m0 : W.cell? ⟨w.heap.size + 1, 0, none⟩ = some (.map (some w.heap.size)) := (hBr.cell (p := ⟨w.heap.size + 1, 0, none⟩) r2).trans r1
      have hT : TimesAt W.drew w.heap.size (l.take k) := (r3.below hBr (Nat.le_refl _)).block rfl
      have hlk := hT.look x hxo
      obtain ⟨v0, st, w1, w2, e1, e2, e3, hT2, g1, g2⟩ := hT.bump x hxo (by rw [List.length_take]; omega)
      have x01 : w1.cell? ⟨wr.heap.size, 0, none⟩ = some (.int .i64 x.n) := by
        rw [cell_grown g1 (by show wr.heap.size < W.heap.size; omega) (by show wr.heap.size ≠ w.heap.size; omega)]; exact x0
      have x11 : w1.cell? ⟨wr.heap.size, 1, none⟩ = some (.int .u64 x.s) := by
        rw [cell_grown g1 (by show wr.heap.size < W.heap.size; omega) (by show wr.heap.size ≠ w.heap.size; omega)]; exact x1
      have m1 : w1.cell? ⟨w.heap.size + 1, 0, none⟩ = some (.map (some w.heap.size)) := by
        rw [cell_grown g1 (by show w.heap.size + 1 < W.heap.size; omega) (by show w.heap.size + 1 ≠ w.heap.size; omega)]; exact m0
      have m2 : w2.cell? ⟨w.heap.size + 1, 0, none⟩ = some (.map (some w.heap.size)) := by
        rw [cell_grown g2 (by show w.heap.size + 1 < W.heap.size; omega) (by show w.heap.size + 1 ≠ w.heap.size; omega)]; exact m0
      have HN : Hid (w2.cell? ⟨w.heap.size + 1, 0, none⟩ = some (.map (some w.heap.size)) ∧ w.heap.size + 1 < w2.heap.size ∧ TimesAt w2 w.heap.size (l.take (k + 1)) ∧ Below w.heap.size w w2) :=
        ⟨m2, by have := g2.size; have : W.drew.heap.size = W.heap.size := rfl; omega, by rw [take_snoc hx]; exact hT2, hBW.drew.grown g2 hBW.drew.size (fun j hj => by have := Option.some.inj hj; omega)⟩
      obtain ⟨C, hC⟩ : ∃ C : Nat, (l.take k).count x = C := ⟨_, rfl⟩
      rw [hC] at hlk e2 e3
      have hCL : C ≤ 100000 := by rw [← hC]; exact Nat.le_trans (count_lt _ _) (by rw [List.length_take]; omega)
      clear hT hT2 g1 g2 hBW hBr m2 hC r1 r2 r3 r4 HR hc hx hsW
      go_wp2
      rw [← hW]
      clear hW
      go_region
      all_goals go_wp2
      all_goals go_roundw
      case rel => exact ⟨k + 1, by omega, by go_num, HN.out⟩
      case measure => simp [intOf]; omega
    · obtain rfl : k = L := by omega
      go_wp2
      go_ret
      have := HR.out
      rw [take_all HL.out] at this
      exact ⟨rfl, this⟩
/-- fv is a function of one captured cell that tells whether a place is as p says -/
structure AsksAt (w : World) (f : Nat) (c : Value) (p : PL → Bool) : Prop where
  enters : ∀ args w, (callFunc f args).run Try.prog w = .ok (.enter f args) w
  calls : ∀ W, Below w.heap.size w W → ∀ x : PL, x.ok → Calls Try.prog f #[x.val, c] W fun e w' => e = .returned (.bool (p x)) ∧ Below W.heap.size W w'
theorem AsksAt.below {w w' : World} {f : Nat} {c : Value} {p : PL → Bool} (h : AsksAt w f c p) (hb : Below w.heap.size w w') : AsksAt w' f c p :=
  ⟨h.enters, fun W hW => h.calls W (hb.trans (hW.mono hb.size))⟩
/-- what among hands back -/
structure AmongAt (w : World) (g b : Nat) (l : List PL) : Prop where
  lt : g < w.heap.size
  cell : w.cell? ⟨g, 0, none⟩ = some (.map (some b))
  times : TimesAt w b l
theorem AmongAt.below {w w' : World} {g b : Nat} {l : List PL} (h : AmongAt w g b l) (hb : Below w.heap.size w w') : AmongAt w' g b l :=
  ⟨by have := h.lt; have := hb.size; omega, (hb.cell (p := ⟨g, 0, none⟩) h.lt).trans h.cell, h.times.below hb (Nat.le_refl _)⟩
theorem count_pos (l : List PL) (x : PL) : decide ((0 : Int) < (l.count x : Int)) = l.contains x := by
  have := List.count_pos_iff (a := x) (l := l)
  by_cases h : x ∈ l
  · have := this.2 h
    simp [h]
  · have : ¬ 0 < l.count x := fun h' => h (this.1 h')
    simp [h]
theorem is_any {w : World} {g b : Nat} {l : List PL} (h : AmongAt w g b l) (x : PL) (hx : x.ok) :
    Calls Try.prog 53 #[x.val, .pointer (some ⟨g, 0, none⟩)] w fun e w' => e = .returned (.bool (l.contains x)) ∧ Below w.heap.size w w' := by
  obtain ⟨W, hW⟩ : ∃ W, W = w.alloc (.cells #[.int .i64 x.n, .int .u64 x.s] 38) := ⟨_, rfl⟩
  have hb : Below w.heap.size w W := by rw [hW]; exact Go.Joins.below_alloc1 w _
  have h2 := h.below hb
  have hc := h2.cell
  have hl := h2.times.look x hx
  have hcp := Lib.hid (count_pos l x)
  have HB := Lib.hid hb
  obtain ⟨C, hC⟩ : ∃ C : Nat, l.count x = C := ⟨_, rfl⟩
  rw [hC] at hl hcp
  clear h h2 hb hC
  subst hW
  go_enter Try.func53, Try.ntmps53
  go_wp2
  go_ret
  exact ⟨by rw [← hcp.out]; simp, HB.out⟩
theorem AmongAt.asks {w : World} {g b : Nat} {l : List PL} (h : AmongAt w g b l) : AsksAt w 53 (.pointer (some ⟨g, 0, none⟩)) l.contains :=
  ⟨enters_of Try.func53 (by kernel_rfl) rfl, fun _ hW x hx => is_any (h.below hW) x hx⟩
end Go.Proofs.Ytnfjhpdpeihheaa
