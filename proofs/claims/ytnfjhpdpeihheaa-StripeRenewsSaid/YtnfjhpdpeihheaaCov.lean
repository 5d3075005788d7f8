/- Covered. -/
import Derived.Test.YtnfjhpdpeihheaaTold
namespace Go.Proofs.Ytnfjhpdpeihheaa
open Go.RowKit Go.Maps Go.Shelf
attribute [local go_sem] Oper.semAt_some
theorem PsAt.keep {A B : World} {v : Value} {l : List PL} {row : Option Nat} (h : PsAt A v l) (hg : A.grownBy B row) (hr : ∀ r, row = some r → ∃ o : Obj, A.heap[r]? = some o ∧ o.isCells = false) : PsAt B v l := by
  obtain ⟨a, cap, hv, hl, hlc, hn, h⟩ := h
  refine ⟨a, cap, hv, hl, hlc, hn, fun h0 => ?_⟩
  obtain ⟨b, off, ha, hb, hc⟩ := h h0
  refine ⟨b, off, ha, Nat.lt_of_lt_of_le hb hg.size, fun j x hj => ⟨(hc j x hj).1, fun r hr2 => ?_⟩⟩
  obtain ⟨e, he⟩ : ∃ e, (PL.cells x)[r]? = some e := ⟨_, List.getElem?_eq_getElem (by simpa [PL.cells] using hr2)⟩
  rw [he]
  exact cell_kept (((hc j x hj).2 r hr2).trans he) hg hr
/-- round k hands out the write set from k on -/
def SetT (row : List PL) (n : Nat) (k : Nat) (v : Array Value) (W : World) : Prop := ∃ g : Nat, v = #[.slice (some ⟨g, 0, none⟩) n n] ∧ PsAt W (.slice (some ⟨g, 0, none⟩) n n) (rot row k n)
set_option maxRecDepth 100000 in
set_option maxHeartbeats 2000000 in
theorem sets_told (m : Nat) (hm : 1 ≤ m) (B2 B3 c n : Nat) (a : Option Addr) (row : List PL) (w : World) (hb2 : B2 < w.heap.size) (hb3 : B3 < w.heap.size) (hE : 0 < row.length) (hl : row.length ≤ 100000) (hn : n ≤ 100000)
    (h2 : w.cell? ⟨B2, 1, none⟩ = some (.slice a row.length c)) (h3 : w.cell? ⟨B3, 0, none⟩ = some (.int .i64 (n : Nat))) (hp : PsAt w (.slice a row.length c) row) :
    Told Fence.wide m Try.prog 54 #[.pointer (some ⟨B2, 0, none⟩), .pointer (some ⟨B3, 0, none⟩)] (SetT row n) row.length w := by
  intro l J Jx W hW hJ hY h0
  have HP := Lib.hid hp
  have HROW := Lib.hid (rot_mem (row := row) (fr := 0) (w := 0) hE)
  obtain ⟨E, hE'⟩ : ∃ E, row.length = E := ⟨_, rfl⟩
  rw [hE'] at hE hl h2 HP hY ⊢
  have HE := Lib.hid hE'
  clear hE' hp HROW
  show CallsIn _ _ _ 54 #[.func (.yield l) #[] #[], .pointer (some ⟨B2, 0, none⟩), .pointer (some ⟨B3, 0, none⟩)] W _
  refine callsIn_of_wp Try.func54 rfl trivial ?_ rfl
  simp only [Try.ntmps54, List.size_toArray, List.length_cons, List.length_nil, Nat.reduceAdd, Nat.reduceSub, Array.replicate_succ, Array.replicate_zero, List.push_toArray, List.append_toArray, List.nil_append, List.cons_append]
  have q2 := (hW.cell (p := ⟨B2, 1, none⟩) hb2).trans h2
  gi_wp2
  gi_loopw [8] (fun i wr => ∃ k : Nat, k ≤ E ∧ i = .int .i64 (k : Nat) ∧ Hid (J k wr ∧ Below w.heap.size W wr)) (fun i _ => E - (intOf i).toNat)
  case atStart => exact ⟨0, Nat.zero_le _, rfl, h0, Below.refl _ _⟩
  case round =>
    obtain ⟨k, hk, rfl, HR⟩ := hrel
    have hwr : Below w.heap.size w wr := hW.trans HR.out.2
    have d2 := (hwr.cell (p := ⟨B2, 1, none⟩) hb2).trans h2
    have d3 := (hwr.cell (p := ⟨B3, 0, none⟩) hb3).trans h3
    by_cases hlt : k < E
    · have HRD := Lib.hid (round_any (.slice a E c) row k n wr (HP.out.below hwr) (by rw [HE.out]; exact hE) (by rw [HE.out]; exact hl) (by omega) hn)
      have hok := HP.out.ok
      have HJ := Lib.hid (fun w1 (hb : Below wr.heap.size wr w1) (ho : OwnPs wr.heap.size w1 (.slice (some ⟨wr.heap.size, 0, none⟩) n n) (rot row k n)) =>
        hY k #[.slice (some ⟨wr.heap.size, 0, none⟩) n n] w1 (hJ k wr w1 HR.out.1 hb) hlt ⟨wr.heap.size, rfl, ho.at fun x hx => hok x (rot_mem (by rw [HE.out]; exact hE) x hx)⟩)
      have HWR := Lib.hid HR.out.2
      have HWS := Lib.hid hwr.size
      clear q2 h2 h3 hok
      gi_wp2_with fail
      refine ⟨trivial, (callsIn_wide.2 HRD.out).mono ?_⟩
      rintro e w1 ⟨rfl, ho, hb⟩
      obtain ⟨fn, tmps, assign, body, hy, hR⟩ := HJ.out w1 hb ho
      have HB1 := Lib.hid (HWR.out.trans (hb.mono HWS.out))
      clear ho hb
      gi_wp2
      refine hR.mono ?_
      rintro e W3 (⟨rfl, hJ3, hk3⟩ | ⟨rfl, hJx3⟩)
      · have HN := Lib.hid (And.intro hJ3 (HB1.out.trans hk3))
        clear hJ3 hk3
        gi_wp2
        go_roundw
        case rel => exact ⟨k + 1, by omega, by go_num, HN.out⟩
        case measure => simp [intOf]; omega
      · gi_wp2
        refine bodyPost_ret (results_none rfl _ _ _) rfl ?_
        exact ⟨⟨_, rfl⟩, .inr ⟨k + 1, by omega, hJx3⟩⟩
    · obtain rfl : k = E := by omega
      gi_wp2
      go_end0
      exact ⟨⟨_, rfl⟩, .inl HR.out.1⟩
end Go.Proofs.Ytnfjhpdpeihheaa
