/- plan's apart, of a row of places: no two of one node. -/
import Derived.Test.YtpihogkhfmijcaaGreatSortI
namespace Go.Proofs.YtpihogkhfmijcaaGreat
open Go.RowKit Go.Maps Go.Shelf
attribute [local go_sem] Oper.semAt_some
theorem info3 : (Tryz.prog.info? 3).map (fun i => (i.zero, i.size, i.bytes)) = some (some (.int .i64 0), 1, 8) := by kernel_rfl
theorem node_any (x : PL) (w : World) : Calls Tryz.prog 73 #[x.val] w fun e w' => e = .returned (.int .i64 x.n) ∧ Below w.heap.size w w' := by
  obtain ⟨n, s⟩ := x
  have HB := Lib.hid (Go.Joins.below_alloc1 w (.cells #[.int .i64 n, .int .u64 s] 40))
  go_enter Tryz.func73, Tryz.ntmps73
  go_wp2
  go_ret
  exact ⟨rfl, HB.out⟩
theorem is1 (x : Int) : ∀ u ∈ encI x, u.oneCell' = true := by
  intro u hu
  simp only [encI, List.mem_cons, List.not_mem_nil, or_false] at hu
  rcases hu with rfl
  rfl
def ApPost (l : List PL) (w : World) (e : Ending) (w' : World) : Prop := ∃ R : Bool, e = .returned (.bool R) ∧ (R = true ↔ (l.map PL.n).Nodup) ∧ Below w.heap.size w w'
/-- the nodes so far -/
structure ApAt (w : World) (l : List PL) (W : World) (i : Nat) (a : Option Addr) (c : Nat) : Prop where
  row : OwnIs w.heap.size W (.slice a i c) ((l.take i).map PL.n)
  bel : Below w.heap.size w W
theorem ApAt.zero (w : World) (l : List PL) : ApAt w l w 0 none 0 := ⟨World.ownsRow_nil _ _ _ _, Below.refl _ _⟩
theorem ApAt.on {w W W' : World} {l : List PL} {i : Nat} {a : Option Addr} {c : Nat} (h : ApAt w l W i a c) (hb : Below W.heap.size W W') : ApAt w l W' i a c :=
  ⟨OwnRow.same h.row (fun b hab => hb.block b (OwnRow.ab h.row b hab).2), h.bel.trans (hb.mono h.bel.size)⟩
theorem ApAt.more {w W w2 : World} {l : List PL} {i : Nat} {a : Option Addr} {c : Nat} (h : ApAt w l W i a c) {x : PL} (hx : l[i]? = some x) {g cap : Nat} (hg : Grown 3 1 encI w.heap.size W (.slice a i c) ((l.take i).map PL.n) x.n g cap w2) : ApAt w l w2 (i + 1) (some ⟨g, 0, none⟩) cap := by
  obtain ⟨hr, hgr, -, -⟩ := hg
  have hi := (List.getElem?_eq_some_iff.1 hx).1
  rw [ownBlock_ab] at hgr
  refine ⟨?_, h.bel.grown hgr h.bel.size (fun k e => (OwnRow.ab h.row k e).1)⟩
  rw [List.length_map, List.length_take, Nat.min_eq_left (by omega)] at hr
  rw [take_snoc hx, List.map_append]
  exact hr
set_option linter.unusedSimpArgs false in
set_option maxRecDepth 100000 in
set_option maxHeartbeats 2000000 in
theorem apart_any (a : Option Addr) (c : Nat) (l : List PL) (w : World) (h : PsAt w (.slice a l.length c) l) (hl : l.length ≤ 1000) :
    Calls Tryz.prog 72 #[.slice a l.length c, .func (.func 73) #[] #[]] w fun e w' => ApPost l w e w' := by
  obtain ⟨N, hN⟩ : ∃ N, l.length = N := ⟨_, rfl⟩
  have HH := Lib.hid h
  have HN := Lib.hid hN
  rw [hN] at HH hl ⊢
  have hen := enters_of (P := Tryz.prog) (f := 73) Tryz.func73 (by kernel_rfl) rfl
  clear h hN
  go_enter Tryz.func72, Tryz.ntmps72
  go_wp2
  go_loopw [5, 10] (fun s z wr => ∃ i : Nat, i ≤ N ∧ z = .int .i64 (i : Nat) ∧ ∃ ta tc, s = .slice ta i tc ∧ Hid (ApAt w l wr i ta tc)) (fun _ z _ => N - (intOf z).toNat)
  case atStart => exact ⟨0, Nat.zero_le _, rfl, _, _, rfl, ApAt.zero w l⟩
  case round =>
    obtain ⟨i, hi, rfl, ta, tc, rfl, HR⟩ := hrel
    by_cases hlt : i < N
    · have hltz : (i : Int) < (N : Int) := by omega
      obtain ⟨x, hx⟩ : ∃ x, l[i]? = some x := ⟨_, List.getElem?_eq_getElem (by rw [HN.out]; exact hlt)⟩
      obtain ⟨b, off, he, -, hc⟩ := PsAt.cell (HH.out.below HR.out.bel) hx
      subst he
      obtain ⟨c0, c1⟩ := hc wr (Below.refl _ _)
      have HX := Lib.hid hx
      have HNA := Lib.hid (fun (W : World) => node_any x W)
      clear hc hx
      go_wp2_with fail
      refine (HNA.out _).mono ?_
      rintro e w1 ⟨rfl, hb1⟩
      have HR1 := Lib.hid (HR.out.on ((Go.Joins.below_alloc1 wr (.cells #[.int .i64 x.n, .int .u64 x.s] 40)).trans (hb1.mono (Go.Joins.below_alloc1 wr (.cells #[.int .i64 x.n, .int .u64 x.s] 40)).size)))
      have HR2 := Lib.hid (HR1.out.on (Go.Joins.below_alloc1 w1 (.cells #[.int .i64 x.n] 3)))
      have HZ : Hid (BoxC (w1.alloc (.cells #[.int .i64 x.n] 3)) w1.heap.size 3 (encI x.n).toArray) := BoxC.new w1 3 #[.int .i64 x.n]
      have hlen : ((l.take i).map PL.n).length = i := by rw [List.length_map, List.length_take]; have := HN.out; omega
      have HSM := Lib.hid (show ((l.take i).map PL.n).length + 1 ≤ 1000000 by omega)
      have HM := Lib.hid (show ∀ g cap w2, Grown 3 1 encI w.heap.size (w1.alloc (.cells #[.int .i64 x.n] 3)) (.slice ta i tc) ((l.take i).map PL.n) x.n g cap w2 → ApAt w l w2 (i + 1) (some ⟨g, 0, none⟩) cap from fun g cap w2 hg => HR2.out.more HX.out hg)
      have HLEN := Lib.hid hlen
      clear hb1 hlen c0 c1
      go_wp2_with (at_builtin; refine wpList_app_one rfl (.tmp 14) (.tmp 18) 108 3 1 8 _ encI rfl Tryz.underlying108 info3 rfl (by decide) (by decide) (fun _ => rfl) w.heap.size (.slice ta i tc) ((l.take i).map PL.n) x.n w1.heap.size rfl rfl HR2.out.row HZ.out (is1 _) HSM.out HR2.out.bel.size ?_; intro g cc w2 hg; rw [HLEN.out]; have HR3 := Lib.hid (HM.out g cc w2 hg); clear hg)
      go_roundw
      case rel => exact ⟨i + 1, by omega, by go_num, _, _, rfl, HR3.out⟩
      case measure => simp [intOf]; omega
    · obtain rfl : i = N := by omega
      have hown : OwnIs w.heap.size wr (.slice ta i tc) (l.map PL.n) := by
        have := HR.out.row
        rw [take_all HN.out] at this
        exact this
      have HS := Lib.hid (sortI_any _ _ _ hown (by rw [List.length_map]; have := HN.out; omega) HR.out.bel.size)
      have HRI := Lib.hid (show ∀ W, IsAt W (.slice ta i tc) (sorted (l.map PL.n)) → Calls Tryz.prog 82 #[.slice ta i tc, .func (.func 83) #[] #[]] W fun e w' => RisesPost (sorted (l.map PL.n)) W e w' from fun W hW => by
        have hlen : (sorted (l.map PL.n)).length = i := by rw [sorted_len, List.length_map]; exact HN.out
        have := rises_any ta tc (sorted (l.map PL.n)) W (by rw [hlen]; exact hW) (by omega)
        rw [hlen] at this
        exact this)
      clear hown
      go_wp2_with fail
      refine HS.out.mono ?_
      rintro e w1 ⟨rfl, h1, hb1⟩
      have HB1 := Lib.hid (HR.out.bel.trans hb1)
      have HC := Lib.hid (HRI.out w1 h1)
      clear h1 hb1
      go_wp2_with fail
      refine HC.out.mono ?_
      rintro e w2 ⟨R, rfl, hR, hb2⟩
      have HF := Lib.hid (show ApPost l w (.returned (.bool R)) w2 from ⟨R, rfl, hR.trans (sorted_rise _), HB1.out.trans (hb2.mono HB1.out.size)⟩)
      clear hR hb2
      go_wp2
      go_ret
      exact HF.out
end Go.Proofs.YtpihogkhfmijcaaGreat
