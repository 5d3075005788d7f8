/- The program's Fold. -/
import Derived.Test.YtclchlcfcnlmhaaFw
import Derived.Test.YtclchlcfcnlmhaaFx
namespace Go.Proofs.Ytclchlcfcnlmhaa
open Go.RowKit Go.Maps Go.Shelf
set_option linter.unusedSimpArgs false
set_option linter.unusedVariables false
/-- R is what Fold asks: rising, of each producer the last one -/
def IsFold (T R : List MK) : Prop := Ris R ∧ ∀ p, look R p = look T.reverse p
set_option maxRecDepth 100000 in
set_option maxHeartbeats 4000000 in
theorem fold_any (vb vl : Value) (b l : List MK) (a : Int) (w : World) (hb : MsAt w vb b) (hl : MsAt w vl l) (hbl : b.length ≤ 1000) (hll : l.length ≤ 1000) :
    Calls Try.prog 28 #[vb, vl, .int .u64 a] w fun e w' => ∃ v' R, e = .returned v' ∧ OwnMs w.heap.size w' v' R ∧ IsFold (cutM a b ++ cutM a l) R ∧ Below w.heap.size w w' := by
  have HP := Lib.hid (And.intro hb hl)
  have HC1 := Lib.hid (cut_any vb b a w hb (by omega))
  obtain ⟨X, hX⟩ : ∃ X, cutM a b = X := ⟨_, rfl⟩
  obtain ⟨Y, hY⟩ : ∃ Y, cutM a l = Y := ⟨_, rfl⟩
  have hXl : X.length ≤ 1000 := by rw [← hX]; exact Nat.le_trans (rej_len _ _) hbl
  have hYl : Y.length ≤ 1000 := by rw [← hY]; exact Nat.le_trans (rej_len _ _) hll
  have HXok := Lib.hid (show (∀ q ∈ X, q.ok) ∧ ∀ q ∈ Y, q.ok from ⟨hX ▸ rej_ok hb.ok, hY ▸ rej_ok hl.ok⟩)
  have HSM := Lib.hid (show X.length + Y.length ≤ 1000000 ∧ (X ++ Y).length ≤ 100000 by rw [List.length_append]; omega)
  have HONE := Lib.hid (ms_oneCell Y)
  have HYE := Lib.hid hY
  have HLL := Lib.hid (show l.length ≤ 100000 by omega)
  rw [hX] at HC1 ⊢
  rw [hY]
  obtain ⟨T, hT⟩ : ∃ T, X ++ Y = T := ⟨_, rfl⟩
  rw [hT] at HSM ⊢
  have HOK := Lib.hid (show ∀ q ∈ T, q.ok from fun q hq => by
    rw [← hT] at hq
    rcases List.mem_append.1 hq with hq | hq
    · exact HXok.out.1 q hq
    · exact HXok.out.2 q hq)
  have HT := Lib.hid hT
  clear hb hl hbl hll hX hY hXl hYl hT
  go_enter Try.func28, Try.ntmps28
  go_wp2_with fail
  refine HC1.out.mono ?_
  rintro e w1 ⟨v1, rfl, ho1, hb1⟩
  have H1 := Lib.hid (And.intro ho1 hb1)
  have HC2 := Lib.hid (cut_any vl l a w1 (HP.out.2.below hb1) HLL.out)
  rw [HYE.out] at HC2
  clear ho1 hb1 HC1
  go_wp2_with fail
  refine HC2.out.mono ?_
  rintro e w2 ⟨v2, rfl, ho2, hb2⟩
  have H2 := Lib.hid (show OwnMs w.heap.size w2 v1 X ∧ MsAt w2 v2 Y ∧ Below w.heap.size w w2 from ⟨H1.out.1.kept hb2 (Nat.le_refl _), ho2.at HXok.out.2, H1.out.2.trans (hb2.mono H1.out.2.size)⟩)
  clear ho2 hb2 HC2
  go_wp2_with (first
    | (at_builtin; refine wpList_append_rows rfl _ _ 22 26 3 24 _ MK.cells rfl Try.underlying22 info26 rfl (by decide) (by decide) (fun _ => rfl) w.heap.size _ _ X Y rfl rfl H2.out.1 H2.out.2.1 HONE.out HSM.out.1 H2.out.2.2.size ?_; intro v3 w3 ho3 hg3; have H3 := Lib.hid (show OwnMs w.heap.size w3 v3 T ∧ Below w.heap.size w w3 from ⟨by rw [← HT.out]; exact ho3, H2.out.2.2.grown hg3 H2.out.2.2.size (fun j hj => (OwnRow.lt H2.out.1 j hj).1)⟩); clear ho3 hg3)
    | fail)
  rcases H3.out.1.2 with ⟨h0, hz⟩ | ⟨g, cap, cur, hv, hbg, hg, hr⟩
  · obtain rfl : T = [] := List.eq_nil_of_length_eq_zero hz
    subst h0
    have HR := Lib.hid (rev_none w3)
    have HS := Lib.hid (sorts_none w3)
    have HK := Lib.hid (compact_none w3)
    refine HR.out.mono ?_
    rintro e w4 ⟨rfl, rfl⟩
    go_wp2_with fail
    refine HS.out.mono ?_
    rintro e w4 ⟨rfl, rfl⟩
    go_wp2_with fail
    refine HK.out.mono ?_
    rintro e w4 ⟨rfl, rfl⟩
    go_wp2
    go_ret
    exact ⟨_, [], rfl, H3.out.1, ⟨List.Pairwise.nil, fun p => rfl⟩, H3.out.2⟩
  · subst hv
    have hgl := (Array.getElem?_eq_some_iff.1 hg).1
    obtain ⟨L, hL⟩ : ∃ L, T.length = L := ⟨_, rfl⟩
    rw [hL] at H3 HSM ⊢
    have HI := Lib.hid (show InP w.heap.size w3 w3 g L cap T from ⟨H3.out.1, hL, HOK.out, Chg.refl _ _, hgl⟩)
    have HR := Lib.hid (rev_any w.heap.size w3 g L cap T w3 HI.out HSM.out.2)
    have HBG := Lib.hid hbg
    have HL := Lib.hid hL
    clear hL hgl hbg hg hr
    refine HR.out.mono ?_
    rintro e w4 ⟨rfl, h4⟩
    have HS := Lib.hid (sorts_any w.heap.size w3 g L cap T.reverse w4 h4 HSM.out.2)
    clear h4 HR
    go_wp2_with fail
    refine HS.out.mono ?_
    rintro e w5 ⟨rfl, T', h5, h6, h7⟩
    have HK := Lib.hid (compact_any w.heap.size w3 g L cap T' w5 h5 HSM.out.2)
    have HF := Lib.hid (show IsFold T (cpt T' L) from by have := fold_says h6 h7; rwa [h5.len] at this)
    clear h5 h6 h7 HS
    go_wp2_with fail
    refine HK.out.mono ?_
    rintro e w6 ⟨rfl, h8, h9⟩
    have H8 := Lib.hid (And.intro h8 (H3.out.2.trans (h9.below H3.out.2.size (fun k hk => by rw [hk]; exact HBG.out))))
    clear h8 h9 HK
    go_wp2
    go_ret
    exact ⟨_, _, rfl, H8.out.1, HF.out, H8.out.2⟩
end Go.Proofs.Ytclchlcfcnlmhaa
