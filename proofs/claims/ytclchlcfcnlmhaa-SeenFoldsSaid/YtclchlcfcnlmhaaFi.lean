/- is, spoil; the document's Cut. -/
import Derived.Test.YtclchlcfcnlmhaaOnceM
namespace Go.Proofs.Ytclchlcfcnlmhaa
open Go.RowKit Go.Maps Go.Shelf
set_option linter.unusedSimpArgs false
def bad : MK := ⟨-1, 0, 0⟩
/-- spoil: what was answered is written over -/
theorem spoil_any (base : Nat) (v : Value) (l : List MK) (w : World) (ho : OwnMs base w v l) :
    Calls Try.prog 37 #[v] w fun e w' => (∃ u, e = .returned u) ∧ Chg (fun k => v.ownBlock = some k) w w' := by
  obtain ⟨L, hL⟩ : ∃ L, l.length = L := ⟨_, rfl⟩
  rcases ho.2 with ⟨rfl, h0⟩ | ⟨g, cap, cur, hv, hgb, hg, hnc, hcm, hcs, htk⟩
  · go_enter Try.func37, Try.ntmps37
    go_wp2
    go_loopw [2] (fun i wr => i = .int .i64 0 ∧ wr = w) (fun _ _ => 0)
    case atStart => exact ⟨rfl, rfl⟩
    case round =>
      obtain ⟨rfl, rfl⟩ := hrel
      go_wp2
      go_end0
      exact ⟨⟨_, rfl⟩, Chg.refl _ _⟩
  · have HLN := Lib.hid hL
    have hlen : L ≤ 9223372036854775807 := by rw [maxLen_eq] at hcm; omega
    rw [hL] at hv hnc
    subst hv
    have HO := Lib.hid ho
    clear hgb hg hcm hcs htk ho
    go_enter Try.func37, Try.ntmps37
    go_wp2
    go_loopw [2] (fun i wr => ∃ (k : Nat) (T : List MK), k ≤ L ∧ i = .int .i64 (k : Nat) ∧ Hid ((OwnMs base wr (.slice (some ⟨g, 0, none⟩) L cap) T ∧ T.length = L) ∧ Chg (fun k => (Value.slice (some ⟨g, 0, none⟩) L cap).ownBlock = some k) w wr)) (fun i _ => L - (intOf i).toNat)
    case atStart => exact ⟨0, l, Nat.zero_le _, rfl, ⟨HO.out, HLN.out⟩, Chg.refl _ _⟩
    case round =>
      obtain ⟨k, T, hk, rfl, HR⟩ := hrel
      by_cases hlt : k < L
      · have hltz : (k : Int) < (L : Int) := by omega
        obtain ⟨⟨e0, d0⟩, ⟨e1, d1⟩, ⟨e2, d2⟩, f0, f1, f2⟩ := OwnMs.has HR.out.1.2 HR.out.1.1 k hlt
        have HZ := Lib.hid (show (OwnMs base (put3 wr g (k * 3) bad) (.slice (some ⟨g, 0, none⟩) L cap) (T.set k bad) ∧ (T.set k bad).length = L) ∧ Chg (fun k => (Value.slice (some ⟨g, 0, none⟩) L cap).ownBlock = some k) w (put3 wr g (k * 3) bad) from
          ⟨⟨HR.out.1.1.set HR.out.1.2 k bad, by rw [List.length_set]; exact HR.out.1.2⟩, put3_chg HR.out.2 g _ _ (.inl rfl)⟩)
        go_wp2
        go_roundw
        case rel => exact ⟨k + 1, _, by omega, by go_num, HZ.out⟩
        case measure => simp [intOf]; omega
      · obtain rfl : k = L := by omega
        have HC := Lib.hid HR.out.2
        clear HR
        go_wp2
        go_end0
        exact ⟨⟨_, rfl⟩, HC.out⟩
theorem is_any (base : Nat) (v u : Value) (z f : Int) (l m : List MK) (w : World) (ho : OwnMs base w v l) (hok : ∀ m ∈ l, m.ok) (hq : MsAt w u m) :
    Calls Try.prog 18 #[v, .int .i64 z, u, .int .i64 f] w fun e w' => e = .returned (.bool (decide (z = f) && decide (l = m))) ∧ Chg (fun k => v.ownBlock = some k) w w' := by
  have HS := Lib.hid (rsame_any v u l m w (ho.at hok) hq)
  have HO := Lib.hid ho
  obtain ⟨b, hb⟩ : ∃ b, decide (l = m) = b := ⟨_, rfl⟩
  rw [hb] at HS ⊢
  clear hb ho hok hq
  by_cases hzf : z = f
  · have hbb : (z == f) = true := by simp [hzf]
    have HD := Lib.hid (decide_eq_true hzf)
    clear hzf
    go_enter Try.func18, Try.ntmps18
    go_wp2_with fail
    refine HS.out.mono ?_
    rintro e w1 ⟨rfl, hb1⟩
    have HSP := Lib.hid (spoil_any base v l w1 (HO.out.kept hb1 (Nat.le_refl _)))
    have HB1 := Lib.hid hb1
    clear hb1
    go_wp2_with fail
    refine HSP.out.mono ?_
    rintro e w2 ⟨⟨u2, rfl⟩, hc⟩
    have HC := Lib.hid ((Chg.of_below (S := fun k => v.ownBlock = some k) HB1.out (Nat.le_refl _)).trans hc)
    clear hc
    go_wp2
    go_ret
    exact ⟨by rw [HD.out]; simp, HC.out⟩
  · have hbb : (z == f) = false := by simp [hzf]
    have HD := Lib.hid (decide_eq_false hzf)
    have HSP := Lib.hid (spoil_any base v l w HO.out)
    clear hzf
    go_enter Try.func18, Try.ntmps18
    go_wp2_with fail
    refine HSP.out.mono ?_
    rintro e w2 ⟨⟨u2, rfl⟩, hc⟩
    have HC := Lib.hid hc
    clear hc
    go_wp2
    go_ret
    exact ⟨by rw [HD.out]; simp, HC.out⟩
theorem mk_oneCell (x : MK) : ∀ u ∈ x.cells, u.oneCell' = true := fun u hu => ms_oneCell [x] u (by simpa using hu)
set_option maxHeartbeats 1000000 in
theorem rcut_any (v : Value) (l : List MK) (a : Int) (w : World) (hp : MsAt w v l) (hl : l.length ≤ 100000) :
    Calls Try.prog 20 #[v, .int .u64 a] w fun e w' => ∃ v', e = .returned v' ∧ OwnMs w.heap.size w' v' (cutM a l) ∧ Below w.heap.size w w' := by
  have HP := Lib.hid hp
  obtain ⟨a0, cap, rfl, hlen, -⟩ := hp
  obtain ⟨L, hL⟩ : ∃ L, l.length = L := ⟨_, rfl⟩
  rw [hL] at hlen HP hl ⊢
  have HL := Lib.hid hL
  clear hL
  go_enter Try.func20, Try.ntmps20
  go_wp2
  go_loopw [5, 6] (fun ov i wr => ∃ k : Nat, k ≤ L ∧ i = .int .i64 (k : Nat) ∧ Hid (OwnMs w.heap.size wr ov (cutM a (l.take k)) ∧ Below w.heap.size w wr)) (fun _ i _ => L - (intOf i).toNat)
  case atStart => exact ⟨0, Nat.zero_le _, rfl, World.ownsRow_nil _ _ _ _, Below.refl _ _⟩
  case round =>
    obtain ⟨k, hk, rfl, HR⟩ := hrel
    by_cases hlt : k < L
    · obtain ⟨x, hx⟩ : ∃ x, l[k]? = some x := ⟨_, List.getElem?_eq_getElem (by rw [HL.out]; exact hlt)⟩
      have hltz : (k : Int) < (L : Int) := by omega
      obtain ⟨b, off, rfl, hb, hc⟩ := MsAt.cell (HP.out.below HR.out.2) hx
      obtain ⟨c0, c1, c2⟩ := hc wr (Below.refl _ _)
      have HST := Lib.hid (show cutM a (l.take (k + 1)) = if decide (a ≤ x.o) = true then cutM a (l.take k) else cutM a (l.take k) ++ [x] by unfold cutM; rw [take_snoc hx, rej_app])
      obtain ⟨F, hF⟩ : ∃ F, cutM a (l.take k) = F := ⟨_, rfl⟩
      have HFL := Lib.hid (show F.length ≤ L by rw [← hF]; refine Nat.le_trans (rej_len _ _) ?_; rw [List.length_take]; omega)
      rw [hF] at HR HST
      clear hb hc hx hF
      by_cases hao : a ≤ x.o
      · have HT := Lib.hid (show cutM a (l.take (k + 1)) = F by rw [HST.out, if_pos (decide_eq_true hao)])
        have hd : decide (x.o < a) = false := decide_eq_false (by omega)
        clear hao
        go_wp2
        go_roundw
        case rel => exact ⟨k + 1, by omega, by go_num, by rw [HT.out]; exact HR.out.1, HR.out.2⟩
        case measure => simp [intOf]; omega
      · have HT := Lib.hid (show cutM a (l.take (k + 1)) = F ++ [x] by rw [HST.out, if_neg (by simp; omega)])
        have hd : decide (x.o < a) = true := decide_eq_true (by omega)
        clear hao
        have HBX := Lib.hid (show BoxC (wr.alloc (.cells #[.int .i64 x.p, .int .u64 x.s, .int .u64 x.o] 26)) wr.heap.size 26 x.cells.toArray from BoxC.new wr 26 x.cells.toArray)
        have HOW := Lib.hid (show OwnMs w.heap.size (wr.alloc (.cells #[.int .i64 x.p, .int .u64 x.s, .int .u64 x.o] 26)) u5 F ∧ Below w.heap.size w (wr.alloc (.cells #[.int .i64 x.p, .int .u64 x.s, .int .u64 x.o] 26)) from
          ⟨HR.out.1.kept (Go.Joins.below_alloc1 wr _) (Nat.le_refl _), HR.out.2.trans ((Go.Joins.below_alloc1 wr _).mono HR.out.2.size)⟩)
        have HSM := Lib.hid (show F.length + 1 ≤ 1000000 by have := HFL.out; omega)
        have HONE := Lib.hid (mk_oneCell x)
        go_wp2_with (at_builtin; refine wpList_app_one rfl _ _ 22 26 3 24 _ MK.cells rfl Try.underlying22 info26 rfl (by decide) (by decide) (fun _ => rfl) w.heap.size _ F x wr.heap.size rfl rfl HOW.out.1 HBX.out HONE.out HSM.out HOW.out.2.size ?_; intro g5 c5 w5 hg5; have HZ := Lib.hid (show OwnMs w.heap.size w5 (.slice (some ⟨g5, 0, none⟩) (F.length + 1) c5) (F ++ [x]) ∧ Below w.heap.size w w5 from ⟨hg5.1, HOW.out.2.grown hg5.2.1 HOW.out.2.size (fun j hj => (OwnRow.lt HOW.out.1 j hj).1)⟩); clear hg5)
        go_roundw
        case rel => exact ⟨k + 1, by omega, by go_num, by rw [HT.out]; exact HZ.out.1, HZ.out.2⟩
        case measure => simp [intOf]; omega
    · obtain rfl : k = L := by omega
      have HD := Lib.hid (show OwnMs w.heap.size wr u5 (cutM a l) ∧ Below w.heap.size w wr from by have := HR.out; rwa [take_all HL.out] at this)
      clear HR
      go_wp2
      go_ret
      exact ⟨_, rfl, HD.out⟩
end Go.Proofs.Ytclchlcfcnlmhaa
