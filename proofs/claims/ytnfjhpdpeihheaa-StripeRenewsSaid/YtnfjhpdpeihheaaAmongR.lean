/- The document's Among, Acked, Missing. -/
import Derived.Test.YtnfjhpdpeihheaaEq
namespace Go.Proofs.Ytnfjhpdpeihheaa
open Go.RowKit Go.Maps Go.Shelf
theorem hits_snoc (p : PL → Bool) (l : List PL) (x : PL) : hits p (l ++ [x]) = hits p l + if (!l.contains x && p x) = true then 1 else 0 := by
  unfold hits
  rw [List.filter_append]
  cases hp : p x
  · simp [hp]
  · simp only [List.filter_cons, hp, List.filter_nil, if_true]
    rw [dist_snoc]
    by_cases h : x ∈ l <;> simp [h, hp]
set_option maxRecDepth 100000 in
set_option maxHeartbeats 1500000 in
theorem ramong_any (v u : Value) (l m : List PL) (w : World) (hp : PsAt w v l) (hq : PsAt w u m) (hl : l.length ≤ 100000) (hm : m.length ≤ 100000) :
    Calls Try.prog 29 #[v, u] w fun e w' => e = .returned (.int .i64 (hits m.contains l)) ∧ Below w.heap.size w w' := by
  have HP := Lib.hid hp
  have HQ := Lib.hid hq
  obtain ⟨a, cap, rfl, hlen, -⟩ := hp
  obtain ⟨a2, cap2, rfl, hlen2, -⟩ := hq
  obtain ⟨L, hL⟩ : ∃ L, l.length = L := ⟨_, rfl⟩
  obtain ⟨M, hM⟩ : ∃ M, m.length = M := ⟨_, rfl⟩
  rw [hL] at hlen HP hl ⊢
  rw [hM] at hlen2 HQ hm ⊢
  have HL := Lib.hid hL
  have HM := Lib.hid hM
  clear hL hM
  go_enter Try.func29, Try.ntmps29
  go_wp2
  go_loopw [5, 6] (fun n i wr => ∃ k h : Nat, k ≤ L ∧ i = .int .i64 (k : Nat) ∧ n = .int .i64 (h : Nat) ∧ h ≤ k ∧ Hid (h = hits m.contains (l.take k) ∧ Below w.heap.size w wr)) (fun _ i _ => L - (intOf i).toNat)
  case atStart => exact ⟨0, 0, Nat.zero_le _, rfl, rfl, Nat.le_refl _, rfl, Below.refl _ _⟩
  case round =>
    obtain ⟨i, h, hi, rfl, rfl, hhi, HR⟩ := hrel
    obtain ⟨wo, rfl⟩ : ∃ wo : World, wo = wr := ⟨_, rfl⟩
    by_cases hlt : i < L
    · obtain ⟨x, hx⟩ : ∃ x, l[i]? = some x := ⟨_, List.getElem?_eq_getElem (by rw [HL.out]; exact hlt)⟩
      have hltz : (i : Int) < (L : Int) := by omega
      obtain ⟨b, off, rfl, hb, -⟩ := PsAt.cell (HP.out.below HR.out.2) hx
      have HCX := Lib.hid (show ∀ j y, l[j]? = some y → ∀ W, Below w.heap.size w W → W.cell? ⟨b, off + j * 2, none⟩ = some (.int .i64 y.n) ∧ W.cell? ⟨b, off + j * 2 + 1, none⟩ = some (.int .u64 y.s) from fun j y hy W hW => by
        obtain ⟨b', off', he, _, hc⟩ := PsAt.cell (HP.out.below hW) hy
        cases he
        exact hc W (Below.refl _ _))
      have HX := Lib.hid hx
      have HSN := Lib.hid (show hits m.contains (l.take (i + 1)) = hits m.contains (l.take i) + if (!(l.take i).contains x && m.contains x) = true then 1 else 0 by rw [take_snoc hx, hits_snoc])
      clear hx hb
      go_wp2
      go_loopw [7, 8] (fun f j wr => ∃ (k : Nat) (F : Bool), k ≤ i ∧ j = .int .i64 (k : Nat) ∧ f = .bool F ∧ Hid (F = !(l.take k).contains x) ∧ Hid (Below w.heap.size w wr)) (fun _ j _ => i - (intOf j).toNat)
      case atStart => exact ⟨0, true, Nat.zero_le _, rfl, rfl, Lib.hid (by simp), HR.out.2⟩
      case round =>
        obtain ⟨k, F, hk, rfl, rfl, HF, HW⟩ := hrel
        by_cases hki : k < i
        · have hkz : (k : Int) < (i : Int) := by omega
          have hkL : (k : Int) < (L : Int) := by omega
          obtain ⟨y, hy⟩ : ∃ y, l[k]? = some y := ⟨_, List.getElem?_eq_getElem (by rw [HL.out]; omega)⟩
          obtain ⟨c0, c1⟩ := HCX.out i x HX.out wr HW.out
          obtain ⟨d0, d1⟩ := HCX.out k y hy wr HW.out
          have HCT := Lib.hid (show ((F && !decide (y = x)) = !(l.take (k + 1)).contains x) by rw [contains_snoc (x := x) hy, HF.out]; simp [eq_comm])
          have k1 := fun w => neq38 y x w
          have kg := guard38
          clear hy
          cases F
          · go_wp2_with fail
            go_quiet (fail)
            go_wp2
            go_roundw
            case rel => exact ⟨k + 1, _, by omega, by go_num, rfl, HCT.out, drewN_below HW.out _⟩
            case measure => simp [intOf]; omega
          · cases hd : decide (y = x)
            · rw [hd] at HCT k1
              dsimp only [PL.val, Bool.not_false] at k1
              go_wp2_with fail
              go_quiet (fail)
              go_wp2
              go_roundw
              case rel => exact ⟨k + 1, _, by omega, by go_num, rfl, HCT.out, drewN_below HW.out _⟩
              case measure => simp [intOf]; omega
            · rw [hd] at HCT k1
              dsimp only [PL.val, Bool.not_true] at k1
              go_wp2_with fail
              go_quiet (fail)
              go_wp2
              go_roundw
              case rel => exact ⟨k + 1, _, by omega, by go_num, rfl, HCT.out, drewN_below HW.out _⟩
              case measure => simp [intOf]; omega
        · obtain rfl : k = i := by omega
          obtain ⟨wm, rfl⟩ : ∃ wm : World, wm = wr := ⟨_, rfl⟩
          go_wp2
          go_loopw [9, 10] (fun f j wr => ∃ (t : Nat) (G : Bool), t ≤ M ∧ j = .int .i64 (t : Nat) ∧ f = .bool G ∧ Hid (G = (m.take t).contains x) ∧ Hid (Below w.heap.size w wr)) (fun _ j _ => M - (intOf j).toNat)
          case atStart => exact ⟨0, false, Nat.zero_le _, rfl, rfl, Lib.hid (by simp), HW.out⟩
          case round =>
            obtain ⟨t, G, ht, rfl, rfl, HG, HV⟩ := hrel
            by_cases htM : t < M
            · have htz : (t : Int) < (M : Int) := by omega
              obtain ⟨y, hy⟩ : ∃ y, m[t]? = some y := ⟨_, List.getElem?_eq_getElem (by rw [HM.out]; omega)⟩
              obtain ⟨c0, c1⟩ := HCX.out k x HX.out wr HV.out
              obtain ⟨b2, off2, rfl, hb2, hc2⟩ := PsAt.cell (HQ.out.below HV.out) hy
              obtain ⟨d0, d1⟩ := hc2 wr (Below.refl _ _)
              have HCT := Lib.hid (show ((G || decide (y = x)) = (m.take (t + 1)).contains x) by rw [contains_snoc (x := x) hy, HG.out]; simp [eq_comm])
              have k1 := fun w => eql38 y x w
              have kg := guard38
              clear hy hc2 hb2
              cases G
              · cases hd : decide (y = x)
                · rw [hd] at HCT k1
                  dsimp only [PL.val] at k1
                  go_wp2_with fail
                  go_quiet (fail)
                  go_wp2
                  go_roundw
                  case rel => exact ⟨t + 1, _, by omega, by go_num, rfl, HCT.out, drewN_below HV.out _⟩
                  case measure => simp [intOf]; omega
                · rw [hd] at HCT k1
                  dsimp only [PL.val] at k1
                  go_wp2_with fail
                  go_quiet (fail)
                  go_wp2
                  go_roundw
                  case rel => exact ⟨t + 1, _, by omega, by go_num, rfl, HCT.out, drewN_below HV.out _⟩
                  case measure => simp [intOf]; omega
              · go_wp2_with fail
                go_quiet (fail)
                go_wp2
                go_roundw
                case rel => exact ⟨t + 1, _, by omega, by go_num, rfl, HCT.out, drewN_below HV.out _⟩
                case measure => simp [intOf]; omega
            · obtain rfl : t = M := by omega
              have HFG := Lib.hid (show hits m.contains (l.take (k + 1)) = h + if (F && G) = true then 1 else 0 by rw [HSN.out, HF.out, HG.out, take_all HM.out, HR.out.1])
              cases F
              · go_wp2
                go_roundw
                case rel => exact ⟨k + 1, h, by omega, by go_num, rfl, by omega, by rw [HFG.out]; simp, HV.out⟩
                case measure => simp [intOf]; omega
              · cases G
                · go_wp2
                  go_roundw
                  case rel => exact ⟨k + 1, h, by omega, by go_num, rfl, by omega, by rw [HFG.out]; simp, HV.out⟩
                  case measure => simp [intOf]; omega
                · go_wp2
                  go_roundw
                  case rel => exact ⟨k + 1, h + 1, by omega, by go_num, by go_num, by omega, by rw [HFG.out]; simp, HV.out⟩
                  case measure => simp [intOf]; omega
    · obtain rfl : i = L := by omega
      have HD := Lib.hid (show h = hits m.contains l ∧ Below w.heap.size w wo from ⟨by have := HR.out.1; rw [take_all HL.out] at this; exact this, HR.out.2⟩)
      clear HR
      go_wp2
      go_ret
      exact ⟨by rw [← HD.out.1]; rfl, HD.out.2⟩
end Go.Proofs.Ytnfjhpdpeihheaa
