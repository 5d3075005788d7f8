/- BallotHighest. -/
import Derived.Test.YtomoomeocolkmaaHighR
import Derived.Test.YtomoomeocolkmaaSame
import Derived.Test.YtomoomeocolkmaaLawNext
namespace Go.Proofs.Ytomoomeocolkmaa
open Go.RowKit
theorem Box8.chg {w w' : World} {g : Nat} {q : PV} {S : Nat → Prop} (h : Box8 w g q) (hc : Chg S w w') (hS : ¬ S g) : Box8 w' g q := hc.heap h hS
set_option maxRecDepth 100000 in
set_option maxHeartbeats 2000000 in
theorem highestlaw_any (v : Value) (l : List PV) (w : World) (hp : PsAt w v l) :
    Calls Try.prog 5 #[v] w fun e w' => e = .returned (.bool true) ∧ Below w.heap.size w w' := by
  have HP := Lib.hid hp
  have HOKW := Lib.hid hp.ok
  obtain ⟨a, cap, rfl, hlen, -⟩ := hp
  obtain ⟨L, hL⟩ : ∃ L, l.length = L := ⟨_, rfl⟩
  rw [hL] at hlen HP ⊢
  have HL := Lib.hid hL
  clear hL
  have B0 := Lib.hid (Below.refl w.heap.size w)
  by_cases h1 : 100 < L
  · have hd : decide ((100 : Int) < L) = true := by simp; omega
    go_enter Try.func5, Try.ntmps5
    go_wp2_with (go_at_call 10; refine (awake_any _).mono ?_; rintro e wz ⟨rfl, hb⟩; have HF := Lib.hid (B0.out.trans (hb.mono B0.out.size)); clear hb)
    go_ret
    exact ⟨rfl, HF.out⟩
  · have hd : decide ((100 : Int) < L) = false := by simp; omega
    have h100 : L ≤ 100 := by omega
    go_enter Try.func5, Try.ntmps5
    go_wp2
    go_loopw [3] (fun i wr => wr = w ∧ ∃ k : Nat, k ≤ L ∧ i = .int .i64 (k : Nat) ∧ Hid (∀ q ∈ l.take k, q.b.length ≤ 10000)) (fun i _ => L - (intOf i).toNat)
    case atStart => exact ⟨rfl, 0, Nat.zero_le _, rfl, fun q hq => by simp at hq⟩
    case round =>
      obtain ⟨rfl, k, hk, rfl, HR⟩ := hrel
      by_cases hlt : k < L
      · have hltz : (k : Int) < (L : Int) := by omega
        obtain ⟨b, off, rfl, hb, -, hc⟩ := HP.out.acell (by rw [HL.out]; omega)
        obtain ⟨x, hx⟩ : ∃ x, l[k]? = some x := ⟨_, List.getElem?_eq_getElem (by rw [HL.out]; exact hlt)⟩
        have c7 : wr.cell? ⟨b, off + k * 8 + 7, none⟩ = some (.slice x.ua x.b.length x.uc) := hc k x hx 7 (by omega)
        have HX := Lib.hid hx
        clear hc hb hx
        generalize hN : x.b.length = N at c7
        have HN := Lib.hid hN
        clear hN
        by_cases h2 : 10000 < N
        · have hd2 : decide ((10000 : Int) < N) = true := by simp; omega
          go_wp2_with (go_at_call 10; refine (awake_any _).mono ?_; rintro e wz ⟨rfl, hb⟩; have HF := Lib.hid hb; clear hb)
          go_ret
          exact ⟨rfl, HF.out⟩
        · have hd2 : decide ((10000 : Int) < N) = false := by simp; omega
          go_wp2
          go_roundw
          case rel =>
            refine ⟨trivial, k + 1, by omega, by go_num, fun q hq => ?_⟩
            obtain ⟨hkl, he⟩ := List.getElem?_eq_some_iff.1 HX.out
            rw [List.take_succ_eq_append_getElem hkl, he] at hq
            rcases List.mem_append.1 hq with hq | hq
            · exact HR.out q hq
            · rw [List.mem_singleton] at hq; rw [hq, HN.out]; omega
          case measure => simp [intOf]; omega
      · obtain rfl : k = L := by omega
        have hfull : l.take k = l := List.take_of_length_le (by rw [HL.out]; exact Nat.le_refl _)
        have HLEN := Lib.hid (show ∀ q ∈ l, q.b.length ≤ 10000 by have := HR.out; rwa [hfull] at this)
        have BA := Go.Joins.below_alloc1 wr (.cells #[] 47)
        have HO := Lib.hid (show OwnPs wr.heap.size (wr.alloc (.cells #[] 47)) (.slice (some ⟨wr.heap.size, 0, none⟩) 0 0) [] ∧ PsAt (wr.alloc (.cells #[] 47)) (.slice a k cap) l ∧ Below wr.heap.size wr (wr.alloc (.cells #[] 47)) from ⟨OwnRow.made wr, HP.out.below BA, BA⟩)
        have hL1 := HL.out
        have HH := Lib.hid (show ∀ W' v', Below wr.heap.size wr W' → PsAt W' v' l → Calls Try.prog 24 #[v'] W' fun e w' => ∃ ua uc, e = .returned (.tuple #[PV.val { hiP l with ua := ua, uc := uc }, .bool (decide (0 < (accd l).length))]) ∧ OwnBytes W'.heap.size w' (.slice ua (hiP l).b.length uc) (hiP l).b ∧ Below W'.heap.size W' w' from fun W' v' hb hps => hi_any v' l W' hps (by rw [HL.out]; omega) HLEN.out)
        have HRH := Lib.hid (show ∀ W', Below wr.heap.size wr W' → Calls Try.prog 25 #[.slice a k cap] W' fun e w' => e = .returned (.tuple #[(hiP l).val, .bool (decide (0 < (accd l).length))]) ∧ Below W'.heap.size W' w' from fun W' hb => rhi_any _ l W' (HP.out.below hb))
        have HHO := Lib.hid (hiP_ok HOKW.out)
        generalize hiP l = h at HH HRH HHO
        generalize decide (0 < (accd l).length) = D at HH HRH
        obtain ⟨f, p, aa, hua, huc, bb⟩ := h
        dsimp only [PV.val] at HH HRH
        have HBB := Lib.hid HHO.out.2.2.2
        dsimp only at HBB
        obtain ⟨NB, hNB⟩ : ∃ NB, bb.length = NB := ⟨_, rfl⟩
        rw [hNB] at HH HRH HBB
        have HNB := Lib.hid hNB
        have hNBm : NB ≤ 9223372036854775807 := by rw [← hNB]; exact BytesIn.length_le HHO.out.2.2.2
        clear hNB BA hfull HR hlt HHO
        go_wp2_with (at_builtin; refine wpList_append_rows rfl _ _ 44 47 8 80 _ PV.cells rfl Try.underlying44 info47 rfl (by decide) (by decide) (fun _ => rfl) wr.heap.size _ _ [] l rfl rfl HO.out.1 HO.out.2.1 (ps_one l) (by simp; omega) HO.out.2.2.size ?_; intro v2 w2 ho2 hg2; have HO2 := Lib.hid ho2; have B2 := Lib.hid (HO.out.2.2.grown hg2 HO.out.2.2.size (fun k hk => (OwnRow.lt HO.out.1 k hk).1)); clear ho2 hg2)
        refine (HH.out w2 v2 B2.out (OwnRow.at (k := 8) (enc := PV.cells) (fun _ => rfl) HO2.out (fun x hx => (HOKW.out x (by simpa using hx)).below B2.out))).mono ?_
        rintro e w3 ⟨ua, uc, rfl, ho3, hb3⟩
        have B3 := Lib.hid (B2.out.trans (hb3.mono B2.out.size))
        obtain ⟨bx, hbx⟩ : ∃ bx : PV, bx = ⟨f, p, aa, ua, uc, bb⟩ := ⟨_, rfl⟩
        have X3 := Lib.hid (show Box8 (w3.alloc (.cells #[.int .i64 f, .int .u64 p.r, .int .i64 p.n, .int .u64 p.i, .int .u64 aa.r, .int .i64 aa.n, .int .u64 aa.i, .slice ua NB uc] 47)) w3.heap.size bx by rw [hbx, ← HNB.out]; exact Box8.new w3 ⟨f, p, aa, ua, uc, bb⟩)
        have B3a := Lib.hid (B3.out.alloc B3.out.size (.cells #[.int .i64 f, .int .u64 p.r, .int .i64 p.n, .int .u64 p.i, .int .u64 aa.r, .int .i64 aa.n, .int .u64 aa.i, .slice ua NB uc] 47))
        have HO3 := Lib.hid ho3
        clear ho3 hb3
        go_wp2_with fail
        refine (HRH.out _ B3a.out).mono ?_
        rintro e w4 ⟨rfl, hb4⟩
        have B4 := Lib.hid (B3a.out.trans (hb4.mono B3a.out.size))
        have hx4 := X3.out.below hb4 X3.out.lt
        have ho4 := OwnBytes.kept (OwnBytes.alloc HO3.out (.cells #[.int .i64 f, .int .u64 p.r, .int .i64 p.n, .int .u64 p.i, .int .u64 aa.r, .int .i64 aa.n, .int .u64 aa.i, .slice ua NB uc] 47)) hb4 (Nat.le_refl _)
        obtain ⟨W6, hW6⟩ : ∃ W6, W6 = w4.alloc (.cells #[.int .i64 f, .int .u64 p.r, .int .i64 p.n, .int .u64 p.i, .int .u64 aa.r, .int .i64 aa.n, .int .u64 aa.i, .slice hua NB huc] 47) := ⟨_, rfl⟩
        obtain ⟨by6, hby⟩ : ∃ by6 : PV, by6 = ⟨f, p, aa, hua, huc, bb⟩ := ⟨_, rfl⟩
        have H6 := Lib.hid (show Below wr.heap.size wr W6 ∧ Box8 W6 w3.heap.size bx ∧ Box8 W6 w4.heap.size by6 ∧ OwnBytes w2.heap.size W6 (.slice ua NB uc) bb ∧ W6.heap.size = w4.heap.size + 1 from by
          rw [hW6]
          refine ⟨B4.out.alloc B4.out.size _, hx4.below (Go.Joins.below_alloc1 _ _) hx4.lt, ?_, World.ownsRow.alloc ho4 _, World.size_alloc _ _⟩
          rw [hby, ← HNB.out]; exact Box8.new w4 ⟨f, p, aa, hua, huc, bb⟩)
        have hx5 := fun o => hx4.below (Go.Joins.below_alloc1 w4 o) hx4.lt
        have hcs := fun o => (hx5 o).c
        rw [hbx, ] at hcs
        dsimp only at hcs
        rw [HNB.out] at hcs
        simp only [forall_and] at hcs
        obtain ⟨d0, d1, d2, d3, d4, d5, d6, d7⟩ := hcs
        have HSM := Lib.hid (same_any f p aa bb ua hua uc huc NB W6 (H6.out.2.2.2.1.at) (BytesIn.below HBB.out H6.out.1 (Nat.le_refl _)))
        have HB7 := Lib.hid (show ∀ W, Box8 W w3.heap.size bx → W.cell? ⟨w3.heap.size, 7, none⟩ = some (.slice ua NB uc) from fun W hb => by
          have h := hb.c.2.2.2.2.2.2.2
          rw [hbx] at h
          dsimp only at h
          rwa [HNB.out] at h)
        have HB7y := Lib.hid (show ∀ W, Box8 W w4.heap.size by6 → W.cell? ⟨w4.heap.size, 7, none⟩ = some (.slice hua NB huc) from fun W hb => by
          have h := hb.c.2.2.2.2.2.2.2
          rw [hby] at h
          dsimp only at h
          rwa [HNB.out] at h)
        have HLT := Lib.hid (show wr.heap.size ≤ w2.heap.size ∧ (∀ g, (Value.slice ua NB uc).ownBlock = some g → w2.heap.size ≤ g ∧ g < w3.heap.size) ∧ w3.heap.size < w4.heap.size from ⟨B2.out.size, fun g hg => OwnBytes.lt HO3.out g hg, by have := hx4.lt; exact this⟩)
        clear hb4 hx4 hx5 ho4 hbx hby
        go_wp2_with fail
        rw [← hW6]
        clear hW6 d0 d1 d2 d3 d4 d5 d6 d7
        refine HSM.out.mono ?_
        rintro e w7 ⟨rfl, hb7⟩
        have H7 := Lib.hid (show Below wr.heap.size wr w7 ∧ Box8 w7 w3.heap.size bx ∧ Box8 w7 w4.heap.size by6 ∧ OwnBytes w2.heap.size w7 (.slice ua NB uc) bb from
          ⟨H6.out.1.trans (hb7.mono H6.out.1.size), H6.out.2.1.below hb7 H6.out.2.1.lt, H6.out.2.2.1.below hb7 H6.out.2.2.1.lt, OwnBytes.kept H6.out.2.2.2.1 hb7 (Nat.le_refl _)⟩)
        have c7y := HB7y.out w7 H7.out.2.2.1
        have kc := string_bytes (BytesIn.below HBB.out H7.out.1 (Nat.le_refl _))
        have HLL := HNB.out
        clear hb7
        go_wp2
        obtain ⟨wo, rfl⟩ : ∃ wo : World, wo = wr := ⟨_, rfl⟩
        clear c7y kc
        go_loopw [9] (fun i wr => ∃ k2 : Nat, k2 ≤ NB ∧ i = .int .i64 (k2 : Nat) ∧ Hid (∃ l' : List UInt8, l'.length = NB ∧ OwnBytes w2.heap.size wr (.slice ua NB uc) l' ∧ Below wo.heap.size wo wr ∧ Box8 wr w3.heap.size bx ∧ Box8 wr w4.heap.size by6)) (fun i _ => NB - (intOf i).toNat)
        case atStart => exact ⟨0, Nat.zero_le _, rfl, bb, HNB.out, H7.out.2.2.2, H7.out.1, H7.out.2.1, H7.out.2.2.1⟩
        case round =>
          obtain ⟨k2, hk2, rfl, HW⟩ := hrel
          obtain ⟨l', hl', ho', hbw, hb4, hb6⟩ := HW.out
          have c7 := HB7.out wr hb4
          by_cases hlt2 : k2 < NB
          · have hltz2 : (k2 : Int) < (NB : Int) := by omega
            obtain ⟨g, rfl⟩ : ∃ g, ua = some ⟨g, 0, none⟩ := by
              rcases ho'.2 with ⟨h0, h00⟩ | ⟨g, cap', cur, hv, _⟩
              · omega
              · injection hv with e1; exact ⟨g, e1⟩
            obtain ⟨⟨xb, e0⟩, f0, hs⟩ := OwnBytes.spoil hl' ho' k2 hlt2
            have hg := HLT.out.2.1 g rfl
            have hne := HLT.out.1
            have h34 := HLT.out.2.2
            have HNX := Lib.hid (show ∀ v : Int, ∃ l'' : List UInt8, l''.length = NB ∧ OwnBytes w2.heap.size (wr.setCell ⟨g, k2, none⟩ (.int .u8 (IntKind.u8.wrap v))) (.slice (some ⟨g, 0, none⟩) NB uc) l'' ∧ Below wo.heap.size wo (wr.setCell ⟨g, k2, none⟩ (.int .u8 (IntKind.u8.wrap v))) ∧ Box8 (wr.setCell ⟨g, k2, none⟩ (.int .u8 (IntKind.u8.wrap v))) w3.heap.size bx ∧ Box8 (wr.setCell ⟨g, k2, none⟩ (.int .u8 (IntKind.u8.wrap v))) w4.heap.size by6 from fun v => by
              obtain ⟨l'', h1, h2⟩ := hs v
              have hc : Chg (fun k => k = g) wr (wr.setCell ⟨g, k2, none⟩ (.int .u8 (IntKind.u8.wrap v))) := (Chg.refl (fun k => k = g) wr).setCell (p := ⟨g, k2, none⟩) (.inl rfl) _
              exact ⟨l'', h1, h2, hbw.trans (hc.below hbw.size fun k hk => by omega), hb4.chg hc (by omega), hb6.chg hc (by omega)⟩)
            clear hl' ho' hbw hb4 hb6 hs hg hne h34
            go_wp2
            go_roundw
            case rel => exact ⟨k2 + 1, by omega, by go_num, HNX.out _⟩
            case measure => simp [intOf]; omega
          · obtain rfl : k2 = NB := by omega
            have c7y := HB7y.out wr hb6
            have kc := string_bytes (BytesIn.below HBB.out hbw (Nat.le_refl _))
            have HBW := Lib.hid hbw
            clear hl' ho' hbw hb4 hb6
            go_wp2_with (go_at_call 10; refine (awake_any _).mono ?_; rintro e wz ⟨rfl, hb⟩; have HF := Lib.hid (HBW.out.trans (hb.mono HBW.out.size)); clear hb)
            go_ret
            exact ⟨rfl, HF.out⟩
end Go.Proofs.Ytomoomeocolkmaa
