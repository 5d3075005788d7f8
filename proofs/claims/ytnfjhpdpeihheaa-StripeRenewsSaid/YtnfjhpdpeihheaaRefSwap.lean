/- The document's Swap. -/
import Derived.Test.YtnfjhpdpeihheaaSwapA
import Derived.Deep.Cut
import Derived.Deep.RegionLaw
namespace Go.Proofs.Ytnfjhpdpeihheaa
open Go.RowKit Go.Maps Go.Shelf
theorem Box25.grown {w w' : World} {g b : Nat} {f : Int} {u : Value} (h : Box25 w g f u) (hg : w.grownBy w' (some b)) (hn : g ≠ b) : Box25 w' g f u := (hg.block g (lt_of_block h) (fun e => hn (Option.some.inj e))).trans h
/-- the copy that the document's Swap makes -/
structure SwC (W w W0 : World) (f : Int) (u : Value) (x y : PL) (row : List PL) (G g cap E : Nat) : Prop where
  sw : SwB W w f u x y
  own : OwnPs W0.heap.size W (.slice (some ⟨g, 0, none⟩) E cap) row
  gs : W0.heap.size ≤ g
  box : Box25 W G f (.slice (some ⟨g, 0, none⟩) E cap)
  Gs : W0.heap.size ≤ G
  ne : g ≠ G
theorem SwC.below {W W' w W0 : World} {f : Int} {u : Value} {x y : PL} {row : List PL} {G g cap E : Nat} (h : SwC W w W0 f u x y row G g cap E) (hb : Below W.heap.size W W') : SwC W' w W0 f u x y row G g cap E :=
  ⟨h.sw.below hb, h.own.kept hb (Nat.le_refl _), h.gs, h.box.below hb, h.Gs, h.ne⟩
theorem SwB.other {W w : World} {f : Int} {u : Value} {x y : PL} (h : SwB W w f u x y) {G o : Nat} (hG : w.heap.size + 1 + 1 + 1 < G) (v : Value) : SwB (W.setCell ⟨G, o, none⟩ v) w f u x y :=
  ⟨h.bel.setCell (p := ⟨G, o, none⟩) (by show w.heap.size ≤ G; omega) v, by have := h.lt; simpa [World.setCell] using this, h.b0.other (by omega) _ _, h.b1.other (by omega) _ _, h.b2.other (by omega) _ _, h.b3.other (by omega) _ _⟩
theorem own_place {base : Nat} {w : World} {v : Value} {l : List PL} {E : Nat} (h : OwnPs base w v l) (hE : l.length = E) (h0 : 0 < E) : ∃ g cap, v = .slice (some ⟨g, 0, none⟩) E cap ∧ base ≤ g ∧ g < w.heap.size ∧ ∃ cur, w.heap[g]? = some (.cells cur 38 (0, 0)) := by
  rcases h.2 with ⟨_, h1⟩ | ⟨g, cap, cur, hv, hg, hgl, _⟩
  · omega
  · exact ⟨g, cap, by rw [hv, hE], hg, lt_of_block hgl, cur, hgl⟩
theorem SwC.new {W0 W w : World} {f : Int} {u : Value} {x y : PL} {row : List PL} {g cap E : Nat} (h : SwB W0 w f u x y) (hb : Below W0.heap.size W0 W) (ho : OwnPs W0.heap.size W (.slice (some ⟨g, 0, none⟩) E cap) row) (hg : W0.heap.size ≤ g ∧ g < W.heap.size) : SwC (W.alloc (.cells #[.int .u64 f, .slice (some ⟨g, 0, none⟩) E cap] 25)) w W0 f u x y row W.heap.size g cap E :=
  ⟨(h.below hb).below (Go.Joins.below_alloc1 _ _), ho.kept (Go.Joins.below_alloc1 _ _) (Nat.le_refl _), hg.1, Box25.new _ _ _, hb.size, by omega⟩
theorem SwC.put {W0 W w : World} {f : Int} {u : Value} {x y : PL} {row : List PL} {G g cap E : Nat} (h : SwB W0 w f u x y) (hb : Below W0.heap.size W0 W) (ho : OwnPs W0.heap.size W (.slice (some ⟨g, 0, none⟩) E cap) row) (hg : W0.heap.size ≤ g) (hc : ∃ cur, W.heap[g]? = some (.cells cur 38 (0, 0))) (hB : Box25 W G 0 (.slice none 0 0)) (hG : W0.heap.size ≤ G) : SwC ((W.setCell ⟨G, 0, none⟩ (.int .u64 f)).setCell ⟨G, 1, none⟩ (.slice (some ⟨g, 0, none⟩) E cap)) w W0 f u x y row G g cap E := by
  have hne : g ≠ G := by
    rintro rfl
    obtain ⟨cur, hc⟩ := hc
    rw [show W.heap[g]? = _ from hB] at hc
    cases hc
  have hl := h.lt
  exact ⟨((h.below hb).other (by omega) _).other (by omega) _, OwnPs.other (OwnPs.other ho (fun k hk => by cases hk; exact hne)) (fun k hk => by cases hk; exact hne), hg, hB.put f _, hG, hne⟩
set_option maxRecDepth 100000 in
set_option maxHeartbeats 4000000 in
theorem rswap_any (f : Int) (a : Option Addr) (c : Nat) (row : List PL) (x y : PL) (w : World) (hp : PsAt w (.slice a row.length c) row) (hl : row.length ≤ 100000) :
    Calls Try.prog 22 #[.agg #[.int .u64 f, .slice a row.length c], x.val, y.val] w (SwapPost w f row x y) := by
  have HP := Lib.hid hp
  have HPO := Lib.hid hp.ok
  obtain ⟨E, hE⟩ : ∃ E, row.length = E := ⟨_, rfl⟩
  rw [hE] at HP hl ⊢
  have HE := Lib.hid hE
  clear hE hp
  have H0 := Lib.hid (SwB.start w f (.slice a E c) x y)
  obtain ⟨W, hW⟩ : ∃ W, W = SW w f (.slice a E c) x y := ⟨_, rfl⟩
  rw [← hW] at H0
  have HPOST := Lib.hid (show ∀ e w', Below w.heap.size w w' ∧ (match swapL row x y with
      | none => e = .returned (.tuple #[.agg #[.int .u64 0, .slice none 0 0], .bool false])
      | some r => ∃ a' c', e = .returned (.tuple #[.agg #[.int .u64 f, .slice a' r.length c'], .bool true]) ∧ OwnPs w.heap.size w' (.slice a' r.length c') r) → SwapPost w f row x y e w' from fun e w' h => h)
  generalize SwapPost w f row x y = Post at HPOST ⊢
  have c0 := H0.out.b0.c0
  have c1 := H0.out.b0.c1
  unfold swapL at HPOST
  go_enter Try.func22, Try.ntmps22
  have hw1 : wrap64 ((E : Int) - 1) = (E : Int) - 1 := by unfold wrap64; omega
  have c1s : (SW w f (.slice a E c) x y).cell? ⟨w.heap.size, 1, none⟩ = some (.slice a E c) := by rw [← hW]; exact c1
  unfold SW at c1s
  go_wp2_with fail
  change Code.wp _ _ _ _ (SW w f (.slice a E c) x y)
  rw [← hW]
  clear hW c1s c0 c1 hw1
  go_loopw [8, 9] (fun s i wr => ∃ (t : Nat) (A : Int), t ≤ E ∧ i = .int .i64 ((t : Int) - 1) ∧ s = .int .i64 A ∧ -1 ≤ A ∧ A < (E : Int) ∧ Hid ((A = -1 ∧ ∀ j q, t ≤ j → row[j]? = some q → q ≠ x) ∨ ∃ k : Nat, A = k ∧ t ≤ k ∧ row[k]? = some x ∧ ∀ j q, t ≤ j → j < k → row[j]? = some q → q ≠ x) ∧ Hid (SwB wr w f (.slice a E c) x y)) (fun _ i _ => (intOf i + 1).toNat)
  case atStart => exact ⟨E, -1, Nat.le_refl _, rfl, rfl, by omega, by omega, .inl ⟨rfl, fun j q hj hq => by have := (List.getElem?_eq_some_iff.1 hq).1; have := HE.out; omega⟩, H0.out⟩
  case round =>
    obtain ⟨t, A, ht, rfl, rfl, hA1, hA2, HA, HB⟩ := hrel
    have c0 := HB.out.b0.c0
    have c1 := HB.out.b0.c1
    have x0 := HB.out.b1.c0
    have x1 := HB.out.b1.c1
    by_cases hlt : 0 < t
    · obtain ⟨m, rfl⟩ : ∃ m, t = m + 1 := ⟨t - 1, by omega⟩
      have hmE : (m : Int) < (E : Int) := by omega
      have e1 : (((m + 1 : Nat) : Int) - 1) = (m : Int) := by omega
      obtain ⟨q, hq⟩ : ∃ q, row[m]? = some q := ⟨_, List.getElem?_eq_getElem (by rw [HE.out]; omega)⟩
      obtain ⟨b, off, rfl, hb, hc⟩ := PsAt.cell (HP.out.below HB.out.bel) hq
      obtain ⟨q0, q1⟩ := hc wr (Below.refl _ _)
      have k1 := fun w => eql38 q x w
      have kg := guard38
      have HBD := Lib.hid (fun n => (show SwB (wr.drewN n) w f (.slice (some ⟨b, off, none⟩) E c) x y from HB.out.below (drewN_below (Below.refl _ _) n)))
      have HQM := Lib.hid hq
      have hA3 : A < 9223372036854775807 := by omega
      have e2 : wrap64 ((m : Int) - 1) = (m : Int) - 1 := by unfold wrap64; omega
      rw [e1]
      clear hc hq hb e1
      by_cases hqx : q = x
      · rw [decide_eq_true hqx] at k1
        dsimp only [PL.val] at k1
        have HN := Lib.hid (show ((m : Int) = -1 ∧ ∀ j q, m ≤ j → row[j]? = some q → q ≠ x) ∨ ∃ k : Nat, (m : Int) = k ∧ m ≤ k ∧ row[k]? = some x ∧ ∀ j q, m ≤ j → j < k → row[j]? = some q → q ≠ x from .inr ⟨m, rfl, Nat.le_refl _, by rw [HQM.out, hqx], fun j q h1 h2 => by omega⟩)
        clear hqx
        go_wp2_with fail
        go_quiet (fail)
        go_wp2
        go_roundw
        case rel => exact ⟨m, m, by omega, by go_num, rfl, by omega, by omega, HN.out, HBD.out _⟩
        case measure => simp [intOf]
      · rw [decide_eq_false hqx] at k1
        dsimp only [PL.val] at k1
        have HN := Lib.hid (show (A = -1 ∧ ∀ j q, m ≤ j → row[j]? = some q → q ≠ x) ∨ ∃ k : Nat, A = k ∧ m ≤ k ∧ row[k]? = some x ∧ ∀ j q, m ≤ j → j < k → row[j]? = some q → q ≠ x from by
          rcases HA.out with ⟨h1, h2⟩ | ⟨k, h1, h2, h3, h4⟩
          · refine .inl ⟨h1, fun j z hj hz => ?_⟩
            rcases Nat.eq_or_lt_of_le hj with h | h
            · subst h
              rw [HQM.out] at hz
              cases hz
              exact hqx
            · exact h2 j z h hz
          · refine .inr ⟨k, h1, by omega, h3, fun j z hj hjk hz => ?_⟩
            rcases Nat.eq_or_lt_of_le hj with h | h
            · subst h
              rw [HQM.out] at hz
              cases hz
              exact hqx
            · exact h4 j z h hjk hz)
        clear hqx
        go_wp2_with fail
        go_quiet (fail)
        go_wp2
        go_roundw
        case rel => exact ⟨m, A, by omega, by go_num, rfl, hA1, hA2, HN.out, HBD.out _⟩
        case measure => simp [intOf]
    · obtain rfl : t = 0 := by omega
      have hcs : (A = -1 ∧ at? row x = none) ∨ ∃ k : Nat, A = k ∧ at? row x = some k := by
        rcases HA.out with ⟨h1, h2⟩ | ⟨k, h1, h2, h3, h4⟩
        · refine .inl ⟨h1, at_none ?_⟩
          rw [List.contains_eq_mem, decide_eq_false_iff_not]
          intro hm
          obtain ⟨j, hj⟩ := List.getElem?_of_mem hm
          exact h2 j x (Nat.zero_le _) hj rfl
        · refine .inr ⟨k, h1, at_some h3 ?_⟩
          rw [List.contains_eq_mem, decide_eq_false_iff_not]
          intro hm
          obtain ⟨j, hj⟩ := List.getElem?_of_mem hm
          have hjk : j < k := by
            have := (List.getElem?_eq_some_iff.1 hj).1
            rw [List.length_take] at this
            omega
          rw [List.getElem?_take_of_lt hjk] at hj
          exact h4 j x (Nat.zero_le _) hjk hj rfl
      rcases hcs with ⟨rfl, hat⟩ | ⟨k, rfl, hat⟩
      · have HPO2 := Lib.hid (fun e w' => HPOST.out e w')
        simp only [hat] at HPO2
        have r0 := HB.out.b3.c0
        have r1 := HB.out.b3.c1
        have rf := HB.out.b3.fz
        have HX := Lib.hid (show Box25 ((wr.setCell ⟨w.heap.size + 1 + 1 + 1, 0, none⟩ (.int .u64 0)).setCell ⟨w.heap.size + 1 + 1 + 1, 1, none⟩ (.slice none 0 0)) (w.heap.size + 1 + 1 + 1) 0 (.slice none 0 0) ∧ Below w.heap.size w ((wr.setCell ⟨w.heap.size + 1 + 1 + 1, 0, none⟩ (.int .u64 0)).setCell ⟨w.heap.size + 1 + 1 + 1, 1, none⟩ (.slice none 0 0)) from
          ⟨HB.out.b3.put 0 _, (HB.out.bel.setCell (p := ⟨w.heap.size + 1 + 1 + 1, 0, none⟩) (by show w.heap.size ≤ w.heap.size + 1 + 1 + 1; omega) _).setCell (p := ⟨w.heap.size + 1 + 1 + 1, 1, none⟩) (by show w.heap.size ≤ w.heap.size + 1 + 1 + 1; omega) _⟩)
        clear hat hA1 hA2 hlt
        go_wp2_with fail
        refine bodyPost_ret (results_frag rfl _ _ (w.heap.size + 1 + 1 + 1) _ _ (0, 0) rfl HX.out.1) rfl ?_
        exact HPO2.out _ _ ⟨HX.out.2, rfl⟩
      · have hkE : k < E := by rw [← HE.out]; exact at_lt hat
        obtain ⟨CL, hCL⟩ : ∃ CL, clash row k y.n = CL := ⟨_, rfl⟩
        have HCL := Lib.hid hCL
        have HPOST2 := Lib.hid (fun e w' => HPOST.out e w')
        simp only [hat, hCL] at HPOST2
        have hk0 : decide ((k : Int) < 0) = false := by simp
        clear hCL hat hlt HA
        go_upto_region 9 with fail
        go_cut [10] from 31 (fun s wx => ∃ G g cap, s = .pointer (some ⟨G, 0, none⟩) ∧ Hid (SwC wx w wr f (.slice a E c) x y row G g cap E))
        case first =>
          have hE0 : 0 < E := by omega
          have HK := Lib.hid (show ∀ W', On wr W' → W'.cell? ⟨w.heap.size, 0, none⟩ = some (.int .u64 f) ∧ W'.cell? ⟨w.heap.size, 1, none⟩ = some (.slice a E c) from fun W' hb => ⟨(HB.out.below hb).b0.c0, (HB.out.below hb).b0.c1⟩)
          have z0 : wr.cell? ⟨w.heap.size, 0, none⟩ = some (.int .u64 f) := (HK.out wr (Below.refl _ _)).1
          have z1 : wr.cell? ⟨w.heap.size, 1, none⟩ = some (.slice a E c) := (HK.out wr (Below.refl _ _)).2
          have z0a : ∀ o, (wr.alloc o).cell? ⟨w.heap.size, 0, none⟩ = some (.int .u64 f) := fun o => (HK.out _ (Go.Joins.below_alloc1 wr o)).1
          have z1a : ∀ o, (wr.alloc o).cell? ⟨w.heap.size, 1, none⟩ = some (.slice a E c) := fun o => (HK.out _ (Go.Joins.below_alloc1 wr o)).2
          have z0b : ∀ o o', ((wr.alloc o).alloc o').cell? ⟨w.heap.size, 0, none⟩ = some (.int .u64 f) := fun o o' => (HK.out _ (Go.Joins.below_alloc2 wr o o')).1
          have z1b : ∀ o o', ((wr.alloc o).alloc o').cell? ⟨w.heap.size, 1, none⟩ = some (.slice a E c) := fun o o' => (HK.out _ (Go.Joins.below_alloc2 wr o o')).2
          have HA : Hid (∀ o, On wr (wr.drew.alloc o)) := fun o => (Below.drew (Below.refl _ wr)).alloc (Nat.le_refl _) o
          have HAA : Hid (∀ o o', On wr ((wr.drew.alloc o).alloc o')) := fun o o' => ((Below.drew (Below.refl _ wr)).alloc (Nat.le_refl _) o).alloc (by rw [World.size_alloc]; exact Nat.le_succ _) o'
          have HFR := Lib.hid (show ∀ W', On wr W' → PsAt W' (.slice a E c) row from fun W' hb => (HP.out.below HB.out.bel).below hb)
          have HM1 : Hid (OwnPs wr.heap.size (wr.drew.alloc (.cells #[] 38)) (.slice (some ⟨wr.heap.size, 0, none⟩) 0 0) []) := OwnPs.made wr.drew wr.heap.size (Nat.le_refl _)
          have HM2 : Hid (∀ o, OwnPs wr.heap.size ((wr.drew.alloc (.cells #[] 38)).alloc o) (.slice (some ⟨wr.heap.size, 0, none⟩) 0 0) []) := fun o => OwnPs.kept (OwnPs.made wr.drew wr.heap.size (Nat.le_refl _)) (Go.Joins.below_alloc1 _ o) (Nat.le_refl _)
          have HM3 : Hid (∀ o, OwnPs wr.heap.size ((wr.drew.alloc o).alloc (.cells #[] 38)) (.slice (some ⟨wr.heap.size + 1, 0, none⟩) 0 0) []) := fun o => by
            have := OwnPs.made (wr.drew.alloc o) wr.heap.size (by rw [World.size_alloc]; exact Nat.le_succ _)
            rw [World.size_alloc] at this
            exact this
          have HY2 : Hid (Box25 ((wr.drew.alloc (.cells #[] 38)).alloc (.cells #[.int .u64 0, .slice none 0 0] 25)) (wr.heap.size + 1) 0 (.slice none 0 0)) := by
            have := Box25.new (wr.drew.alloc (.cells #[] 38)) 0 (.slice none 0 0)
            rw [World.size_alloc] at this
            exact this
          have HY3 : Hid (Box25 ((wr.drew.alloc (.cells #[.int .u64 0, .slice none 0 0] 25)).alloc (.cells #[] 38)) wr.heap.size 0 (.slice none 0 0)) := (Box25.new wr.drew 0 (.slice none 0 0)).alloc _
          have HSM : Hid (([] : List PL).length + row.length ≤ 1000000) := by
            unfold Hid; rw [HE.out]; simp only [List.length_nil]; omega
          have HE0 := Lib.hid hE0
          go_region_law (first
            | (refine step_append_ps rfl (.tmp 33) (.tmp 35) rfl wr.heap.size _ (.slice a E c) [] row HM1.out (HFR.out _ (HA.out _)) (by simp [Act.eval]) (by simp [Act.eval]) HSM.out (Below.size (HA.out _)) ?_; intro v3 w3 ho3 hg3; have b3 : On wr w3 := (HA.out _).grown hg3 (Below.size (HA.out _)) (fun j hj => HM1.out.own j hj); obtain ⟨g, cap, rfl, hg1, hg2, hcu⟩ := own_place ho3 HE.out HE0.out; have HX := Lib.hid (SwC.new HB.out b3 ho3 ⟨hg1, hg2⟩); obtain ⟨e0, e1⟩ := HK.out w3 b3; have e0a : ∀ o, (w3.alloc o).cell? ⟨w.heap.size, 0, none⟩ = some (.int .u64 f) := (fun o => (HK.out _ (On.step b3 (Go.Joins.below_alloc1 w3 o))).1); clear ho3 hg3 b3 hg1 hg2 hcu)
            | (refine step_append_ps rfl (.tmp 33) (.tmp 35) rfl wr.heap.size _ (.slice a E c) [] row (HM2.out _) (HFR.out _ (HAA.out _ _)) (by simp [Act.eval]) (by simp [Act.eval]) HSM.out (Below.size (HAA.out _ _)) ?_; intro v3 w3 ho3 hg3; have b3 : On wr w3 := (HAA.out _ _).grown hg3 (Below.size (HAA.out _ _)) (fun j hj => HM1.out.own j hj); obtain ⟨g, cap, rfl, hg1, hg2, hcu⟩ := own_place ho3 HE.out HE0.out; have hbx := Box25.grown HY2.out hg3 (Nat.succ_ne_self _); have HX := Lib.hid (SwC.put HB.out b3 ho3 hg1 hcu hbx (Nat.le_succ _)); obtain ⟨e0, e1⟩ := HK.out w3 b3; have r0 := hbx.c0; have r1 := hbx.c1; have rf := hbx.fz; clear ho3 hg3 b3 hg1 hg2 hcu hbx)
            | (refine step_append_ps rfl (.tmp 33) (.tmp 35) rfl wr.heap.size _ (.slice a E c) [] row (HM3.out _) (HFR.out _ (HAA.out _ _)) (by simp [Act.eval]) (by simp [Act.eval]) HSM.out (Below.size (HAA.out _ _)) ?_; intro v3 w3 ho3 hg3; have b3 : On wr w3 := (HAA.out _ _).grown hg3 (Below.size (HAA.out _ _)) (fun j hj => OwnPs.own (HM3.out (.cells #[] 38)) j hj); obtain ⟨g, cap, rfl, hg1, hg2, hcu⟩ := own_place ho3 HE.out HE0.out; have hbx := Box25.grown HY3.out hg3 (Nat.ne_of_lt (Nat.lt_succ_self _)); have HX := Lib.hid (SwC.put HB.out b3 ho3 hg1 hcu hbx (Nat.le_refl _)); obtain ⟨e0, e1⟩ := HK.out w3 b3; have r0 := hbx.c0; have r1 := hbx.c1; have rf := hbx.fz; clear ho3 hg3 b3 hg1 hg2 hcu hbx))
          all_goals go_wp2_with fail
          all_goals go_meet
          all_goals exact ⟨_, _, _, rfl, HX.out⟩
        case rest =>
          obtain ⟨G, g, cap, rfl, HCC⟩ := hcut
          have HWL := Lib.hid (show w.heap.size + 1 + 1 + 1 < wr.heap.size from HB.out.lt)
          clear hA1 hA2 c0 c1 x0 x1
          go_wp2_with fail
          go_loopw [11] (fun i wx => ∃ t : Nat, t ≤ E ∧ i = .int .i64 (t : Nat) ∧ Hid (∀ j q, j < t → j ≠ k → row[j]? = some q → q.n ≠ y.n) ∧ Hid (SwC wx w wr f (.slice a E c) x y row G g cap E)) (fun i _ => E - (intOf i).toNat)
          case atStart => exact ⟨0, Nat.zero_le _, rfl, (fun j q hj => absurd hj (Nat.not_lt_zero j)), HCC.out⟩
          case round =>
            obtain ⟨t, ht, rfl, HQ, HB2⟩ := hrel
            have c0 := HB2.out.box.c0
            have c1 := HB2.out.box.c1
            have y0 := HB2.out.sw.b2.c0
            have y1 := HB2.out.sw.b2.c1
            have HB3 := Lib.hid (fun n => (show SwC (wr.drewN n) w _ f (.slice a E c) x y row G g cap E from HB2.out.below (drewN_below (Below.refl _ _) n)))
            by_cases hlt : t < E
            · have hltz : (t : Int) < (E : Int) := by omega
              obtain ⟨q, hq⟩ : ∃ q, row[t]? = some q := ⟨_, List.getElem?_eq_getElem (by rw [HE.out]; exact hlt)⟩
              obtain ⟨b, off, hbo, hb, hc⟩ := PsAt.cell (HB2.out.own.at HPO.out) hq
              cases hbo
              obtain ⟨q0, q1⟩ := hc wr (Below.refl _ _)
              rw [Nat.zero_add] at q0 q1
              have HQM := Lib.hid hq
              clear hc hq hb
              by_cases htk : t = k
              · subst htk
                have hb1 : ((t : Int) == (t : Int)) = true := by simp
                have HQN := Lib.hid (show ∀ j q, j < t + 1 → j ≠ t → row[j]? = some q → q.n ≠ y.n from fun j q hj hjk hjq => by
                  rcases Nat.lt_or_ge j t with h | h
                  · exact HQ.out j q h hjk hjq
                  · exact absurd (show j = t by omega) hjk)
                go_wp2_with fail
                go_quiet (fail)
                go_wp2
                go_roundw
                case rel => exact ⟨t + 1, by omega, by go_num, HQN.out, HB3.out _⟩
                case measure => simp [intOf]; omega
              · have hb1 : ((t : Int) == (k : Int)) = false := by simp; omega
                have hb1' : ((t : Int) != (k : Int)) = true := by rw [bne, hb1]; rfl
                by_cases hqy : q.n = y.n
                · have hb2 : (q.n == y.n) = true := by simpa using hqy
                  obtain rfl : CL = true := by rw [← HCL.out]; exact clash_iff.2 ⟨t, q, htk, HQM.out, hqy⟩
                  have r0 := fun n => (HB3.out n).sw.b3.c0
                  have r1 := fun n => (HB3.out n).sw.b3.c1
                  have rf := fun n => (HB3.out n).sw.b3.fz
                  have HX := Lib.hid (fun n => show Box25 (((wr.drewN n).setCell ⟨w.heap.size + 1 + 1 + 1, 0, none⟩ (.int .u64 0)).setCell ⟨w.heap.size + 1 + 1 + 1, 1, none⟩ (.slice none 0 0)) (w.heap.size + 1 + 1 + 1) 0 (.slice none 0 0) ∧ Below w.heap.size w (((wr.drewN n).setCell ⟨w.heap.size + 1 + 1 + 1, 0, none⟩ (.int .u64 0)).setCell ⟨w.heap.size + 1 + 1 + 1, 1, none⟩ (.slice none 0 0)) from
                    ⟨(HB3.out n).sw.b3.put 0 _, ((HB3.out n).sw.bel.setCell (p := ⟨w.heap.size + 1 + 1 + 1, 0, none⟩) (by show w.heap.size ≤ w.heap.size + 1 + 1 + 1; omega) _).setCell (p := ⟨w.heap.size + 1 + 1 + 1, 1, none⟩) (by show w.heap.size ≤ w.heap.size + 1 + 1 + 1; omega) _⟩)
                  clear hqy
                  go_wp2_with fail
                  go_quiet (fail)
                  go_wp2
                  refine bodyPost_ret (results_frag rfl _ _ (w.heap.size + 1 + 1 + 1) _ _ (0, 0) rfl (HX.out _).1) rfl ?_
                  exact HPOST2.out _ _ ⟨(HX.out _).2, rfl⟩
                · have hb2 : (q.n == y.n) = false := by simpa using hqy
                  have HQN := Lib.hid (show ∀ j z, j < t + 1 → j ≠ k → row[j]? = some z → z.n ≠ y.n from fun j z hj hjk hjq => by
                    rcases Nat.lt_or_ge j t with h | h
                    · exact HQ.out j z h hjk hjq
                    · obtain rfl : j = t := by omega
                      rw [HQM.out] at hjq
                      cases hjq
                      exact hqy)
                  clear hqy
                  go_wp2_with fail
                  go_quiet (fail)
                  go_wp2
                  go_roundw
                  case rel => exact ⟨t + 1, by omega, by go_num, HQN.out, HB3.out _⟩
                  case measure => simp [intOf]; omega
            · obtain rfl : t = E := by omega
              obtain rfl : CL = false := by
                cases CL
                · rfl
                · obtain ⟨j, q, h1, h2, h3⟩ := clash_iff.1 HCL.out
                  exact absurd h3 (HQ.out j q (by rw [← HE.out]; exact (List.getElem?_eq_some_iff.1 h2).1) h1 h2)
              have hkz : (k : Int) < (t : Int) := by omega
              obtain ⟨⟨z0, d0⟩, ⟨z1, d1⟩, f0, f1⟩ := OwnPs.has HE.out HB2.out.own k hkE
              have hgG : G ≠ g := fun e => HB2.out.ne e.symm
              have hg3 : g ≠ w.heap.size + 1 + 1 + 1 := by have := HB2.out.gs; have := HWL.out; omega
              have b3 := (HB2.out.sw.b3.other (Ne.symm hg3) (k * 2) (.int .i64 y.n)).other (Ne.symm hg3) (k * 2 + 1) (.int .u64 y.s)
              have e0 := b3.c0
              have e1 := b3.c1
              have ef := b3.fz
              have gb := (HB2.out.box.other hgG (k * 2) (.int .i64 y.n)).other hgG (k * 2 + 1) (.int .u64 y.s)
              have g0 := gb.c0
              have g1 := gb.c1
              have HX := Lib.hid (And.intro (b3.put f (.slice (some ⟨g, 0, none⟩) t cap)) (And.intro
                (show OwnPs w.heap.size _ (.slice (some ⟨g, 0, none⟩) t cap) (row.set k y) from OwnPs.base_le (OwnPs.other (OwnPs.other (OwnPs.set HE.out HB2.out.own k y) (B := w.heap.size + 1 + 1 + 1) (o := 0) (u := .int .u64 f) (fun k hk => by cases hk; exact hg3)) (B := w.heap.size + 1 + 1 + 1) (o := 1) (u := .slice (some ⟨g, 0, none⟩) t cap) (fun k hk => by cases hk; exact hg3)) HB.out.bel.size)
                ((((HB2.out.sw.bel.setCell (p := ⟨g, k * 2, none⟩) (by show w.heap.size ≤ g; have := HB2.out.gs; have := HWL.out; omega) (.int .i64 y.n)).setCell (p := ⟨g, k * 2 + 1, none⟩) (by show w.heap.size ≤ g; have := HB2.out.gs; have := HWL.out; omega) (.int .u64 y.s)).setCell (p := ⟨w.heap.size + 1 + 1 + 1, 0, none⟩) (by show w.heap.size ≤ w.heap.size + 1 + 1 + 1; omega) (.int .u64 f)).setCell (p := ⟨w.heap.size + 1 + 1 + 1, 1, none⟩) (by show w.heap.size ≤ w.heap.size + 1 + 1 + 1; omega) (.slice (some ⟨g, 0, none⟩) t cap))))
              have HRS := Lib.hid (show (row.set k y).length = t by rw [List.length_set]; exact HE.out)
              clear b3 gb hg3 hgG
              go_wp2
              refine bodyPost_ret (results_frag rfl _ _ (w.heap.size + 1 + 1 + 1) _ _ (0, 0) rfl HX.out.1) rfl ?_
              refine HPOST2.out _ _ ⟨HX.out.2.2, ?_⟩
              simp only [Bool.false_eq_true, if_false]
              rw [HRS.out]
              exact ⟨_, _, rfl, HX.out.2.1⟩
end Go.Proofs.Ytnfjhpdpeihheaa
