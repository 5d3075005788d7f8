/- BallotMeets. -/
import Derived.Test.YtomoomeocolkmaaAwake
import Derived.Test.YtomoomeocolkmaaStill
import Derived.Test.YtomoomeocolkmaaQuorumR
namespace Go.Proofs.Ytomoomeocolkmaa
open Go.RowKit
/-- ints of the call's own -/
def OwnInts (base : Nat) (w : World) (v : Value) (l : List Int) : Prop := w.ownsRow base 3 1 v l.length (l.map (Value.int .i64))
theorem info3 : (Try.prog.info? 3).map (fun i => (i.zero, i.size, i.bytes)) = some (some (.int .i64 0), 1, 8) := by kernel_rfl
theorem OwnInts.at {base : Nat} {w : World} {v : Value} {l : List Int} (h : OwnInts base w v l) (hok : ∀ x ∈ l, -9223372036854775808 ≤ x ∧ x ≤ 9223372036854775807) : IntsAt w v l := by
  rcases h.2 with ⟨rfl, h0⟩ | ⟨g, cap, cur, rfl, hbg, hg, hnc, hcm, hcs, htake⟩
  · obtain rfl : l = [] := List.eq_nil_of_length_eq_zero h0
    exact ⟨none, 0, rfl, by simp, by simp, fun _ => rfl, fun h => absurd h (by simp)⟩
  · rw [maxLen_eq] at hcm
    refine ⟨_, cap, rfl, by omega, hnc, (fun h => by cases h), fun _ => ⟨g, 0, rfl, (Array.getElem?_eq_some_iff.1 hg).1, fun j x hj => ⟨hok x (List.mem_of_getElem? hj), fun r hr => ?_⟩⟩⟩
    obtain rfl : r = 0 := by omega
    have hjl := (List.getElem?_eq_some_iff.1 hj).1
    have := World.ownsRow.cellAt h j (by omega)
    rw [Nat.mul_one, Nat.add_zero, Nat.zero_add, this, List.getElem?_map, hj]
    rfl
theorem OwnInts.made (w : World) : OwnInts w.heap.size (w.alloc (.cells #[] 3)) (.slice (some ⟨w.heap.size, 0, none⟩) 0 0) [] := World.ownsRow_made w #[] 0 (Nat.le_refl _) (Nat.zero_le _) rfl
theorem run_append_ints (w : World) (ty : TypeId) (base : Nat) (v : Value) (n l : List Int) (hown : OwnInts base w v n) (ad : Addr) (cap : Nat) (hb : IntsAt w (.slice (some ad) l.length cap) l) (hsmall : n.length + l.length ≤ 1000000) (hbase : base ≤ w.heap.size) :
    ∃ v' w', (Builtin.append_ #[35, 35] ty #[v, .slice (some ad) l.length cap]).run Try.prog w = .ok v' w' ∧ OwnInts base w' v' (n ++ l) ∧ w.grownBy w' v.ownBlock := by
  obtain ⟨i0, hi, hz0, hz1, hz2⟩ := info_parts info3
  have hnews : ∀ (j : Nat) u, (l.map (Value.int .i64))[j]? = some u → w.cell? (ad.add j) = some u := by
    intro j u hj
    rw [List.getElem?_map, Option.map_eq_some_iff] at hj
    obtain ⟨x, hx, rfl⟩ := hj
    obtain ⟨b, off, hab, _, _, hc⟩ := hb.cell hx
    cases hab
    rw [Addr.add_lit]
    exact hc j x hx
  have hone : ∀ u ∈ l.map (Value.int .i64), u.oneCell' = true := by
    intro u hu
    obtain ⟨y, _, rfl⟩ := List.mem_map.1 hu
    rfl
  obtain ⟨v', w', hr, ho, hg, _⟩ := run_append_own_wide (P := Try.prog) w base 35 ty 3 i0 (.int .i64 0) 1 8 Try.underlying35 hi hz0 hz1 hz2 rfl (by decide) v n.length (n.map (Value.int .i64)) hown ad l.length cap (l.map (Value.int .i64)) (by simp) hnews hone (by unfold maxLen; omega) (by omega) hbase
  refine ⟨v', w', hr, ?_, hg⟩
  unfold OwnInts
  rw [List.length_append, List.map_append]
  exact ho
theorem wpList_append_ints {w : World} {ops : Array Oper} {rest : List Oper} {o : Oper} {a : Act} {Q : Exit → Act → World → Prop} (hgd : o.guard = none) (s x : Operand)
    (ho : o.op = .call { callee := .builtin .append, args := #[s, x], argTypes := #[35, 35] }) (base : Nat) (v u : Value) (n l : List Int) (hs : a.eval s = v) (hx : a.eval x = u)
    (hown : OwnInts base w v n) (hb : IntsAt w u l) (hsmall : n.length + l.length ≤ 1000000) (hbase : base ≤ w.heap.size)
    (h : ∀ v' w', OwnInts base w' v' (n ++ l) → w.grownBy w' v.ownBlock → wpList Try.prog ops Q rest (a.put o.dst v') w') : wpList Try.prog ops Q (o :: rest) a w := by
  obtain ⟨i0, hi, hz0, hz1, hz2⟩ := info_parts info3
  have hbb := hb
  obtain ⟨ad, cap, rfl, _, hlc, hn, hc⟩ := hbb
  cases ad with
  | none =>
    have := hn rfl
    obtain rfl : l = [] := List.eq_nil_of_length_eq_zero (by omega)
    subst this
    exact wpList_append_own_none hgd s x 35 ho base 3 i0 1 Try.underlying35 hi v n.length (n.map (Value.int .i64)) hs hown hx (h v w (by rw [List.append_nil]; exact hown) (World.grownBy.refl _ _))
  | some ad =>
    refine wpList_plain hgd fun K hK => ?_
    obtain ⟨v', w', hr, h2, h3⟩ := run_append_ints w o.type base v n l hown ad cap hb hsmall hbase
    unfold Oper.wp execOp
    simp only [ho, resolve, invoke, builtin, Sem.run_bind, Sem.run_pure, Result.andThen_ok, List.map_toArray, List.map_cons, List.map_nil, hs, hx, hr]
    exact hK _ _ (h v' w' h2 h3)
theorem after1 {w1 w2 : World} {v2 : Value} {a : List Int} (h1 : OwnInts w1.heap.size (w1.alloc (.cells #[] 3)) (.slice (some ⟨w1.heap.size, 0, none⟩) 0 0) []) (hb : Below w1.heap.size w1 (w1.alloc (.cells #[] 3))) (h2 : OwnInts w1.heap.size w2 v2 ([] ++ a)) (hg : (w1.alloc (.cells #[] 3)).grownBy w2 (Value.slice (some ⟨w1.heap.size, 0, none⟩) 0 0).ownBlock) (more : Int) (hm : -9223372036854775808 ≤ more ∧ more ≤ 9223372036854775807) :
    Hid (OwnInts w1.heap.size (w2.alloc (.cells #[.int .i64 more] 3)) v2 a ∧ IntsAt (w2.alloc (.cells #[.int .i64 more] 3)) (.slice (some ⟨w2.heap.size, 0, none⟩) 1 1) [more]) ∧ Hid (Below w1.heap.size w1 (w2.alloc (.cells #[.int .i64 more] 3))) := by
  have hb2 := hb.grown hg hb.size (fun k hk => (World.ownsRow.lt h1 k hk).1)
  refine ⟨⟨World.ownsRow.alloc h2 _, IntsAt.new w2 [more] (by simp) (fun x hx => ?_)⟩, hb2.alloc hb2.size _⟩
  rw [List.mem_singleton] at hx
  rw [hx]; exact hm
theorem after2 {w1 w2 w3 : World} {v2 v3 : Value} {a : List Int} {more : Int} (h2 : OwnInts w1.heap.size w2 v2 a) (hb : Below w1.heap.size w1 w2) (h3 : OwnInts w1.heap.size w3 v3 (a ++ [more])) (hg : w2.grownBy w3 v2.ownBlock) :
    Hid (OwnInts w1.heap.size w3 v3 (a ++ [more])) ∧ Hid (Below w1.heap.size w1 w3) :=
  ⟨h3, hb.grown hg hb.size (fun k hk => (World.ownsRow.lt h2 k hk).1)⟩
theorem IntsAt.ok {w : World} {v : Value} {l : List Int} (h : IntsAt w v l) : ∀ x ∈ l, -9223372036854775808 ≤ x ∧ x ≤ 9223372036854775807 := by
  intro q hq
  obtain ⟨j, hj⟩ := List.getElem?_of_mem hq
  obtain ⟨a, cap, _, _, _, _, h⟩ := h
  obtain ⟨b, off, _, _, h⟩ := h (by cases l with | nil => cases hq | cons => simp)
  exact (h j q hj).1
set_option maxRecDepth 100000 in
set_option maxHeartbeats 2000000 in
theorem meets_any (n : Int) (va vc : Value) (a c : List Int) (more : Int) (w : World) (hn : -9223372036854775808 ≤ n ∧ n ≤ 9223372036854775807) (hm : -9223372036854775808 ≤ more ∧ more ≤ 9223372036854775807) (hpa : IntsAt w va a) (hpc : IntsAt w vc c) :
    Calls Try.prog 7 #[.int .i64 n, va, vc, .int .i64 more] w fun e w' => e = .returned (.bool true) ∧ Below w.heap.size w w' := by
  have HA := Lib.hid hpa
  have HCC := Lib.hid hpc
  obtain ⟨aa, capa, rfl, hla, -⟩ := hpa
  obtain ⟨ac, capc, rfl, hlc, -⟩ := hpc
  obtain ⟨LA, hLA⟩ : ∃ L, a.length = L := ⟨_, rfl⟩
  obtain ⟨LC, hLC⟩ : ∃ L, c.length = L := ⟨_, rfl⟩
  rw [hLA] at hla HA ⊢
  rw [hLC] at hlc HCC ⊢
  have HLA := Lib.hid hLA
  have HLC := Lib.hid hLC
  clear hLA hLC
  have B0 := Lib.hid (Below.refl w.heap.size w)
  by_cases h1 : 100 < LA
  · have hd : decide ((100 : Int) < LA) = true := by simp; omega
    go_enter Try.func7, Try.ntmps7
    go_wp2_with (go_at_call 10; refine (awake_any _).mono ?_; rintro e wz ⟨rfl, hb⟩; have HF := Lib.hid (B0.out.trans (hb.mono B0.out.size)); clear hb)
    go_ret
    exact ⟨rfl, HF.out⟩
  · have hd : decide ((100 : Int) < LA) = false := by simp; omega
    by_cases h2 : 100 < LC
    · have hd2 : decide ((100 : Int) < LC) = true := by simp; omega
      go_enter Try.func7, Try.ntmps7
      go_wp2_with (go_at_call 10; refine (awake_any _).mono ?_; rintro e wz ⟨rfl, hb⟩; have HF := Lib.hid (B0.out.trans (hb.mono B0.out.size)); clear hb)
      go_ret
      exact ⟨rfl, HF.out⟩
    · have hd2 : decide ((100 : Int) < LC) = false := by simp; omega
      have HQA := Lib.hid (quorum_any n _ a w hn HA.out (by rw [HLA.out]; omega))
      cases hqa : quorum n a
      · rw [hqa] at HQA
        clear hqa
        go_enter Try.func7, Try.ntmps7
        go_wp2_with fail
        refine HQA.out.mono ?_
        rintro e w1 ⟨rfl, hb1⟩
        have B1 := Lib.hid hb1
        clear hb1
        go_wp2_with (go_at_call 10; refine (awake_any _).mono ?_; rintro e wz ⟨rfl, hb⟩; have HF := Lib.hid (B1.out.trans (hb.mono B1.out.size)); clear hb)
        go_ret
        exact ⟨rfl, HF.out⟩
      · rw [hqa] at HQA
        have HQ := Lib.hid hqa
        clear hqa
        go_enter Try.func7, Try.ntmps7
        go_wp2_with fail
        refine HQA.out.mono ?_
        rintro e w1 ⟨rfl, hb1⟩
        have B1 := Lib.hid hb1
        clear hb1
        have A1 := HA.out.below B1.out
        have O1 := OwnInts.made w1
        have A2 := A1.below (Go.Joins.below_alloc1 w1 (.cells #[] 3))
        have BA := Go.Joins.below_alloc1 w1 (.cells #[] 3)
        have HO1 := Lib.hid (And.intro O1 (And.intro A2 BA))
        have HAK := Lib.hid A1.ok
        have HMK := Lib.hid hm
        have hLA2 := HLA.out
        have K1 : True := trivial
        clear A1 A2 O1 BA
        go_wp2_with (first
          | (clear K1; at_builtin; refine wpList_append_ints rfl _ _ rfl w1.heap.size _ _ [] a rfl rfl HO1.out.1 HO1.out.2.1 (by simp; omega) HO1.out.2.2.size ?_; intro v2 w2 ho2 hg2; obtain ⟨HO2, HB2⟩ := after1 HO1.out.1 HO1.out.2.2 ho2 hg2 more HMK.out; clear ho2 hg2)
          | (at_builtin; refine wpList_append_ints rfl _ _ rfl w1.heap.size _ _ a [more] rfl rfl HO2.out.1 HO2.out.2 (by simp; omega) HB2.out.size ?_; intro v3 w3 ho3 hg3; obtain ⟨HO3, HB3⟩ := after2 HO2.out.1 HB2.out ho3 hg3; clear ho3 hg3))
        refine (quorum_any n v3 (a ++ [more]) w3 hn (HO3.out.at (fun x hx => by
          rcases List.mem_append.1 hx with h | h
          · exact HAK.out x h
          · rw [List.mem_singleton] at h; rw [h]; exact HMK.out)) (by simp; omega)).mono ?_
        rintro e w4 ⟨he4, hb4⟩
        rw [quorum_more n a more HQ.out] at he4
        subst he4
        have B4 := Lib.hid (B1.out.trans ((HB3.out.trans (hb4.mono HB3.out.size)).mono B1.out.size))
        have HQC := Lib.hid (quorum_any n _ c w4 hn (HCC.out.below B4.out) (by rw [HLC.out]; omega))
        clear hb4 HO1 HO2 HO3 HB2 HB3 HAK
        cases hqc : quorum n c
        · rw [hqc] at HQC
          clear hqc
          go_wp2_with fail
          refine HQC.out.mono ?_
          rintro e w5 ⟨rfl, hb5⟩
          have B5 := Lib.hid (B4.out.trans (hb5.mono B4.out.size))
          clear hb5
          go_wp2_with (go_at_call 10; refine (awake_any _).mono ?_; rintro e wz ⟨rfl, hb⟩; have HF := Lib.hid (B5.out.trans (hb.mono B5.out.size)); clear hb)
          go_ret
          exact ⟨rfl, HF.out⟩
        · rw [hqc] at HQC
          have HMEET := Lib.hid (quorum_meet n a c HQ.out hqc)
          clear hqc
          go_wp2_with fail
          refine HQC.out.mono ?_
          rintro e w5 ⟨rfl, hb5⟩
          have B5 := Lib.hid (B4.out.trans (hb5.mono B4.out.size))
          clear hb5
          go_wp2
          go_loopw [9] (fun i wr => ∃ k : Nat, k ≤ LA ∧ i = .int .i64 (k : Nat) ∧ Hid ((∀ v ∈ a.take k, 1 ≤ v → v ≤ n → v ∉ c) ∧ Below w.heap.size w wr)) (fun i _ => LA - (intOf i).toNat)
          case atStart => exact ⟨0, Nat.zero_le _, rfl, by simp, B5.out⟩
          case round =>
            obtain ⟨i, hi, rfl, HR⟩ := hrel
            obtain ⟨wo, rfl⟩ : ∃ wo : World, wo = wr := ⟨_, rfl⟩
            by_cases hlt : i < LA
            · have hltz : (i : Int) < (LA : Int) := by omega
              obtain ⟨x, hx⟩ : ∃ x, a[i]? = some x := ⟨_, List.getElem?_eq_getElem (by rw [HLA.out]; exact hlt)⟩
              obtain ⟨b, off, rfl, hb, -, hc⟩ := (HA.out.below HR.out.2).cell hx
              have HCX := Lib.hid (show ∀ W, Below w.heap.size w W → W.cell? ⟨b, off + i, none⟩ = some (.int .i64 x) from fun W hb' => by
                obtain ⟨b2, off2, hbe, _, _, hc2⟩ := (HA.out.below hb').cell hx
                cases hbe
                exact hc2 i x hx)
              have HXX := Lib.hid hx
              clear hc hb hx
              go_wp2
              go_loopw [10] (fun j wr => ∃ k : Nat, k ≤ LC ∧ j = .int .i64 (k : Nat) ∧ Hid ((∀ u ∈ c.take k, 1 ≤ x → x ≤ n → x ≠ u) ∧ Below w.heap.size w wr)) (fun j _ => LC - (intOf j).toNat)
              case atStart => exact ⟨0, Nat.zero_le _, rfl, by simp, HR.out.2⟩
              case round =>
                obtain ⟨k, hk, rfl, HW⟩ := hrel
                by_cases hkc : k < LC
                · have hkz : (k : Int) < (LC : Int) := by omega
                  obtain ⟨y, hy⟩ : ∃ y, c[k]? = some y := ⟨_, List.getElem?_eq_getElem (by rw [HLC.out]; exact hkc)⟩
                  obtain ⟨b2, off2, rfl, -, -, hc2⟩ := (HCC.out.below HW.out.2).cell hy
                  have cy := hc2 k y hy
                  have cx := HCX.out wr HW.out.2
                  have HNX := Lib.hid (show ∀ (hne : ¬ (x = y ∧ 1 ≤ x ∧ x ≤ n)), ∀ u ∈ c.take (k + 1), 1 ≤ x → x ≤ n → x ≠ u from fun hne u hu h1 h2 => by
                    obtain ⟨hkl, he⟩ := List.getElem?_eq_some_iff.1 hy
                    rw [List.take_succ_eq_append_getElem hkl, he] at hu
                    rcases List.mem_append.1 hu with hu | hu
                    · exact HW.out.1 u hu h1 h2
                    · rw [List.mem_singleton] at hu
                      rw [hu]
                      exact fun e => hne ⟨e, h1, h2⟩)
                  clear hc2 hy
                  cases hxy : (x == y)
                  · have HNEXT := HNX.out (by intro h; simp [h.1] at hxy)
                    have HNEXT := Lib.hid HNEXT
                    go_wp2_with fail
                    go_quiet (fail)
                    go_wp2
                    go_roundw
                    case rel => exact ⟨k + 1, by omega, by go_num, ⟨HNEXT.out, drewN_below HW.out.2 _⟩⟩
                    case measure => simp [intOf]; omega
                  · by_cases hx1 : 1 ≤ x
                    · cases hxn : decide (x ≤ n)
                      · have HNEXT := Lib.hid (HNX.out (by intro h; simp at hxn; omega))
                        go_wp2_with fail
                        go_quiet (fail)
                        go_wp2
                        go_roundw
                        case rel => exact ⟨k + 1, by omega, by go_num, ⟨HNEXT.out, drewN_below HW.out.2 _⟩⟩
                        case measure => simp [intOf]; omega
                      · go_wp2_with fail
                        go_quiet (fail)
                        have BQ := Lib.hid (drewN_below HW.out.2 nq)
                        go_wp2_with (go_at_call 10; refine (awake_any _).mono ?_; rintro e wz ⟨rfl, hb⟩; have HF := Lib.hid (BQ.out.trans (hb.mono BQ.out.size)); clear hb)
                        go_ret
                        exact ⟨rfl, HF.out⟩
                    · have hx1d : decide (1 ≤ x) = false := by simp; omega
                      have HNEXT := Lib.hid (HNX.out (by intro h; exact hx1 h.2.1))
                      go_wp2_with fail
                      go_quiet (fail)
                      go_wp2
                      go_roundw
                      case rel => exact ⟨k + 1, by omega, by go_num, ⟨HNEXT.out, drewN_below HW.out.2 _⟩⟩
                      case measure => simp [intOf]; omega
                · obtain rfl : k = LC := by omega
                  have HNO := Lib.hid (show ∀ v ∈ a.take (i + 1), 1 ≤ v → v ≤ n → v ∉ c from fun v hv h1 h2 hvc => by
                    obtain ⟨hil, he⟩ := List.getElem?_eq_some_iff.1 HXX.out
                    rw [List.take_succ_eq_append_getElem hil, he] at hv
                    rcases List.mem_append.1 hv with hv | hv
                    · exact HR.out.1 v hv h1 h2 hvc
                    · rw [List.mem_singleton] at hv
                      subst hv
                      exact HW.out.1 v (by rw [List.take_of_length_le (by rw [HLC.out]; exact Nat.le_refl _)]; exact hvc) h1 h2 rfl)
                  go_wp2
                  go_roundw
                  case rel => exact ⟨i + 1, by omega, by go_num, ⟨HNO.out, HW.out.2⟩⟩
                  case measure => simp [intOf]; omega
            · exfalso
              obtain rfl : i = LA := by omega
              obtain ⟨v, h1, h2, h3, h4⟩ := HMEET.out
              exact HR.out.1 v (by rw [List.take_of_length_le (by rw [HLA.out]; exact Nat.le_refl _)]; exact h1) h3 h4 h2
end Go.Proofs.Ytomoomeocolkmaa
