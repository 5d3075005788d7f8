/- BallotNext. -/
import Derived.Test.YtomoomeocolkmaaLawMeets
import Derived.Test.YtomoomeocolkmaaGrow
namespace Go.Proofs.Ytomoomeocolkmaa
open Go.RowKit
abbrev OwnBs (base : Nat) (w : World) (v : Value) (l : List BV) : Prop := OwnRow 24 3 BV.cells base w v l
theorem bs_one (l : List BV) : ∀ u ∈ l.flatMap BV.cells, u.oneCell' = true := by
  intro u hu
  obtain ⟨q, _, hq⟩ := List.mem_flatMap.1 hu
  simp only [BV.cells, List.mem_cons, List.not_mem_nil, or_false] at hq
  rcases hq with rfl | rfl | rfl <;> rfl
theorem wpList_append_ints_want {w : World} {ops : Array Oper} {rest : List Oper} {o : Oper} {a : Act} {Q : Exit → Act → World → Prop} (hgd : Region.wanted o (yielded ops a.tmps) = true) (s x : Operand)
    (ho : o.op = .call { callee := .builtin .append, args := #[s, x], argTypes := #[35, 35] }) (base : Nat) (v u : Value) (n l : List Int) (hs : a.eval s = v) (hx : a.eval x = u)
    (hown : OwnInts base w v n) (hb : IntsAt w u l) (hsmall : n.length + l.length ≤ 1000000) (hbase : base ≤ w.heap.size)
    (h : ∀ v' w', OwnInts base w' v' (n ++ l) → w.grownBy w' v.ownBlock → wpList Try.prog ops Q rest (a.put o.dst v') w') : wpList Try.prog ops Q (o :: rest) a w := by
  obtain ⟨i0, hi, hz0, hz1, hz2⟩ := info_parts info3
  have hbb := hb
  obtain ⟨ad, cap, rfl, _, hlc, hn, hc⟩ := hbb
  refine BigFrame.wpList_want hgd fun K hK => ?_
  cases ad with
  | none =>
    have := hn rfl
    obtain rfl : l = [] := List.eq_nil_of_length_eq_zero (by omega)
    subst this
    have hrun := run_append_owned_none (P := Try.prog) (w := w) base 35 o.type 3 i0 1 Try.underlying35 hi v n.length (n.map (Value.int .i64)) hown
    have hx' : a.eval x = .slice none 0 0 := hx
    have hk := hK _ _ (h v w (by rw [List.append_nil]; exact hown) (World.grownBy.refl _ _))
    unfold Oper.wp
    simp [execOp, ho, resolve, invoke, builtin, hs, hx', hrun, Result.andThen]
    exact hk
  | some ad =>
    obtain ⟨v', w', hr, h2, h3⟩ := run_append_ints w o.type base v n l hown ad cap hb hsmall hbase
    unfold Oper.wp execOp
    simp only [ho, resolve, invoke, builtin, Sem.run_bind, Sem.run_pure, Result.andThen_ok, List.map_toArray, List.map_cons, List.map_nil, hs, hx, hr]
    exact hK _ _ (h v' w' h2 h3)
set_option maxRecDepth 100000 in
set_option maxHeartbeats 2000000 in
theorem nextlaw_any (n i : Int) (vs vf : Value) (l : List BV) (m : Int) (f : List Int) (w : World) (hm : -9223372036854775808 ≤ m ∧ m ≤ 9223372036854775807) (hp : BsAt w vs l) (hpf : IntsAt w vf f) :
    Calls Try.prog 4 #[.int .i64 n, .int .u64 i, vs, .int .i64 m, vf] w fun e w' => e = .returned (.bool true) ∧ Below w.heap.size w w' := by
  have HP := Lib.hid hp
  have HF := Lib.hid hpf
  obtain ⟨a, cap, rfl, hlen, -⟩ := hp
  obtain ⟨af, capf, rfl, hlenf, -⟩ := hpf
  obtain ⟨L, hL⟩ : ∃ L, l.length = L := ⟨_, rfl⟩
  obtain ⟨K, hK⟩ : ∃ K, f.length = K := ⟨_, rfl⟩
  rw [hL] at hlen HP ⊢
  rw [hK] at hlenf HF ⊢
  have HL := Lib.hid hL
  have HKL := Lib.hid hK
  clear hL hK
  have B0 := Lib.hid (Below.refl w.heap.size w)
  by_cases h1 : 1000 < L
  · have hd : decide ((1000 : Int) < L) = true := by simp; omega
    go_enter Try.func4, Try.ntmps4
    go_wp2_with (go_at_call 10; refine (awake_any _).mono ?_; rintro e wz ⟨rfl, hb⟩; have HF := Lib.hid (B0.out.trans (hb.mono B0.out.size)); clear hb)
    go_ret
    exact ⟨rfl, HF.out⟩
  · have hd : decide ((1000 : Int) < L) = false := by simp; omega
    by_cases h2 : 300 < K
    · have hd2 : decide ((300 : Int) < K) = true := by simp; omega
      go_enter Try.func4, Try.ntmps4
      go_wp2_with (go_at_call 10; refine (awake_any _).mono ?_; rintro e wz ⟨rfl, hb⟩; have HF := Lib.hid (B0.out.trans (hb.mono B0.out.size)); clear hb)
      go_ret
      exact ⟨rfl, HF.out⟩
    · have hd2 : decide ((300 : Int) < K) = false := by simp; omega
      have BA := Go.Joins.below_alloc1 w (.cells #[] 24)
      have HO := Lib.hid (show OwnBs w.heap.size (w.alloc (.cells #[] 24)) (.slice (some ⟨w.heap.size, 0, none⟩) 0 0) [] ∧ BsAt (w.alloc (.cells #[] 24)) (.slice a L cap) l ∧ Below w.heap.size w (w.alloc (.cells #[] 24)) from ⟨OwnRow.made w, HP.out.below BA, BA⟩)
      have HOK := Lib.hid HP.out.ok
      obtain ⟨B, E, hBE⟩ : ∃ B E, next n i l = (B, E) := ⟨_, _, rfl⟩
      have HN := Lib.hid (show ∀ v W, BsAt W v l → Calls Try.prog 18 #[.int .i64 n, .int .u64 i, v] W fun e w' => e = .returned (.tuple #[B.val, .int .i64 E]) ∧ Below W.heap.size W w' from fun v W h => by have := next_any n i v l W h; rwa [hBE] at this)
      have HR := Lib.hid (show ∀ W, Below w.heap.size w W → Calls Try.prog 19 #[.int .i64 n, .int .u64 i, .slice a L cap] W fun e w' => e = .returned (.tuple #[B.val, .int .i64 E]) ∧ Below W.heap.size W w' from fun W h => by have := rnext_any n i _ l W (HP.out.below h); rwa [hBE] at this)
      have HHA := Lib.hid (fun W => half_any m hm.2 W)
      have HHB := Lib.hid (fun W => rhalf_any m hm.2 W)
      generalize half m = hm2 at HHA HHB
      have HQ := Lib.hid (fun v W h => quorum_any m v f W hm h (by rw [HKL.out]; omega))
      have HQR := Lib.hid (show ∀ W, Below w.heap.size w W → Calls Try.prog 23 #[.int .i64 m, .slice af K capf] W fun e w' => e = .returned (.bool (quorum m f)) ∧ Below W.heap.size W w' from fun W h => rquorum_any m _ f W hm (HF.out.below h) (by rw [HKL.out]; omega))
      generalize quorum m f = qq at HQ HQR
      have HFO := Lib.hid HF.out.ok
      have hL1 := HL.out
      have hK1 := HKL.out
      have zz := fun w => eql24 B B w
      rw [decide_eq_true (rfl : B = B)] at zz
      have zg := guard24
      dsimp only [BV.val] at zz
      clear hBE BA hm
      go_enter Try.func4, Try.ntmps4
      go_wp2_with (at_builtin; refine wpList_append_rows rfl _ _ 34 24 3 24 _ BV.cells rfl Try.underlying34 info24b rfl (by decide) (by decide) (fun _ => rfl) w.heap.size _ _ [] l rfl rfl HO.out.1 HO.out.2.1 (bs_one l) (by simp; omega) HO.out.2.2.size ?_; intro v2 w2 ho2 hg2; have HO2 := Lib.hid ho2; have B2 := Lib.hid (HO.out.2.2.grown hg2 HO.out.2.2.size (fun k hk => (OwnRow.lt HO.out.1 k hk).1)); clear ho2 hg2)
      refine (HN.out v2 w2 (OwnRow.at (fun _ => rfl) HO2.out (fun x hx => HOK.out x (by simpa using hx)))).mono ?_
      rintro e w3 ⟨rfl, hb3⟩
      have B3 := Lib.hid (B2.out.trans (hb3.mono B2.out.size))
      have B3a := Lib.hid (B3.out.alloc B3.out.size (.cells #[.int .u64 B.r, .int .i64 B.n, .int .u64 B.i] 24))
      have X3 := Lib.hid (Box3.new w3 B)
      clear hb3
      go_wp2_with fail
      refine (HR.out _ B3a.out).mono ?_
      rintro e w4 ⟨rfl, hb4⟩
      have hx4 := X3.out.below hb4 X3.out.lt
      have B4 := Lib.hid (B3a.out.trans (hb4.mono B3a.out.size))
      have B4a := Lib.hid (B4.out.alloc B4.out.size (.cells #[.int .u64 B.r, .int .i64 B.n, .int .u64 B.i] 24))
      have hx5 := fun o => hx4.below (Go.Joins.below_alloc1 w4 o) hx4.lt
      have c0 := fun o => (hx5 o).c0
      have c1 := fun o => (hx5 o).c1
      have c2 := fun o => (hx5 o).c2
      clear hb4 hx4 hx5 X3
      have HO6 := Lib.hid (show ∀ W, Below w.heap.size w W → OwnInts W.heap.size (W.alloc (.cells #[] 3)) (.slice (some ⟨W.heap.size, 0, none⟩) 0 0) [] ∧ IntsAt (W.alloc (.cells #[] 3)) (.slice af K capf) f ∧ Below W.heap.size W (W.alloc (.cells #[] 3)) from fun W h => ⟨OwnInts.made W, (HF.out.below h).below (Go.Joins.below_alloc1 W _), Go.Joins.below_alloc1 W _⟩)
      have h6 := HO6.out _ B4a.out
      have hs6 : (w4.alloc (.cells #[.int .u64 B.r, .int .i64 B.n, .int .u64 B.i] 24)).heap.size = w4.heap.size + 1 := World.size_alloc _ _
      rw [hs6] at h6
      have H6 := Lib.hid h6
      have B4c := Lib.hid (show ∀ W, Below (w4.heap.size + 1) (w4.alloc (.cells #[.int .u64 B.r, .int .i64 B.n, .int .u64 B.i] 24)) W → Below w.heap.size w W from fun W hb => B4a.out.trans (hb.mono (by have := B4a.out.size; omega)))
      have HSZ := Lib.hid (show w4.heap.size + 1 ≤ ((w4.alloc (.cells #[.int .u64 B.r, .int .i64 B.n, .int .u64 B.i] 24)).alloc (.cells #[] 3)).heap.size by simp [World.size_alloc])
      clear HO6 h6 hs6
      go_wp2_with (first
        | (go_at_call 20; refine (HHA.out _).mono ?_; rintro e w5 ⟨rfl, rfl⟩)
        | (go_at_call 21; refine (HHB.out _).mono ?_; rintro e w5 ⟨rfl, rfl⟩)
        | (at_builtin; refine wpList_append_ints_want rfl _ _ rfl (w4.heap.size + 1) _ _ [] f rfl rfl H6.out.1 H6.out.2.1 (by simp; omega) HSZ.out ?_; intro v6 w6 ho6 hg6; have HO7 := Lib.hid ho6; have B6 := Lib.hid (B4c.out w6 (H6.out.2.2.grown hg6 HSZ.out (fun k hk => (World.ownsRow.lt H6.out.1 k hk).1))); clear ho6 hg6)
        | (go_at_call 22; refine (HQ.out _ _ (OwnInts.at HO7.out (fun x hx => HFO.out x (by simpa using hx)))).mono ?_; rintro e w7 ⟨rfl, hb7⟩; have B7 := Lib.hid (B6.out.trans (hb7.mono B6.out.size)); clear hb7)
        | (go_at_call 23; refine (HQR.out _ B7.out).mono ?_; rintro e w8 ⟨rfl, hb8⟩; have B8 := Lib.hid (B7.out.trans (hb8.mono B7.out.size)); clear hb8)
        | (go_at_call 10; refine (awake_any _).mono ?_; rintro e wz ⟨rfl, hb⟩; have HFIN := Lib.hid (B8.out.trans (hb.mono B8.out.size)); clear hb))
      go_ret
      exact ⟨rfl, HFIN.out⟩
end Go.Proofs.Ytomoomeocolkmaa
