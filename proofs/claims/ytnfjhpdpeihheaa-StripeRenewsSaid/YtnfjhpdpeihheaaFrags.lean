/- Rows of one fragment: two the same; a copy. -/
import Derived.Test.YtnfjhpdpeihheaaMeetM
import Derived.Deep.RegionLaw
namespace Go.Proofs.Ytnfjhpdpeihheaa
open Go.RowKit Go.Maps Go.Shelf
set_option maxRecDepth 100000 in
set_option maxHeartbeats 4000000 in
theorem sameF_any (b1 o1 k1 b2 o2 k2 : Nat) (f1 f2 : Int) (a1 a2 : Option Addr) (c1 c2 : Nat) (l m : List PL) (w : World) (h1 : OneFrag w b1 o1 f1 a1 l.length c1) (h2 : OneFrag w b2 o2 f2 a2 m.length c2) (hp : PsAt w (.slice a1 l.length c1) l) (hq : PsAt w (.slice a2 m.length c2) m) :
    Calls Try.prog 24 #[.slice (some ⟨b1, o1, none⟩) 1 k1, .slice (some ⟨b2, o2, none⟩) 1 k2] w fun e w' => e = .returned (.bool (decide (f1 = f2) && decide (l = m))) ∧ Below w.heap.size w w' := by
  have HP := Lib.hid hp
  have HQ := Lib.hid hq
  have H1 := Lib.hid h1
  have H2 := Lib.hid h2
  obtain ⟨L, hL⟩ : ∃ L, l.length = L := ⟨_, rfl⟩
  obtain ⟨M, hM⟩ : ∃ M, m.length = M := ⟨_, rfl⟩
  rw [hL] at HP H1
  rw [hM] at HQ H2
  have HL := Lib.hid hL
  have HM := Lib.hid hM
  obtain ⟨_, _, hv, hlen, _⟩ := HP.out.form
  have hL63 : L ≤ 9223372036854775807 := by rw [← hL]; exact hlen
  obtain ⟨R, hR⟩ : ∃ R, (decide (f1 = f2) && decide (l = m)) = R := ⟨_, rfl⟩
  rw [hR]
  have HR0 := Lib.hid hR
  clear hL hM hp hq h1 h2 hR hv hlen
  have HC := Lib.hid (show ∀ W', Below w.heap.size w W' → (W'.cell? ⟨b1, o1, none⟩ = some (.int .u64 f1) ∧ W'.cell? ⟨b1, o1 + 1, none⟩ = some (.slice a1 L c1)) ∧ W'.cell? ⟨b2, o2, none⟩ = some (.int .u64 f2) ∧ W'.cell? ⟨b2, o2 + 1, none⟩ = some (.slice a2 M c2) from fun W' hb =>
    ⟨⟨(H1.out.below hb).c0, (H1.out.below hb).c1⟩, (H2.out.below hb).c0, (H2.out.below hb).c1⟩)
  go_enter Try.func24, Try.ntmps24
  go_wp2
  go_loopw [5] (fun i wr => (i = .int .i64 0 ∨ (i = .int .i64 1 ∧ Hid (R = true))) ∧ Hid (Below w.heap.size w wr)) (fun i _ => 1 - (intOf i).toNat)
  case atStart => exact ⟨.inl rfl, Below.refl _ _⟩
  case round =>
    obtain ⟨hi | ⟨hi, HT⟩, HB⟩ := hrel
    · subst hi
      obtain ⟨⟨x0, x1⟩, y0, y1⟩ := HC.out wr HB.out
      have HBD := Lib.hid (fun n => drewN_below HB.out n)
      by_cases hf : f1 = f2
      · subst hf
        have hfb : (f1 == f1) = true := by simp
        by_cases hLM : L = M
        · subst hLM
          have hlb : ((L : Int) == (L : Int)) = true := by simp
          go_wp2_with fail
          go_quiet (fail)
          go_wp2
          go_loopw [6] (fun i wx => ∃ t : Nat, t ≤ L ∧ i = .int .i64 (t : Nat) ∧ Hid (l.take t = m.take t) ∧ Hid (Below w.heap.size w wx)) (fun i _ => L - (intOf i).toNat)
          case atStart => exact ⟨0, Nat.zero_le _, rfl, (show l.take 0 = m.take 0 by rw [List.take_zero, List.take_zero]), HBD.out _⟩
          case round =>
            obtain ⟨t, ht, rfl, HT, HB2⟩ := hrel
            obtain ⟨⟨x0, x1⟩, y0, y1⟩ := HC.out wr HB2.out
            have HBD2 := Lib.hid (fun n => drewN_below HB2.out n)
            by_cases hlt : t < L
            · have hltz : (t : Int) < (L : Int) := by omega
              obtain ⟨p, hp⟩ : ∃ p, l[t]? = some p := ⟨_, List.getElem?_eq_getElem (by rw [HL.out]; exact hlt)⟩
              obtain ⟨q, hq⟩ : ∃ q, m[t]? = some q := ⟨_, List.getElem?_eq_getElem (by rw [HM.out]; exact hlt)⟩
              obtain ⟨pb, po, rfl, _, hc⟩ := PsAt.cell (HP.out.below HB2.out) hp
              obtain ⟨p0, p1⟩ := hc wr (Below.refl _ _)
              obtain ⟨qb, qo, rfl, _, hc2⟩ := PsAt.cell (HQ.out.below HB2.out) hq
              obtain ⟨q0, q1⟩ := hc2 wr (Below.refl _ _)
              have k1 := fun w => neq38 p q w
              have kg := guard38
              have HTE := Lib.hid (take_eq_snoc HT.out hp hq)
              clear hc hc2 hp hq
              by_cases hpq : p = q
              · rw [decide_eq_true hpq] at k1
                dsimp only [PL.val, Bool.not_true] at k1
                have HN := Lib.hid (HTE.out.2 hpq)
                clear hpq
                go_wp2_with fail
                go_quiet (fail)
                go_wp2
                go_roundw
                case rel => exact ⟨t + 1, by omega, by go_num, HN.out, HBD2.out _⟩
                case measure => simp [intOf]; omega
              · rw [decide_eq_false hpq] at k1
                dsimp only [PL.val, Bool.not_false] at k1
                have HN := Lib.hid (show R = false from by
                  rw [← HR0.out, decide_eq_false (fun (e : l = m) => hpq (HTE.out.1 (by rw [e]))), Bool.and_false])
                clear hpq
                go_wp2_with fail
                go_quiet (fail)
                go_wp2
                go_ret
                exact ⟨by rw [HN.out]; rfl, HBD2.out _⟩
            · obtain rfl : t = L := by omega
              have HN := Lib.hid (show R = true from by
                rw [← HR0.out, decide_eq_true (show l = m by have := HT.out; rw [take_all HL.out, take_all HM.out] at this; exact this)]
                simp)
              go_wp2
              go_roundw
              case rel => exact ⟨.inr ⟨rfl, HN.out⟩, HB2.out⟩
              case measure => simp [intOf]
        · have hlb : ((L : Int) == (M : Int)) = false := by simp; omega
          have hlb' : ((L : Int) != (M : Int)) = true := by rw [bne, hlb]; rfl
          have HN := Lib.hid (show R = false from by
            rw [← HR0.out, decide_eq_false (fun (e : l = m) => hLM (by rw [← HL.out, ← HM.out, e])), Bool.and_false])
          clear hLM
          go_wp2_with fail
          go_quiet (fail)
          go_wp2
          go_ret
          exact ⟨by rw [HN.out]; rfl, HBD.out _⟩
      · have hfb : (f1 == f2) = false := by simpa using hf
        have hfb' : (f1 != f2) = true := by rw [bne, hfb]; rfl
        have HN := Lib.hid (show R = false from by
          rw [← HR0.out, decide_eq_false hf, Bool.false_and])
        clear hf
        go_wp2_with fail
        go_quiet (fail)
        go_wp2
        go_ret
        exact ⟨by rw [HN.out]; rfl, HBD.out _⟩
    · subst hi
      go_wp2
      go_ret
      exact ⟨by rw [HT.out]; rfl, HB.out⟩
/-- a fragment's cells -/
def fcells (p : Int × Value) : List Value := [.int .u64 p.1, p.2]
theorem info25 : (Try.prog.info? 25).map (fun i => (i.zero, i.size, i.bytes)) = some (some (.agg #[.int .u64 0, .slice none 0 0]), 2, 32) := by kernel_rfl
/-- a fragment behind none -/
theorem step_append_f1 {ops : Array Oper} {o : Oper} {a : Act} {w : World} {K : Act → World → Prop} {Q : Exit → Act → World → Prop} {E : Prop}
    (hg : o.guard = none) (s x : Operand) (hop : o.op = Op.call { callee := Callee.builtin Builtin.append, args := #[s, x], argTypes := #[27, 27] })
    (z : Nat) (f : Int) (ua : Option Addr) (un uc : Nat) (hb : Box25 w z f (.slice ua un uc)) (hs : a.eval s = .slice none 0 0) (hx : a.eval x = .slice (some ⟨z, 0, none⟩) 1 1)
    (hK : ∀ g cap w', OneFrag w' g 0 f ua un uc → Below w.heap.size w w' → K (a.put o.dst (.slice (some ⟨g, 0, none⟩) 1 cap)) w') :
    if Region.wanted o (yielded ops a.tmps) = true then Oper.wp Try.prog o a w K Q else E := by
  have hw : Region.wanted o (yielded ops a.tmps) = true := by simp [Region.wanted, hg]
  rw [if_pos hw]
  obtain ⟨i0, hi, hz0, hz1, hz2⟩ := info_parts info25
  have hnews : ∀ (j : Nat) u, (([(f, .slice ua un uc)] : List (Int × Value)).flatMap fcells)[j]? = some u → w.cell? ((⟨z, 0, none⟩ : Addr).add j) = some u := fun j u hj => by
    rw [Addr.add_lit, Nat.zero_add, Go.Joins.cell_of_block hb]
    simpa [fcells] using hj
  obtain ⟨v', w', hr, h2, h3, _⟩ := run_append_own_wide (P := Try.prog) w w.heap.size 27 o.type 25 i0 _ 2 32 Try.underlying27 hi hz0 hz1 hz2 rfl (by decide) (.slice none 0 0) 0 [] (World.ownsRow_nil _ _ _ _) ⟨z, 0, none⟩ 1 1 (([(f, .slice ua un uc)] : List (Int × Value)).flatMap fcells) rfl hnews (fun u hu => by
    simp only [fcells, List.flatMap_cons, List.flatMap_nil, List.append_nil, List.mem_cons, List.not_mem_nil, or_false] at hu
    rcases hu with rfl | rfl <;> rfl) (by unfold maxLen; omega) (by omega) (Nat.le_refl _)
  have hB : Below w.heap.size w w' := (Below.refl _ w).grown h3 (Nat.le_refl _) (fun k hk => by cases hk)
  have h2' := h2
  rcases h2.2 with ⟨_, h0⟩ | ⟨g, cap, cur, rfl, hbg, hgl, _⟩
  · omega
  · have hc0 := World.ownsRow.cellAt h2'
    have hk := hK g cap w' ⟨lt_of_block hgl, by simpa [fcells] using hc0 0 (by omega), by simpa [fcells] using hc0 1 (by omega)⟩ hB
    clear hK
    unfold Oper.wp
    simp only [execOp, hop, resolve, invoke, builtin, Sem.run_bind, Sem.run_pure, Result.andThen_ok, List.map_toArray, List.map_cons, List.map_nil, hs, hx, hr]
    exact hk
set_option maxRecDepth 100000 in
set_option maxHeartbeats 4000000 in
theorem copyF_any (b o k : Nat) (f : Int) (a : Option Addr) (c : Nat) (l : List PL) (w : World) (h : OneFrag w b o f a l.length c) (hp : PsAt w (.slice a l.length c) l) (hl : l.length ≤ 100000) :
    Calls Try.prog 20 #[.slice (some ⟨b, o, none⟩) 1 k] w fun e w' => ∃ b' k' a' c', e = .returned (.slice (some ⟨b', 0, none⟩) 1 k') ∧ OneFrag w' b' 0 f a' l.length c' ∧ PsAt w' (.slice a' l.length c') l ∧ Below w.heap.size w w' := by
  have HP := Lib.hid hp
  have H := Lib.hid h
  have HOK := Lib.hid hp.ok
  obtain ⟨L, hL⟩ : ∃ L, l.length = L := ⟨_, rfl⟩
  rw [hL] at HP H hl ⊢
  have HL := Lib.hid hL
  clear hL hp h
  have HC := Lib.hid (show ∀ W', Below w.heap.size w W' → W'.cell? ⟨b, o, none⟩ = some (.int .u64 f) ∧ W'.cell? ⟨b, o + 1, none⟩ = some (.slice a L c) from fun W' hb => ⟨(H.out.below hb).c0, (H.out.below hb).c1⟩)
  go_enter Try.func20, Try.ntmps20
  go_wp2
  go_loopw [3, 4] (fun s i wr => ((i = .int .i64 0 ∧ s = .slice none 0 0) ∨ (i = .int .i64 1 ∧ ∃ b' k', s = .slice (some ⟨b', 0, none⟩) 1 k' ∧ Hid (∃ a' c', OneFrag wr b' 0 f a' L c' ∧ PsAt wr (.slice a' L c') l))) ∧ Hid (Below w.heap.size w wr)) (fun _ i _ => 1 - (intOf i).toNat)
  case atStart => exact ⟨.inl ⟨rfl, rfl⟩, Below.refl _ _⟩
  case round =>
    obtain ⟨⟨hi, hs⟩ | ⟨hi, b', k', hs, HG⟩, HB⟩ := hrel
    · subst hi
      subst hs
      have HK := Lib.hid (show ∀ W', On wr W' → W'.cell? ⟨b, o, none⟩ = some (.int .u64 f) ∧ W'.cell? ⟨b, o + 1, none⟩ = some (.slice a L c) from fun W' hb => HC.out W' (HB.out.trans (Below.mono hb HB.out.size)))
      obtain ⟨z0, z1⟩ := HK.out wr (Below.refl _ _)
      have z0a : ∀ q, (wr.alloc q).cell? ⟨b, o, none⟩ = some (.int .u64 f) := fun q => (HK.out _ (Go.Joins.below_alloc1 wr q)).1
      have z1a : ∀ q, (wr.alloc q).cell? ⟨b, o + 1, none⟩ = some (.slice a L c) := fun q => (HK.out _ (Go.Joins.below_alloc1 wr q)).2
      have HA : Hid (∀ q, On wr (wr.drew.alloc q)) := fun q => (Below.drew (Below.refl _ wr)).alloc (Nat.le_refl _) q
      have HFR := Lib.hid (show ∀ W', On wr W' → PsAt W' (.slice a L c) l from fun W' hb => (HP.out.below HB.out).below hb)
      have HM1 : Hid (OwnPs wr.heap.size (wr.drew.alloc (.cells #[] 38)) (.slice (some ⟨wr.heap.size, 0, none⟩) 0 0) []) := OwnPs.made wr.drew wr.heap.size (Nat.le_refl _)
      have HSM : Hid (([] : List PL).length + l.length ≤ 1000000) := by
        unfold Hid; rw [HL.out]; simp only [List.length_nil]; omega
      go_wp2_with fail
      go_region_law (first
        | (refine step_append_ps rfl (.tmp 17) (.tmp 22) rfl wr.heap.size _ (.slice a L c) [] l HM1.out (HFR.out _ (HA.out _)) (by simp [Act.eval]) (by simp [Act.eval]) HSM.out (Below.size (HA.out _)) ?_; intro v3 w3 ho3 hg3; have b3 : On wr w3 := (HA.out _).grown hg3 (Below.size (HA.out _)) (fun j hj => HM1.out.own j hj); obtain ⟨ga, gc, hv3⟩ := OwnPs.form ho3 HOK.out; rw [List.nil_append, HL.out] at hv3; subst hv3; have HPS := Lib.hid (OwnPs.at ho3 HOK.out); have HB3 := Lib.hid b3; obtain ⟨e0, e1⟩ := HK.out w3 b3; clear ho3 hg3 b3)
        | (refine step_append_f1 rfl (.tmp 11) (.tmp 25) rfl _ f ga L gc (Box25.new _ _ _) (by simp [Act.eval]) (by simp [Act.eval]) ?_; intro g5 cap5 w5 hof5 hb5; have HX := Lib.hid (show (∃ a' c', OneFrag w5 g5 0 f a' L c' ∧ PsAt w5 (.slice a' L c') l) ∧ Below w.heap.size w w5 from ⟨⟨_, _, hof5, PsAt.below (PsAt.below HPS.out (Go.Joins.below_alloc1 _ _)) hb5⟩, HB.out.trans (Below.mono (On.step (On.step HB3.out (Go.Joins.below_alloc1 _ _)) hb5) HB.out.size)⟩); clear hof5 hb5))
      all_goals go_wp2
      all_goals go_roundw
      all_goals (first | exact ⟨.inr ⟨rfl, _, _, rfl, HX.out.1⟩, HX.out.2⟩ | simp [intOf])
    · subst hi
      subst hs
      go_wp2
      go_ret
      obtain ⟨a', c', g1, g2⟩ := HG.out
      exact ⟨_, _, _, _, rfl, g1, g2, HB.out⟩
end Go.Proofs.Ytnfjhpdpeihheaa
