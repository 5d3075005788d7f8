/- Covered. -/
import Derived.Test.YtnfjhpdpeihheaaCov
import Derived.Laws.EntriesVeiled
namespace Go.Proofs.Ytnfjhpdpeihheaa
open Go.RowKit Go.Maps Go.Shelf
attribute [local go_sem] Oper.semAt_some
theorem sets_any (f n : Int) (u : Value) (w : World) :
    Calls Try.prog 38 #[.agg #[.int .u64 f, u], .int .i64 n] w fun e w' => e = .returned (.func (.func 54) #[] #[.pointer (some ⟨w.heap.size, 0, none⟩), .pointer (some ⟨w.heap.size + 1, 0, none⟩)]) ∧ w' = (w.alloc (.cells #[.int .u64 f, u] 25)).alloc (.cells #[.int .i64 n] 3) := by
  have hmf : ∀ (fn : Fn) (first cap : Array Value) (w : World), (Instr.makeFunc fn first cap).run Try.prog w = .ok (.func fn first cap) w := fun _ _ _ _ => rfl
  go_enter Try.func38, Try.ntmps38
  go_wp2
  go_ret
  exact ⟨rfl, rfl⟩
/-- of each write set so many have answered that the others cannot be a -/
def covB (p : PL → Bool) (row : List PL) (n a : Int) : Bool := hasB row n && (List.range row.length).all fun k => missB p (rot row k n.toNat) n a
/-- Covered's boxes -/
def C4 (w : World) (f n x : Int) (u : Value) : World := (((w.alloc (.cells #[.int .u64 f, u] 25)).alloc (.cells #[.int .i64 n] 3)).alloc (.cells #[.int .i64 x] 3)).alloc (.cells #[.bool false] 4)
theorem C4.size (w : World) (f n x : Int) (u : Value) : (C4 w f n x u).heap.size = w.heap.size + 4 := by unfold C4; simp only [World.size_alloc]
theorem C4.below (w : World) (f n x : Int) (u : Value) : Below w.heap.size w (C4 w f n x u) := by
  unfold C4
  exact ((((Below.refl _ w).alloc (Nat.le_refl _) _).alloc (by simp only [World.size_alloc]; omega) _).alloc (by simp only [World.size_alloc]; omega) _).alloc (by simp only [World.size_alloc]; omega) _
theorem C4.boxes (w : World) (f n x : Int) (u : Value) : Box25 (C4 w f n x u) w.heap.size f u ∧ Boxed (C4 w f n x u) (w.heap.size + 1) 3 (.int .i64 n) ∧ Boxed (C4 w f n x u) (w.heap.size + 1 + 1) 3 (.int .i64 x) ∧ Boxed (C4 w f n x u) (w.heap.size + 1 + 1 + 1) 4 (.bool false) := by
  unfold C4
  have h1 := (((Box25.new w f u).alloc (.cells #[.int .i64 n] 3)).alloc (.cells #[.int .i64 x] 3)).alloc (.cells #[.bool false] 4)
  have h2 := ((Boxed.new (w.alloc (.cells #[.int .u64 f, u] 25)) 3 (.int .i64 n)).alloc (.cells #[.int .i64 x] 3)).alloc (.cells #[.bool false] 4)
  have h3 := (Boxed.new ((w.alloc (.cells #[.int .u64 f, u] 25)).alloc (.cells #[.int .i64 n] 3)) 3 (.int .i64 x)).alloc (.cells #[.bool false] 4)
  have h4 := Boxed.new (((w.alloc (.cells #[.int .u64 f, u] 25)).alloc (.cells #[.int .i64 n] 3)).alloc (.cells #[.int .i64 x] 3)) 4 (.bool false)
  simp only [World.size_alloc] at h2 h3 h4
  exact ⟨h1, h2, h3, h4⟩
theorem Boxed.below {W W' : World} {B : Nat} {t : TypeId} {v : Value} (h : Boxed W B t v) (hb : Below W.heap.size W W') : Boxed W' B t v := (hb.block B h.lt).trans h
theorem Box25.below {W W' : World} {B : Nat} {f : Int} {v : Value} (h : Box25 W B f v) (hb : Below W.heap.size W W') : Box25 W' B f v := (hb.block B (lt_of_block h)).trans h
theorem below_put {n₀ : Nat} {W : World} {l : Nat} {o : Obj} (o' : Obj) (hl : n₀ ≤ l) (h : W.heap[l]? = some o) : Below n₀ W (W.putObj l o') :=
  (Below.refl n₀ W).grown (grownBy_putObj' W l o') (by have := (Array.getElem?_eq_some_iff.1 h).1; omega) (fun k e => by cases e; omega)
theorem boxed_put {W : World} {B l : Nat} {t : TypeId} {v : Value} {o : Obj} (o' : Obj) (h : Boxed W B t v) (hl : W.heap[l]? = some o) (ho : o.isCells = false) : Boxed (W.putObj l o') B t v :=
  h.kept (grownBy_putObj' W l o') fun e => by
    cases e
    rw [show W.heap[B]? = _ from h] at hl
    cases hl
    cases ho
theorem all_snoc {p : Nat → Bool} {k : Nat} (h : ∀ j, j < k → p j = true) (hk : p k = true) : ∀ j, j < k + 1 → p j = true := fun j hj => by
  rcases Nat.lt_or_ge j k with h1 | h1
  · exact h j h1
  · rw [show j = k by omega]; exact hk
set_option maxRecDepth 100000 in
set_option maxHeartbeats 2000000 in
theorem covered_any (f n x : Int) (a : Option Addr) (c : Nat) (u : Value) (row m : List PL) (w : World) (hp : PsAt w (.slice a row.length c) row) (hq : PsAt w u m) (hl : row.length ≤ 100000) (hm : m.length ≤ 100000) (hn : -1000000 ≤ n ∧ n ≤ 1000000) (hx : -1000000 ≤ x ∧ x ≤ 1000000) :
    Calls Try.prog 16 #[.agg #[.int .u64 f, .slice a row.length c], .int .i64 n, .int .i64 x, u] w fun e w' => e = .returned (.bool (covB m.contains row n x)) ∧ Below w.heap.size w w' := by
  have HP := Lib.hid hp
  have HQ := Lib.hid hq
  have HH := Lib.hid (hasset_any f n a c row (C4 w f n x (.slice a row.length c)))
  obtain ⟨E, hE'⟩ : ∃ E, row.length = E := ⟨_, rfl⟩
  unfold covB
  rw [hE'] at hl HP HH ⊢
  have HE := Lib.hid hE'
  clear hE' hp hq
  have HC4 := Lib.hid (And.intro (C4.size w f n x (.slice a E c)) (And.intro (C4.below w f n x (.slice a E c)) (C4.boxes w f n x (.slice a E c))))
  refine (callsIn_wide (n := 3)).1 ?_
  refine callsIn_of_wp_marks Try.func16 rfl trivial ?_ rfl
  simp only [Try.ntmps16, List.size_toArray, List.length_cons, List.length_nil, Nat.reduceAdd, Nat.reduceSub, Array.replicate_succ, Array.replicate_zero, List.push_toArray, List.append_toArray, List.nil_append, List.cons_append]
  cases hb : hasB row n
  · rw [hb] at HH
    clear hb
    gi_wp2_with fail
    change Fence.wide.fn 37 ∧ CallsIn _ _ _ _ _ (C4 w f n x (.slice a E c)) _
    refine ⟨trivial, (callsIn_wide.2 HH.out).mono ?_⟩
    rintro e w1 ⟨rfl, hb1⟩
    obtain ⟨hsz, hB4, -, -, -, b4⟩ := HC4.out
    have q4 := Boxed.below b4 hb1
    have r4 := Boxed.cell q4
    have f4 := Boxed.frozen q4
    have HST := Lib.hid (And.intro (Boxed.cell (Boxed.set (.bool false) q4)) ((hB4.trans (hb1.mono hB4.size)).setCell (p := ⟨w.heap.size + 1 + 1 + 1, 0, none⟩) (by show w.heap.size ≤ w.heap.size + 1 + 1 + 1; omega) (.bool false)))
    clear hsz hB4 b4 hb1 q4
    gi_wp2
    refine ⟨.bool false, ?_, rfl, HST.out.2⟩
    have h8 := HST.out.1
    simp [results, Try.f16, go_sem, h8]
  · rw [hb] at HH
    have hbn : 1 ≤ n ∧ n ≤ (E : Int) := by
      unfold hasB at hb
      rw [HE.out] at hb
      simpa using hb
    obtain ⟨N, rfl⟩ : ∃ N : Nat, n = N := ⟨n.toNat, by omega⟩
    rw [show ((N : Int)).toNat = N from Int.toNat_natCast N]
    clear hb
    have hE0 : 0 < E := by omega
    have hN : N ≤ 100000 := by omega
    gi_wp2_with fail
    change Fence.wide.fn 37 ∧ CallsIn _ _ _ _ _ (C4 w f N x (.slice a E c)) _
    refine ⟨trivial, (callsIn_wide.2 HH.out).mono ?_⟩
    rintro e w1 ⟨rfl, hb1⟩
    obtain ⟨hsz, hB4, q1, q2, q3, q4⟩ := HC4.out
    have hB1 : Below w.heap.size w w1 := hB4.trans (hb1.mono hB4.size)
    have HBX := Lib.hid (And.intro (Box25.below q1 hb1) (And.intro (Boxed.below q2 hb1) (And.intro (Boxed.below q3 hb1) (Boxed.below q4 hb1))))
    have HA := Lib.hid (among_any u m w1 (HQ.out.below hB1) hm)
    have HB1 := Lib.hid hB1
    have HS1 := Lib.hid (show w.heap.size + 4 ≤ w1.heap.size by have := hb1.size; omega)
    clear hsz hB4 q1 q2 q3 q4 hb1 hB1 HC4 HH
    gi_wp2_with fail
    refine ⟨trivial, (callsIn_wide.2 HA.out).mono ?_⟩
    rintro e w2 ⟨rfl, hr⟩
    have HAM := Lib.hid (AmongAt.of hr)
    have HB2 := Lib.hid hr.2.2.2
    have HS2 := Lib.hid hr.2.1
    clear hr HA
    obtain ⟨W3, hW3⟩ : ∃ W3, w2.alloc (.cells #[.func (.func 53) #[] #[.pointer (some ⟨w1.heap.size + 1, 0, none⟩)]] 64) = W3 := ⟨_, rfl⟩
    have hB3 : Below w1.heap.size w1 W3 := by rw [← hW3]; exact HB2.out.alloc HB2.out.size _
    have b9 : Boxed W3 w2.heap.size 64 (.func (.func 53) #[] #[.pointer (some ⟨w1.heap.size + 1, 0, none⟩)]) := by rw [← hW3]; exact Boxed.new _ _ _
    have hAM3 : AmongAt W3 (w1.heap.size + 1) w1.heap.size m := by rw [← hW3]; exact HAM.out.below (Go.Joins.below_alloc1 _ _)
    obtain ⟨q1, q2, q3, q4⟩ := HBX.out
    have r1 := Box25.below q1 hB3
    have r2 := Boxed.below q2 hB3
    have r3 := Boxed.below q3 hB3
    have r4 := Boxed.below q4 hB3
    have HS3 := Lib.hid (show w2.heap.size + 1 = W3.heap.size by rw [← hW3, World.size_alloc])
    have HW3 := Lib.hid (And.intro hB3 (And.intro b9 (And.intro hAM3 (And.intro r1 (And.intro r2 (And.intro r3 r4))))))
    have c0 := Box25.c0 r1
    have c1 := Box25.c1 r1
    have c2 := Boxed.cell r2
    clear q1 q2 q3 q4 r1 r2 r3 r4 hB3 b9 hAM3 HBX HAM
    have HSA := Lib.hid (sets_any f N (.slice a E c) W3)
    gi_wp2_with fail
    refine ⟨trivial, (callsIn_wide.2 HSA.out).mono ?_⟩
    rintro e W4 ⟨rfl, hW4⟩
    clear hW3 c0 c1 c2
    obtain ⟨hB3, b9, hAM3, r1, r2, r3, r4⟩ := HW3.out
    have hB4 : Below W3.heap.size W3 W4 := by rw [hW4]; exact Go.Joins.below_alloc2 _ _ _
    have hS4 : W4.heap.size = W3.heap.size + 2 := by rw [hW4]; simp only [World.size_alloc]
    have s5 : Box25 W4 W3.heap.size f (.slice a E c) := by rw [hW4]; exact (Box25.new _ _ _).alloc _
    have s6 : Boxed W4 (W3.heap.size + 1) 3 (.int .i64 N) := by
      have := Boxed.new (W3.alloc (.cells #[.int .u64 f, .slice a E c] 25)) 3 (.int .i64 N)
      rw [World.size_alloc] at this
      rw [hW4]
      exact this
    have s1 := Box25.below r1 hB4
    have s2 := Boxed.below r2 hB4
    have s3 := Boxed.below r3 hB4
    have s4 := Boxed.below r4 hB4
    have s9 := Boxed.below b9 hB4
    have hAM4 := hAM3.below hB4
    have hBw : Below w.heap.size w W4 := HB1.out.trans ((hB3.mono HB1.out.size).trans (hB4.mono (Nat.le_trans HB1.out.size hB3.size)))
    have hP4 := HP.out.below hBw
    have hL1 := hB3.size
    have hls := HS1.out
    have hl3 := HS3.out
    have hl2 := HS2.out
    clear hW4 hB3 b9 hAM3 r1 r2 r3 r4 HW3 HS1 HS2 HS3 HSA HB2 hB4
    gi_wp2
    refine wpIn_rangeFunc_told (T := SetT row N) (N := E) rfl (by omega) (gf := 54) (lb := #[.pointer (some ⟨W3.heap.size, 0, none⟩), .pointer (some ⟨W3.heap.size + 1, 0, none⟩)]) rfl trivial (enters_of Try.func54 (by kernel_rfl) rfl)
      (by have := sets_told 2 (by omega) W3.heap.size (W3.heap.size + 1) c N a row W4 (by omega) (by omega) (by rw [HE.out]; omega) (by rw [HE.out]; omega) hN (by rw [HE.out]; exact Box25.c1 s5) (Boxed.cell s6) (by rw [HE.out]; exact hP4); rw [HE.out] at this; exact this)
      (fun k v W h => by obtain ⟨g, rfl, _⟩ := h; rfl)
      (fun k v W l o o' h hl ho hc => by obtain ⟨g, rfl, h⟩ := h; exact ⟨g, rfl, h.keep (grownBy_putObj' W l o') (fun r e => by cases e; exact ⟨o, ho, hc⟩)⟩)
      (fun k W => (∀ j, j < k → missB m.contains (rot row j N) N x = true) ∧ Below W4.heap.size W4 W)
      (fun k W => (∃ j, j < E ∧ missB m.contains (rot row j N) N x = false) ∧ Boxed W (w.heap.size + 1 + 1 + 1) 4 (.bool false) ∧ Below w.heap.size w W)
      (fun k A B h hb => ⟨h.1, h.2.trans (hb.mono h.2.size)⟩)
      (fun k A l o o' h hl ho hc => ⟨h.1, h.2.trans (below_put o' hl ho)⟩)
      (fun k A l o o' h hl ho hc => ⟨h.1, boxed_put o' h.2.1 ho hc, h.2.2.trans (below_put o' (by have := hBw.size; omega) ho)⟩)
      ⟨fun j hj => absurd hj (Nat.not_lt_zero j), Below.refl _ _⟩
      (fun v => { tmps := #[.agg #[.int .u64 f, .slice a E c], .int .i64 N, .int .i64 x, u, .pointer (some ⟨w.heap.size, 0, none⟩), .pointer (some ⟨w.heap.size + 1, 0, none⟩), .pointer (some ⟨w.heap.size + 1 + 1, 0, none⟩), undef, .pointer (some ⟨w.heap.size + 1 + 1 + 1, 0, none⟩), .pointer (some ⟨w2.heap.size, 0, none⟩), v.getD 0 undef, .agg #[.int .u64 f, .slice a E c], .int .i64 N, .bool true, .bool false, u, .func (.func 53) #[] #[.pointer (some ⟨w1.heap.size + 1, 0, none⟩)], .agg #[.int .u64 f, .slice a E c], .int .i64 N, .func (.func 54) #[] #[.pointer (some ⟨W3.heap.size, 0, none⟩), .pointer (some ⟨W3.heap.size + 1, 0, none⟩)], v.getD 0 undef, undef, undef, undef, undef, undef, undef], defers := [] })
      ?assign ?body ?done ?stop
    case assign =>
      rintro l k v W W' K ⟨g, rfl, -⟩ hK
      gi_wp2
      exact hK
    case body =>
      rintro l k v W hl2 ⟨hall, hB⟩ ⟨g, rfl, hset⟩ hk
      have c2 := Boxed.cell (Boxed.below s2 hB)
      have c3 := Boxed.cell (Boxed.below s3 hB)
      have c9 := Boxed.cell (Boxed.below s9 hB)
      have HM := Lib.hid (miss_any (.slice (some ⟨g, 0, none⟩) N N) (rot row k N) N x 53 (.pointer (some ⟨w1.heap.size + 1, 0, none⟩)) m.contains W (by have := hset; simpa only [rot_length] using this) (by rw [rot_length]; exact hN) (hAM4.below hB).asks hn hx)
      have HK := Lib.hid (And.intro hall (And.intro hB s4))
      have HBW := Lib.hid hBw
      clear hall hB hset s1 s2 s3 s4 s5 s6 s9 hAM4 hBw hP4 hS4
      gi_wp2_with fail
      refine ⟨trivial, (CallsIn.inRound l (callsIn_wide.2 HM.out)).mono ?_⟩
      rintro e w5 ⟨rfl, hb5⟩
      obtain ⟨hall, hB, s4⟩ := HK.out
      have hB5 : Below W4.heap.size W4 w5 := hB.trans (hb5.mono hB.size)
      have hBW5 : Below W4.heap.size W w5 := hb5.mono hB.size
      cases hmiss : missB m.contains (rot row k N) N x
      · have HMISS := Lib.hid hmiss
        clear hmiss
        have q4 := Boxed.below s4 hB5
        have r4 := Boxed.cell q4
        have f4 := Boxed.frozen q4
        have HKF := Lib.hid (show KeepsFrom W4.heap.size W (w5.setCell ⟨w.heap.size + 1 + 1 + 1, 0, none⟩ (.bool false)) from KeepsFrom.trans (keeps_of_below hb5) ((KeepsOthers.setCell w5 ⟨w.heap.size + 1 + 1 + 1, 0, none⟩ (.bool false)).from _))
        have HX := Lib.hid (And.intro (Boxed.set (.bool false) q4) ((HBW.out.trans (hB5.mono HBW.out.size)).setCell (p := ⟨w.heap.size + 1 + 1 + 1, 0, none⟩) (by show w.heap.size ≤ w.heap.size + 1 + 1 + 1; omega) (.bool false)))
        clear hall hB s4 hb5 hB5 hBW5 q4 HM HK
        gi_wp2
        exact ⟨HKF.out, ⟨k, hk, HMISS.out⟩, HX.out⟩
      · have HGO := Lib.hid (And.intro (And.intro (show KeepsFrom W4.heap.size W w5 from keeps_of_below hb5) hBW5) (And.intro (all_snoc hall hmiss) hB5))
        clear hmiss hall hB s4 hb5 hB5 hBW5 HM HK
        gi_wp2
        exact ⟨HGO.out.1, HGO.out.2⟩
    case done =>
      rintro D W hD ⟨hall, hB⟩ hK
      have q4 := Boxed.below s4 hB
      have r4 := Boxed.cell q4
      have f4 := Boxed.frozen q4
      have hK' := (KeepsOthers.setCell W ⟨w.heap.size + 1 + 1 + 1, 0, none⟩ (.bool true)).same D _ hK rfl
      have h7 := Boxed.cell (boxed_put (.deferred none) (Boxed.set (.bool true) q4) hK' rfl)
      have hBD := ((hBw.trans (hB.mono hBw.size)).setCell (p := ⟨w.heap.size + 1 + 1 + 1, 0, none⟩) (by show w.heap.size ≤ w.heap.size + 1 + 1 + 1; omega) (.bool true)).trans (below_put (.deferred none) (by have := hBw.size; omega) hK')
      have HALL := Lib.hid (show (List.range E).all (fun k => missB m.contains (rot row k N) N x) = true from by
        rw [List.all_eq_true]
        intro j hj
        exact hall j (List.mem_range.1 hj))
      have HH := Lib.hid (And.intro h7 (And.intro hBD hK'))
      clear hS4 s1 s2 s3 s4 s5 s6 s9 hAM4 hBw hP4 hall hB q4 hK' h7 hBD
      gi_wp2
      refine ⟨by simp, .inl ⟨_, _, rfl, run_takeDeferred HH.out.2.2, ?_⟩⟩
      refine ⟨.bool true, ?_, by rw [HALL.out]; rfl, HH.out.2.1⟩
      have h8 := HH.out.1
      simp [results, Try.f16, go_sem, h8]
    case stop =>
      rintro D k W hD hkE ⟨⟨j, hj, hmiss⟩, q4, hB⟩ hK
      have h7 := Boxed.cell (boxed_put (.deferred none) q4 hK rfl)
      have hBD := hB.trans (below_put (.deferred none) (by have := hBw.size; omega) hK)
      have HALL := Lib.hid (show (List.range E).all (fun k => missB m.contains (rot row k N) N x) = false from by
        rw [List.all_eq_false]
        exact ⟨j, List.mem_range.2 hj, by rw [hmiss]; simp⟩)
      have HH := Lib.hid (And.intro h7 (And.intro hBD hK))
      clear hS4 s1 s2 s3 s4 s5 s6 s9 hAM4 hBw hP4 hmiss hB q4 hK h7 hBD
      gi_wp2
      refine ⟨by simp, .inl ⟨_, _, rfl, run_takeDeferred HH.out.2.2, ?_⟩⟩
      refine ⟨.bool false, ?_, by rw [HALL.out]; rfl, HH.out.2.1⟩
      have h8 := HH.out.1
      simp [results, Try.f16, go_sem, h8]
end Go.Proofs.Ytnfjhpdpeihheaa
