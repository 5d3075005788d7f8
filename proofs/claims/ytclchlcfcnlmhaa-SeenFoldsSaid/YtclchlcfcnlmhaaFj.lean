/- The document's Go: a message goes into a row. -/
import Derived.Test.YtclchlcfcnlmhaaFi
namespace Go.Proofs.Ytclchlcfcnlmhaa
open Go.RowKit Go.Maps Go.Shelf
set_option linter.unusedSimpArgs false
/-- what is still to be laid -/
def goRest (m : MK) : Bool → List MK → List MK
  | true, r => r.filter fun x => !decide (x.p = m.p)
  | false, [] => [m]
  | false, x :: r => if m.p ≤ x.p then m :: (x :: r).filter (fun x => !decide (x.p = m.p)) else x :: goRest m false r
theorem goRest_true (m : MK) (r : List MK) : goRest m true r = r.filter fun x => !decide (x.p = m.p) := by cases r <;> rfl
theorem goRest_put {m x : MK} {r : List MK} (h : m.p ≤ x.p) : goRest m false (x :: r) = m :: goRest m true (x :: r) := by simp only [goRest, if_pos h]
theorem goRest_pass {m x : MK} {r : List MK} (h : ¬ m.p ≤ x.p) : goRest m false (x :: r) = x :: goRest m false r := by simp only [goRest, if_neg h]
theorem goRest_keep {m x : MK} {r : List MK} (h : x.p ≠ m.p) : goRest m true (x :: r) = x :: goRest m true r := by
  rw [goRest_true, goRest_true, List.filter_cons, if_pos (by simp [h])]
theorem goRest_skip {m x : MK} {r : List MK} (h : x.p = m.p) : goRest m true (x :: r) = goRest m true r := by
  rw [goRest_true, goRest_true, List.filter_cons, if_neg (by simp [h])]
theorem goRest_all : ∀ {m : MK} {l : List MK}, Ris l → (∀ a, look l m.p = some a → a.s < m.s) → goRest m false l = ins l m
  | _, [], _, _ => rfl
  | m, x :: r, hr, h => by
    obtain ⟨h1, h2⟩ := List.pairwise_cons.1 hr
    by_cases hle : m.p ≤ x.p
    · rw [goRest_put hle]
      have hk : ∀ r' : List MK, (∀ y ∈ r', m.p < y.p) → goRest m true r' = r' := fun r' h' => by rw [goRest_true]; exact List.filter_eq_self.2 fun y hy => by have := h' y hy; simp; omega
      by_cases he : x.p = m.p
      · rw [goRest_skip he, hk r fun y hy => by have := h1 y hy; omega, ins, if_neg (by omega), if_pos he.symm, if_pos (h x (by rw [look_cons, if_pos he]))]
      · rw [goRest_keep he, hk r fun y hy => by have := h1 y hy; omega, ins, if_pos (by omega)]
    · rw [goRest_pass hle, ins, if_neg (by omega), if_neg (by omega), goRest_all h2 fun a ha => h a (by rw [look_cons, if_neg (by omega)]; exact ha)]
theorem ins_stay : ∀ {l : List MK} {m a : MK}, Ris l → look l m.p = some a → ¬ a.s < m.s → ins l m = l := by
  intro l m a hr hl hs
  obtain ⟨hm, hp⟩ := look_mem hl
  obtain ⟨k, hk⟩ := List.getElem?_of_mem hm
  rw [ins_at hr hk hp, if_neg hs]
set_option maxRecDepth 100000 in
set_option maxHeartbeats 4000000 in
theorem rgo_any (v : Value) (l : List MK) (m : MK) (w : World) (hp : MsAt w v l) (hm : m.ok) (hr : Ris l) (h6 : l.length ≤ 6) :
    Calls Try.prog 42 #[v, m.val] w fun e w' => ∃ v' z, e = .returned (.tuple #[v', .int .i64 z]) ∧ IntoPost w.heap.size w' v' z (intoR l [m]) ∧ Below w.heap.size w w' := by
  obtain ⟨W, hW⟩ : ∃ W, W = w.alloc (.cells #[.int .i64 m.p, .int .u64 m.s, .int .u64 m.o] 26) := ⟨_, rfl⟩
  have hB : Below w.heap.size w W := by rw [hW]; exact Go.Joins.below_alloc1 w _
  obtain ⟨gm, hgm⟩ : ∃ gm, w.heap.size = gm := ⟨_, rfl⟩
  have hx : BoxC W gm 26 m.cells.toArray := by rw [hW, ← hgm]; exact BoxC.new w 26 m.cells.toArray
  have HP := Lib.hid (And.intro hp (And.intro hx hB))
  have HRL := Lib.hid (rlast_any v l m.p W (hp.below hB))
  have HF := Lib.hid (And.intro hr h6)
  have HMO := Lib.hid hm
  have HINT := Lib.hid (show ∀ z, look l m.p = z → intoR l [m] = if z = none ∧ 6 ≤ l.length then none else some (ins l m) from fun z hz => by rw [intoR_cons, hz]; rfl)
  have HALL := Lib.hid (fun h => goRest_all (m := m) hr h)
  have HST := Lib.hid (fun a h => ins_stay (m := m) (a := a) hr h)
  rw [lst_look hr] at HRL
  obtain ⟨lk, hlk⟩ : ∃ lk, look l m.p = lk := ⟨_, rfl⟩
  rw [hlk] at HRL HALL HST
  have HINT := Lib.hid (HINT.out lk hlk)
  have HLEN := Lib.hid h6
  have HONE := Lib.hid (ms_oneCell l)
  have HMONE := Lib.hid (mk_oneCell m)
  have x0 : W.cell? ⟨gm, 0, none⟩ = some (.int .i64 m.p) := hx.cell 0
  obtain ⟨a, cap, rfl, hlen, -⟩ := hp
  obtain ⟨L, hL⟩ : ∃ L, l.length = L := ⟨_, rfl⟩
  rw [hL] at hlen HP HRL HINT ⊢
  have HL := Lib.hid hL
  clear hL hx hm hr hlk hB h6
  go_enter Try.func42, Try.ntmps42
  go_upto_region 1 with fail
  rw [← hW]
  clear hW
  go_wp2_with fail
  refine HRL.out.mono ?_
  rintro e w1 ⟨rfl, hb1⟩
  obtain ⟨g8, hg8⟩ : ∃ g8, w1.heap.size = g8 := ⟨_, rfl⟩
  obtain ⟨ak, hak⟩ : ∃ ak, lk.getD zMK = ak := ⟨_, rfl⟩
  obtain ⟨W2, hW2⟩ : ∃ W2, W2 = w1.alloc (.cells #[.int .i64 ak.p, .int .u64 ak.s, .int .u64 ak.o] 26) := ⟨_, rfl⟩
  have hb2 : Below w1.heap.size w1 W2 := by rw [hW2]; exact Go.Joins.below_alloc1 w1 _
  have hb12 := hb1.trans (hb2.mono hb1.size)
  have hx8 : BoxC W2 g8 26 ak.cells.toArray := by rw [hW2, ← hg8]; exact BoxC.new w1 26 ak.cells.toArray
  have hxm := HP.out.2.1.below hb12
  have HX := Lib.hid (And.intro hxm hx8)
  have HB2 := Lib.hid (HP.out.2.2.trans (hb12.mono HP.out.2.2.size))
  clear x0
  have x0 : W2.cell? ⟨gm, 0, none⟩ = some (.int .i64 m.p) := hxm.cell 0
  have x1 : W2.cell? ⟨gm, 1, none⟩ = some (.int .u64 m.s) := hxm.cell 1
  have x2 : W2.cell? ⟨gm, 2, none⟩ = some (.int .u64 m.o) := hxm.cell 2
  have y1 : W2.cell? ⟨g8, 1, none⟩ = some (.int .u64 ak.s) := hx8.cell 1
  have HGM := Lib.hid (show gm < W2.heap.size from hxm.lt)
  have HLW := Lib.hid (HP.out.1.below HB2.out)
  clear hb1 hb2 hb12 hx8 hxm
  unfold lastV
  rw [hak]
  go_upto_region 4 with fail
  rw [← hW2]
  clear hW2 hg8
  cases lk with
  | some q =>
    obtain rfl : q = ak := hak
    by_cases hs : m.s ≤ q.s
    · have HRES := Lib.hid (show intoR l [m] = some l from by rw [HINT.out, if_neg (by simp), HST.out q rfl (by omega)])
      have HSM := Lib.hid (show ([] : List MK).length + l.length ≤ 1000000 by have := HLEN.out; simp; omega)
      have HNI := Lib.hid (show OwnMs w.heap.size W2 (.slice none 0 0) [] from World.ownsRow_nil _ _ _ _)
      have hd : decide (m.s ≤ q.s) = true := decide_eq_true hs
      clear hs
      go_wp2_with (first
        | (at_builtin; refine wpList_append_rows rfl _ _ 22 26 3 24 _ MK.cells rfl Try.underlying22 info26 rfl (by decide) (by decide) (fun _ => rfl) w.heap.size _ _ [] l rfl rfl HNI.out HLW.out HONE.out HSM.out HB2.out.size ?_; intro v3 w3 ho3 hg3; have HO3 := Lib.hid (show OwnMs w.heap.size w3 v3 l ∧ Below w.heap.size w w3 from ⟨ho3, HB2.out.grown hg3 HB2.out.size (fun j hj => by cases hj)⟩); clear ho3 hg3)
        | fail)
      refine bodyPost_ret (results_tmp2 rfl _ _ _) rfl ?_
      exact ⟨_, _, rfl, .inl ⟨l, HRES.out, rfl, HO3.out.1⟩, HO3.out.2⟩
    · have HRES := Lib.hid (show intoR l [m] = some (goRest m false l) from by rw [HINT.out, if_neg (by simp), HALL.out (fun a ha => by cases ha; omega)])
      have hd : decide (m.s ≤ q.s) = false := decide_eq_false hs
      clear hs
      go_wp2
      go_loopw [6, 7, 10] (fun ov pv iv wr => ∃ (k : Nat) (T : List MK) (pb : Bool), k ≤ L ∧ iv = .int .i64 (k : Nat) ∧ pv = .bool pb ∧ Hid ((T ++ goRest m pb (l.drop k) = goRest m false l ∧ T.length ≤ 2 * k) ∧ OwnMs W2.heap.size wr ov T ∧ Below W2.heap.size W2 wr)) (fun _ _ iv _ => L - (intOf iv).toNat)
      case atStart => exact ⟨0, [], false, Nat.zero_le _, rfl, rfl, ⟨by simp, by simp⟩, World.ownsRow_nil _ _ _ _, Below.refl _ _⟩
      case round =>
        obtain ⟨k, T, pb, hk, rfl, rfl, HR⟩ := hrel
        have hxm := HX.out.1.below HR.out.2.2
        have x0 : wr.cell? ⟨gm, 0, none⟩ = some (.int .i64 m.p) := hxm.cell 0
        have x1 : wr.cell? ⟨gm, 1, none⟩ = some (.int .u64 m.s) := hxm.cell 1
        have x2 : wr.cell? ⟨gm, 2, none⟩ = some (.int .u64 m.o) := hxm.cell 2
        clear hxm
        by_cases hlt : k < L
        · obtain ⟨x, hx⟩ : ∃ x, l[k]? = some x := ⟨_, List.getElem?_eq_getElem (by rw [HL.out]; exact hlt)⟩
          have hltz : (k : Int) < (L : Int) := by omega
          obtain ⟨b, off, rfl, -, hc⟩ := MsAt.cell (HLW.out.below HR.out.2.2) hx
          have HC := Lib.hid (show ∀ W, Below wr.heap.size wr W → W.cell? ⟨b, off + k * 3, none⟩ = some (.int .i64 x.p) ∧ W.cell? ⟨b, off + k * 3 + 1, none⟩ = some (.int .u64 x.s) ∧ W.cell? ⟨b, off + k * 3 + 2, none⟩ = some (.int .u64 x.o) from hc)
          obtain ⟨c0, c1, c2⟩ := hc wr (Below.refl _ _)
          have HD := Lib.hid (drop_cons hx)
          have HXO := Lib.hid (mk_oneCell x)
          have HTL := Lib.hid (show T.length + 2 ≤ 100 by have := HR.out.1.2; have := HLEN.out; have := HL.out; omega)
          clear hx hc
          cases pb with
          | false =>
            by_cases hle : m.p ≤ x.p
            · have hd1 : decide (m.p ≤ x.p) = true := decide_eq_true hle
              go_wp2_with fail
              go_quiet (fail)
              have HBX := Lib.hid (fun q => show BoxC ((wr.drewN q).alloc (.cells #[.int .i64 m.p, .int .u64 m.s, .int .u64 m.o] 26)) wr.heap.size 26 m.cells.toArray from BoxC.new (wr.drewN q) 26 m.cells.toArray)
              have HOW := Lib.hid (fun q => show OwnMs W2.heap.size ((wr.drewN q).alloc (.cells #[.int .i64 m.p, .int .u64 m.s, .int .u64 m.o] 26)) u6 T ∧ Below W2.heap.size W2 ((wr.drewN q).alloc (.cells #[.int .i64 m.p, .int .u64 m.s, .int .u64 m.o] 26)) from
                ⟨HR.out.2.1.kept ((drewN_below (Below.refl _ wr) q).trans (Go.Joins.below_alloc1 (wr.drewN q) _)) (Nat.le_refl _), (HR.out.2.2.trans ((drewN_below (Below.refl _ wr) q).mono HR.out.2.2.size)).trans ((Go.Joins.below_alloc1 (wr.drewN q) _).mono HR.out.2.2.size)⟩)
              have HSM := Lib.hid (show T.length + 1 ≤ 1000000 by have := HTL.out; omega)
              go_wp2_with (at_builtin; refine wpList_app_one rfl _ _ 22 26 3 24 _ MK.cells rfl Try.underlying22 info26 rfl (by decide) (by decide) (fun _ => rfl) W2.heap.size _ T m wr.heap.size rfl rfl (HOW.out _).1 (HBX.out _) HMONE.out HSM.out (HOW.out _).2.size ?_; intro g5 c5 w5 hg5; have H5 := Lib.hid (show OwnMs W2.heap.size w5 (.slice (some ⟨g5, 0, none⟩) (T.length + 1) c5) (T ++ [m]) ∧ Below W2.heap.size W2 w5 from ⟨hg5.1, (HOW.out _).2.grown hg5.2.1 (HOW.out _).2.size (fun j hj => (OwnRow.lt (HOW.out 0).1 j hj).1)⟩); clear hg5)
              obtain ⟨d0, d1, d2⟩ : w5.cell? ⟨b, off + k * 3, none⟩ = some (.int .i64 x.p) ∧ w5.cell? ⟨b, off + k * 3 + 1, none⟩ = some (.int .u64 x.s) ∧ w5.cell? ⟨b, off + k * 3 + 2, none⟩ = some (.int .u64 x.o) := by
                obtain ⟨b', off', he, -, hc⟩ := MsAt.cell (HLW.out.below H5.out.2) (show l[k]? = some x from by have := HD.out; rw [List.getElem?_eq_getElem (by rw [HL.out]; exact hlt)]; rw [List.drop_eq_getElem_cons (by rw [HL.out]; exact hlt)] at this; injection this with h1 _; rw [h1])
                cases he
                exact hc w5 (Below.refl _ _)
              have hxm5 := HX.out.1.below H5.out.2
              have z0 : w5.cell? ⟨gm, 0, none⟩ = some (.int .i64 m.p) := hxm5.cell 0
              clear hxm5 hd1 x0 x1 x2 c0 c1 c2
              by_cases he : x.p = m.p
              · have hne : (x.p != m.p) = false := by simp [he]
                have HZ := Lib.hid (show (T ++ [m]) ++ goRest m true (l.drop (k + 1)) = goRest m false l ∧ (T ++ [m]).length ≤ 2 * (k + 1) from by
                  have := HR.out.1.1
                  rw [HD.out, goRest_put hle, goRest_skip he] at this
                  refine ⟨by rw [← this]; simp, ?_⟩
                  have := HR.out.1.2
                  simp; omega)
                clear hle he
                go_wp2_with fail
                go_quiet (fail)
                go_wp2
                go_roundw
                case rel => exact ⟨k + 1, T ++ [m], true, by omega, by go_num, rfl, HZ.out, H5.out.1.kept (drewN_below (Below.refl _ w5) _) (Nat.le_refl _), H5.out.2.trans ((drewN_below (Below.refl _ w5) _).mono H5.out.2.size)⟩
                case measure => simp [intOf]; omega
              · have hne : (x.p != m.p) = true := by simp [he]
                have HZ := Lib.hid (show ((T ++ [m]) ++ [x]) ++ goRest m true (l.drop (k + 1)) = goRest m false l ∧ ((T ++ [m]) ++ [x]).length ≤ 2 * (k + 1) from by
                  have := HR.out.1.1
                  rw [HD.out, goRest_put hle, goRest_keep he] at this
                  refine ⟨by rw [← this]; simp, ?_⟩
                  have := HR.out.1.2
                  simp; omega)
                clear hle he
                go_wp2_with fail
                go_quiet (fail)
                have HBX := Lib.hid (fun q => show BoxC ((w5.drewN q).alloc (.cells #[.int .i64 x.p, .int .u64 x.s, .int .u64 x.o] 26)) w5.heap.size 26 x.cells.toArray from BoxC.new (w5.drewN q) 26 x.cells.toArray)
                have HOW := Lib.hid (fun q => show OwnMs W2.heap.size ((w5.drewN q).alloc (.cells #[.int .i64 x.p, .int .u64 x.s, .int .u64 x.o] 26)) (.slice (some ⟨g5, 0, none⟩) (T.length + 1) c5) (T ++ [m]) ∧ Below W2.heap.size W2 ((w5.drewN q).alloc (.cells #[.int .i64 x.p, .int .u64 x.s, .int .u64 x.o] 26)) from
                  ⟨H5.out.1.kept ((drewN_below (Below.refl _ w5) q).trans (Go.Joins.below_alloc1 (w5.drewN q) _)) (Nat.le_refl _), (H5.out.2.trans ((drewN_below (Below.refl _ w5) q).mono H5.out.2.size)).trans ((Go.Joins.below_alloc1 (w5.drewN q) _).mono H5.out.2.size)⟩)
                have HSM2 := Lib.hid (show (T ++ [m]).length + 1 ≤ 1000000 by have := HTL.out; simp; omega)
                go_wp2_with (at_builtin; refine wpList_app_one rfl _ _ 22 26 3 24 _ MK.cells rfl Try.underlying22 info26 rfl (by decide) (by decide) (fun _ => rfl) W2.heap.size _ (T ++ [m]) x w5.heap.size rfl rfl (HOW.out _).1 (HBX.out _) HXO.out HSM2.out (HOW.out _).2.size ?_; intro g7 c7 w7 hg7; have H7 := Lib.hid (show OwnMs W2.heap.size w7 (.slice (some ⟨g7, 0, none⟩) ((T ++ [m]).length + 1) c7) ((T ++ [m]) ++ [x]) ∧ Below W2.heap.size W2 w7 from ⟨hg7.1, (HOW.out _).2.grown hg7.2.1 (HOW.out _).2.size (fun j hj => (OwnRow.lt (HOW.out 0).1 j hj).1)⟩); clear hg7)
                go_roundw
                case rel => exact ⟨k + 1, _, true, by omega, by go_num, rfl, HZ.out, (by have h := H7.out.1; simp only [List.length_append, List.length_cons, List.length_nil, Nat.zero_add] at h; exact h), H7.out.2⟩
                case measure => simp [intOf]; omega
            · have hd1 : decide (m.p ≤ x.p) = false := decide_eq_false hle
              have hne : (x.p != m.p) = true := by simp; omega
              have HZ := Lib.hid (show (T ++ [x]) ++ goRest m false (l.drop (k + 1)) = goRest m false l ∧ (T ++ [x]).length ≤ 2 * (k + 1) from by
                have := HR.out.1.1
                rw [HD.out, goRest_pass hle] at this
                refine ⟨by rw [← this]; simp, ?_⟩
                have := HR.out.1.2
                simp; omega)
              clear hle
              go_wp2_with fail
              go_quiet (fail)
              go_wp2_with fail
              go_quiet (fail)
              have HBX := Lib.hid (fun q => show BoxC ((wr.drewN q).alloc (.cells #[.int .i64 x.p, .int .u64 x.s, .int .u64 x.o] 26)) wr.heap.size 26 x.cells.toArray from BoxC.new (wr.drewN q) 26 x.cells.toArray)
              have HOW := Lib.hid (fun q => show OwnMs W2.heap.size ((wr.drewN q).alloc (.cells #[.int .i64 x.p, .int .u64 x.s, .int .u64 x.o] 26)) u6 T ∧ Below W2.heap.size W2 ((wr.drewN q).alloc (.cells #[.int .i64 x.p, .int .u64 x.s, .int .u64 x.o] 26)) from
                ⟨HR.out.2.1.kept ((drewN_below (Below.refl _ wr) q).trans (Go.Joins.below_alloc1 (wr.drewN q) _)) (Nat.le_refl _), (HR.out.2.2.trans ((drewN_below (Below.refl _ wr) q).mono HR.out.2.2.size)).trans ((Go.Joins.below_alloc1 (wr.drewN q) _).mono HR.out.2.2.size)⟩)
              have HSM := Lib.hid (show T.length + 1 ≤ 1000000 by have := HTL.out; omega)
              go_wp2_with (at_builtin; refine wpList_app_one rfl _ _ 22 26 3 24 _ MK.cells rfl Try.underlying22 info26 rfl (by decide) (by decide) (fun _ => rfl) W2.heap.size _ T x wr.heap.size rfl rfl (HOW.out _).1 (HBX.out _) HXO.out HSM.out (HOW.out _).2.size ?_; intro g5 c5 w5 hg5; have H5 := Lib.hid (show OwnMs W2.heap.size w5 (.slice (some ⟨g5, 0, none⟩) (T.length + 1) c5) (T ++ [x]) ∧ Below W2.heap.size W2 w5 from ⟨hg5.1, (HOW.out _).2.grown hg5.2.1 (HOW.out _).2.size (fun j hj => (OwnRow.lt (HOW.out 0).1 j hj).1)⟩); clear hg5)
              go_roundw
              case rel => exact ⟨k + 1, _, false, by omega, by go_num, rfl, HZ.out, H5.out.1, H5.out.2⟩
              case measure => simp [intOf]; omega
          | true =>
            by_cases he : x.p = m.p
            · have hne : (x.p != m.p) = false := by simp [he]
              have HZ := Lib.hid (show T ++ goRest m true (l.drop (k + 1)) = goRest m false l ∧ T.length ≤ 2 * (k + 1) from by
                have := HR.out.1.1
                rw [HD.out, goRest_skip he] at this
                exact ⟨this, by have := HR.out.1.2; omega⟩)
              clear he
              go_wp2_with fail
              go_quiet (fail)
              go_wp2_with fail
              go_quiet (fail)
              go_wp2
              go_roundw
              case rel => exact ⟨k + 1, T, true, by omega, by go_num, rfl, HZ.out, HR.out.2.1.kept (drewN_below (Below.refl _ wr) _) (Nat.le_refl _), HR.out.2.2.trans ((drewN_below (Below.refl _ wr) _).mono HR.out.2.2.size)⟩
              case measure => simp [intOf]; omega
            · have hne : (x.p != m.p) = true := by simp [he]
              have HZ := Lib.hid (show (T ++ [x]) ++ goRest m true (l.drop (k + 1)) = goRest m false l ∧ (T ++ [x]).length ≤ 2 * (k + 1) from by
                have := HR.out.1.1
                rw [HD.out, goRest_keep he] at this
                refine ⟨by rw [← this]; simp, ?_⟩
                have := HR.out.1.2
                simp; omega)
              clear he
              go_wp2_with fail
              go_quiet (fail)
              go_wp2_with fail
              go_quiet (fail)
              have HBX := Lib.hid (fun q => show BoxC ((wr.drewN q).alloc (.cells #[.int .i64 x.p, .int .u64 x.s, .int .u64 x.o] 26)) wr.heap.size 26 x.cells.toArray from BoxC.new (wr.drewN q) 26 x.cells.toArray)
              have HOW := Lib.hid (fun q => show OwnMs W2.heap.size ((wr.drewN q).alloc (.cells #[.int .i64 x.p, .int .u64 x.s, .int .u64 x.o] 26)) u6 T ∧ Below W2.heap.size W2 ((wr.drewN q).alloc (.cells #[.int .i64 x.p, .int .u64 x.s, .int .u64 x.o] 26)) from
                ⟨HR.out.2.1.kept ((drewN_below (Below.refl _ wr) q).trans (Go.Joins.below_alloc1 (wr.drewN q) _)) (Nat.le_refl _), (HR.out.2.2.trans ((drewN_below (Below.refl _ wr) q).mono HR.out.2.2.size)).trans ((Go.Joins.below_alloc1 (wr.drewN q) _).mono HR.out.2.2.size)⟩)
              have HSM := Lib.hid (show T.length + 1 ≤ 1000000 by have := HTL.out; omega)
              go_wp2_with (at_builtin; refine wpList_app_one rfl _ _ 22 26 3 24 _ MK.cells rfl Try.underlying22 info26 rfl (by decide) (by decide) (fun _ => rfl) W2.heap.size _ T x wr.heap.size rfl rfl (HOW.out _).1 (HBX.out _) HXO.out HSM.out (HOW.out _).2.size ?_; intro g5 c5 w5 hg5; have H5 := Lib.hid (show OwnMs W2.heap.size w5 (.slice (some ⟨g5, 0, none⟩) (T.length + 1) c5) (T ++ [x]) ∧ Below W2.heap.size W2 w5 from ⟨hg5.1, (HOW.out _).2.grown hg5.2.1 (HOW.out _).2.size (fun j hj => (OwnRow.lt (HOW.out 0).1 j hj).1)⟩); clear hg5)
              go_roundw
              case rel => exact ⟨k + 1, _, true, by omega, by go_num, rfl, HZ.out, H5.out.1, H5.out.2⟩
              case measure => simp [intOf]; omega
        · obtain rfl : k = L := by omega
          have HE := Lib.hid (show T ++ goRest m pb [] = goRest m false l from by have := HR.out.1.1; rwa [List.drop_of_length_le (by rw [HL.out]; exact Nat.le_refl _)] at this)
          have HTL := Lib.hid (show T.length + 2 ≤ 100 by have := HR.out.1.2; have := HLEN.out; have := HL.out; omega)
          cases pb with
          | true =>
            have HT := Lib.hid (show T = goRest m false l from by have := HE.out; simpa [goRest] using this)
            have HZ := Lib.hid (show OwnMs w.heap.size wr u6 T ∧ Below w.heap.size w wr from ⟨HR.out.2.1.base_le HB2.out.size, HB2.out.trans (HR.out.2.2.mono HB2.out.size)⟩)
            clear HR
            go_wp2
            refine bodyPost_ret (results_tmp2 rfl _ _ _) rfl ?_
            exact ⟨_, _, rfl, .inl ⟨_, HRES.out, rfl, by rw [← HT.out]; exact HZ.out.1⟩, HZ.out.2⟩
          | false =>
            have HT := Lib.hid (show T ++ [m] = goRest m false l from by have := HE.out; simpa [goRest] using this)
            have HBX := Lib.hid (show BoxC (wr.alloc (.cells #[.int .i64 m.p, .int .u64 m.s, .int .u64 m.o] 26)) wr.heap.size 26 m.cells.toArray from BoxC.new wr 26 m.cells.toArray)
            have HOW := Lib.hid (show OwnMs W2.heap.size (wr.alloc (.cells #[.int .i64 m.p, .int .u64 m.s, .int .u64 m.o] 26)) u6 T ∧ Below W2.heap.size W2 (wr.alloc (.cells #[.int .i64 m.p, .int .u64 m.s, .int .u64 m.o] 26)) from
              ⟨HR.out.2.1.kept (Go.Joins.below_alloc1 wr _) (Nat.le_refl _), HR.out.2.2.trans ((Go.Joins.below_alloc1 wr _).mono HR.out.2.2.size)⟩)
            have HSM := Lib.hid (show T.length + 1 ≤ 1000000 by have := HTL.out; omega)
            go_wp2_with (at_builtin; refine wpList_app_one rfl _ _ 22 26 3 24 _ MK.cells rfl Try.underlying22 info26 rfl (by decide) (by decide) (fun _ => rfl) W2.heap.size _ T m wr.heap.size rfl rfl HOW.out.1 HBX.out HMONE.out HSM.out HOW.out.2.size ?_; intro g5 c5 w5 hg5; have H5 := Lib.hid (show OwnMs W2.heap.size w5 (.slice (some ⟨g5, 0, none⟩) (T.length + 1) c5) (T ++ [m]) ∧ Below W2.heap.size W2 w5 from ⟨hg5.1, HOW.out.2.grown hg5.2.1 HOW.out.2.size (fun j hj => (OwnRow.lt HOW.out.1 j hj).1)⟩); clear hg5)
            have HZ := Lib.hid (show OwnMs w.heap.size w5 (.slice (some ⟨g5, 0, none⟩) (T.length + 1) c5) (T ++ [m]) ∧ Below w.heap.size w w5 from ⟨H5.out.1.base_le HB2.out.size, HB2.out.trans (H5.out.2.mono HB2.out.size)⟩)
            refine bodyPost_ret (results_tmp2 rfl _ _ _) rfl ?_
            exact ⟨_, _, rfl, .inl ⟨_, HRES.out, rfl, by rw [← HT.out]; exact HZ.out.1⟩, HZ.out.2⟩
  | none =>
    have hak' : zMK = ak := hak
    by_cases hf : 6 ≤ L
    · have hfz : (6 : Int) ≤ (L : Int) := by omega
      have HRES := Lib.hid (show intoR l [m] = none from by rw [HINT.out, if_pos ⟨rfl, hf⟩])
      go_wp2
      refine bodyPost_ret (results_tmp2 rfl _ _ _) rfl ?_
      exact ⟨_, _, rfl, .inr ⟨HRES.out, rfl, rfl⟩, by have := HB2.out; rwa [hgm] at this⟩
    · have hfz : ¬ (6 : Int) ≤ (L : Int) := by omega
      have HRES := Lib.hid (show intoR l [m] = some (goRest m false l) from by rw [HINT.out, if_neg (by omega), HALL.out (fun a ha => by cases ha)])
      clear hf hak hak'
      go_wp2
      go_loopw [6, 7, 10] (fun ov pv iv wr => ∃ (k : Nat) (T : List MK) (pb : Bool), k ≤ L ∧ iv = .int .i64 (k : Nat) ∧ pv = .bool pb ∧ Hid ((T ++ goRest m pb (l.drop k) = goRest m false l ∧ T.length ≤ 2 * k) ∧ OwnMs W2.heap.size wr ov T ∧ Below W2.heap.size W2 wr)) (fun _ _ iv _ => L - (intOf iv).toNat)
      case atStart => exact ⟨0, [], false, Nat.zero_le _, rfl, rfl, ⟨by simp, by simp⟩, World.ownsRow_nil _ _ _ _, Below.refl _ _⟩
      case round =>
        obtain ⟨k, T, pb, hk, rfl, rfl, HR⟩ := hrel
        have hxm := HX.out.1.below HR.out.2.2
        have x0 : wr.cell? ⟨gm, 0, none⟩ = some (.int .i64 m.p) := hxm.cell 0
        have x1 : wr.cell? ⟨gm, 1, none⟩ = some (.int .u64 m.s) := hxm.cell 1
        have x2 : wr.cell? ⟨gm, 2, none⟩ = some (.int .u64 m.o) := hxm.cell 2
        clear hxm
        by_cases hlt : k < L
        · obtain ⟨x, hx⟩ : ∃ x, l[k]? = some x := ⟨_, List.getElem?_eq_getElem (by rw [HL.out]; exact hlt)⟩
          have hltz : (k : Int) < (L : Int) := by omega
          obtain ⟨b, off, rfl, -, hc⟩ := MsAt.cell (HLW.out.below HR.out.2.2) hx
          have HC := Lib.hid (show ∀ W, Below wr.heap.size wr W → W.cell? ⟨b, off + k * 3, none⟩ = some (.int .i64 x.p) ∧ W.cell? ⟨b, off + k * 3 + 1, none⟩ = some (.int .u64 x.s) ∧ W.cell? ⟨b, off + k * 3 + 2, none⟩ = some (.int .u64 x.o) from hc)
          obtain ⟨c0, c1, c2⟩ := hc wr (Below.refl _ _)
          have HD := Lib.hid (drop_cons hx)
          have HXO := Lib.hid (mk_oneCell x)
          have HTL := Lib.hid (show T.length + 2 ≤ 100 by have := HR.out.1.2; have := HLEN.out; have := HL.out; omega)
          clear hx hc
          cases pb with
          | false =>
            by_cases hle : m.p ≤ x.p
            · have hd1 : decide (m.p ≤ x.p) = true := decide_eq_true hle
              go_wp2_with fail
              go_quiet (fail)
              have HBX := Lib.hid (fun q => show BoxC ((wr.drewN q).alloc (.cells #[.int .i64 m.p, .int .u64 m.s, .int .u64 m.o] 26)) wr.heap.size 26 m.cells.toArray from BoxC.new (wr.drewN q) 26 m.cells.toArray)
              have HOW := Lib.hid (fun q => show OwnMs W2.heap.size ((wr.drewN q).alloc (.cells #[.int .i64 m.p, .int .u64 m.s, .int .u64 m.o] 26)) u6 T ∧ Below W2.heap.size W2 ((wr.drewN q).alloc (.cells #[.int .i64 m.p, .int .u64 m.s, .int .u64 m.o] 26)) from
                ⟨HR.out.2.1.kept ((drewN_below (Below.refl _ wr) q).trans (Go.Joins.below_alloc1 (wr.drewN q) _)) (Nat.le_refl _), (HR.out.2.2.trans ((drewN_below (Below.refl _ wr) q).mono HR.out.2.2.size)).trans ((Go.Joins.below_alloc1 (wr.drewN q) _).mono HR.out.2.2.size)⟩)
              have HSM := Lib.hid (show T.length + 1 ≤ 1000000 by have := HTL.out; omega)
              go_wp2_with (at_builtin; refine wpList_app_one rfl _ _ 22 26 3 24 _ MK.cells rfl Try.underlying22 info26 rfl (by decide) (by decide) (fun _ => rfl) W2.heap.size _ T m wr.heap.size rfl rfl (HOW.out _).1 (HBX.out _) HMONE.out HSM.out (HOW.out _).2.size ?_; intro g5 c5 w5 hg5; have H5 := Lib.hid (show OwnMs W2.heap.size w5 (.slice (some ⟨g5, 0, none⟩) (T.length + 1) c5) (T ++ [m]) ∧ Below W2.heap.size W2 w5 from ⟨hg5.1, (HOW.out _).2.grown hg5.2.1 (HOW.out _).2.size (fun j hj => (OwnRow.lt (HOW.out 0).1 j hj).1)⟩); clear hg5)
              obtain ⟨d0, d1, d2⟩ : w5.cell? ⟨b, off + k * 3, none⟩ = some (.int .i64 x.p) ∧ w5.cell? ⟨b, off + k * 3 + 1, none⟩ = some (.int .u64 x.s) ∧ w5.cell? ⟨b, off + k * 3 + 2, none⟩ = some (.int .u64 x.o) := by
                obtain ⟨b', off', he, -, hc⟩ := MsAt.cell (HLW.out.below H5.out.2) (show l[k]? = some x from by have := HD.out; rw [List.getElem?_eq_getElem (by rw [HL.out]; exact hlt)]; rw [List.drop_eq_getElem_cons (by rw [HL.out]; exact hlt)] at this; injection this with h1 _; rw [h1])
                cases he
                exact hc w5 (Below.refl _ _)
              have hxm5 := HX.out.1.below H5.out.2
              have z0 : w5.cell? ⟨gm, 0, none⟩ = some (.int .i64 m.p) := hxm5.cell 0
              clear hxm5 hd1 x0 x1 x2 c0 c1 c2
              by_cases he : x.p = m.p
              · have hne : (x.p != m.p) = false := by simp [he]
                have HZ := Lib.hid (show (T ++ [m]) ++ goRest m true (l.drop (k + 1)) = goRest m false l ∧ (T ++ [m]).length ≤ 2 * (k + 1) from by
                  have := HR.out.1.1
                  rw [HD.out, goRest_put hle, goRest_skip he] at this
                  refine ⟨by rw [← this]; simp, ?_⟩
                  have := HR.out.1.2
                  simp; omega)
                clear hle he
                go_wp2_with fail
                go_quiet (fail)
                go_wp2
                go_roundw
                case rel => exact ⟨k + 1, T ++ [m], true, by omega, by go_num, rfl, HZ.out, H5.out.1.kept (drewN_below (Below.refl _ w5) _) (Nat.le_refl _), H5.out.2.trans ((drewN_below (Below.refl _ w5) _).mono H5.out.2.size)⟩
                case measure => simp [intOf]; omega
              · have hne : (x.p != m.p) = true := by simp [he]
                have HZ := Lib.hid (show ((T ++ [m]) ++ [x]) ++ goRest m true (l.drop (k + 1)) = goRest m false l ∧ ((T ++ [m]) ++ [x]).length ≤ 2 * (k + 1) from by
                  have := HR.out.1.1
                  rw [HD.out, goRest_put hle, goRest_keep he] at this
                  refine ⟨by rw [← this]; simp, ?_⟩
                  have := HR.out.1.2
                  simp; omega)
                clear hle he
                go_wp2_with fail
                go_quiet (fail)
                have HBX := Lib.hid (fun q => show BoxC ((w5.drewN q).alloc (.cells #[.int .i64 x.p, .int .u64 x.s, .int .u64 x.o] 26)) w5.heap.size 26 x.cells.toArray from BoxC.new (w5.drewN q) 26 x.cells.toArray)
                have HOW := Lib.hid (fun q => show OwnMs W2.heap.size ((w5.drewN q).alloc (.cells #[.int .i64 x.p, .int .u64 x.s, .int .u64 x.o] 26)) (.slice (some ⟨g5, 0, none⟩) (T.length + 1) c5) (T ++ [m]) ∧ Below W2.heap.size W2 ((w5.drewN q).alloc (.cells #[.int .i64 x.p, .int .u64 x.s, .int .u64 x.o] 26)) from
                  ⟨H5.out.1.kept ((drewN_below (Below.refl _ w5) q).trans (Go.Joins.below_alloc1 (w5.drewN q) _)) (Nat.le_refl _), (H5.out.2.trans ((drewN_below (Below.refl _ w5) q).mono H5.out.2.size)).trans ((Go.Joins.below_alloc1 (w5.drewN q) _).mono H5.out.2.size)⟩)
                have HSM2 := Lib.hid (show (T ++ [m]).length + 1 ≤ 1000000 by have := HTL.out; simp; omega)
                go_wp2_with (at_builtin; refine wpList_app_one rfl _ _ 22 26 3 24 _ MK.cells rfl Try.underlying22 info26 rfl (by decide) (by decide) (fun _ => rfl) W2.heap.size _ (T ++ [m]) x w5.heap.size rfl rfl (HOW.out _).1 (HBX.out _) HXO.out HSM2.out (HOW.out _).2.size ?_; intro g7 c7 w7 hg7; have H7 := Lib.hid (show OwnMs W2.heap.size w7 (.slice (some ⟨g7, 0, none⟩) ((T ++ [m]).length + 1) c7) ((T ++ [m]) ++ [x]) ∧ Below W2.heap.size W2 w7 from ⟨hg7.1, (HOW.out _).2.grown hg7.2.1 (HOW.out _).2.size (fun j hj => (OwnRow.lt (HOW.out 0).1 j hj).1)⟩); clear hg7)
                go_roundw
                case rel => exact ⟨k + 1, _, true, by omega, by go_num, rfl, HZ.out, (by have h := H7.out.1; simp only [List.length_append, List.length_cons, List.length_nil, Nat.zero_add] at h; exact h), H7.out.2⟩
                case measure => simp [intOf]; omega
            · have hd1 : decide (m.p ≤ x.p) = false := decide_eq_false hle
              have hne : (x.p != m.p) = true := by simp; omega
              have HZ := Lib.hid (show (T ++ [x]) ++ goRest m false (l.drop (k + 1)) = goRest m false l ∧ (T ++ [x]).length ≤ 2 * (k + 1) from by
                have := HR.out.1.1
                rw [HD.out, goRest_pass hle] at this
                refine ⟨by rw [← this]; simp, ?_⟩
                have := HR.out.1.2
                simp; omega)
              clear hle
              go_wp2_with fail
              go_quiet (fail)
              go_wp2_with fail
              go_quiet (fail)
              have HBX := Lib.hid (fun q => show BoxC ((wr.drewN q).alloc (.cells #[.int .i64 x.p, .int .u64 x.s, .int .u64 x.o] 26)) wr.heap.size 26 x.cells.toArray from BoxC.new (wr.drewN q) 26 x.cells.toArray)
              have HOW := Lib.hid (fun q => show OwnMs W2.heap.size ((wr.drewN q).alloc (.cells #[.int .i64 x.p, .int .u64 x.s, .int .u64 x.o] 26)) u6 T ∧ Below W2.heap.size W2 ((wr.drewN q).alloc (.cells #[.int .i64 x.p, .int .u64 x.s, .int .u64 x.o] 26)) from
                ⟨HR.out.2.1.kept ((drewN_below (Below.refl _ wr) q).trans (Go.Joins.below_alloc1 (wr.drewN q) _)) (Nat.le_refl _), (HR.out.2.2.trans ((drewN_below (Below.refl _ wr) q).mono HR.out.2.2.size)).trans ((Go.Joins.below_alloc1 (wr.drewN q) _).mono HR.out.2.2.size)⟩)
              have HSM := Lib.hid (show T.length + 1 ≤ 1000000 by have := HTL.out; omega)
              go_wp2_with (at_builtin; refine wpList_app_one rfl _ _ 22 26 3 24 _ MK.cells rfl Try.underlying22 info26 rfl (by decide) (by decide) (fun _ => rfl) W2.heap.size _ T x wr.heap.size rfl rfl (HOW.out _).1 (HBX.out _) HXO.out HSM.out (HOW.out _).2.size ?_; intro g5 c5 w5 hg5; have H5 := Lib.hid (show OwnMs W2.heap.size w5 (.slice (some ⟨g5, 0, none⟩) (T.length + 1) c5) (T ++ [x]) ∧ Below W2.heap.size W2 w5 from ⟨hg5.1, (HOW.out _).2.grown hg5.2.1 (HOW.out _).2.size (fun j hj => (OwnRow.lt (HOW.out 0).1 j hj).1)⟩); clear hg5)
              go_roundw
              case rel => exact ⟨k + 1, _, false, by omega, by go_num, rfl, HZ.out, H5.out.1, H5.out.2⟩
              case measure => simp [intOf]; omega
          | true =>
            by_cases he : x.p = m.p
            · have hne : (x.p != m.p) = false := by simp [he]
              have HZ := Lib.hid (show T ++ goRest m true (l.drop (k + 1)) = goRest m false l ∧ T.length ≤ 2 * (k + 1) from by
                have := HR.out.1.1
                rw [HD.out, goRest_skip he] at this
                exact ⟨this, by have := HR.out.1.2; omega⟩)
              clear he
              go_wp2_with fail
              go_quiet (fail)
              go_wp2_with fail
              go_quiet (fail)
              go_wp2
              go_roundw
              case rel => exact ⟨k + 1, T, true, by omega, by go_num, rfl, HZ.out, HR.out.2.1.kept (drewN_below (Below.refl _ wr) _) (Nat.le_refl _), HR.out.2.2.trans ((drewN_below (Below.refl _ wr) _).mono HR.out.2.2.size)⟩
              case measure => simp [intOf]; omega
            · have hne : (x.p != m.p) = true := by simp [he]
              have HZ := Lib.hid (show (T ++ [x]) ++ goRest m true (l.drop (k + 1)) = goRest m false l ∧ (T ++ [x]).length ≤ 2 * (k + 1) from by
                have := HR.out.1.1
                rw [HD.out, goRest_keep he] at this
                refine ⟨by rw [← this]; simp, ?_⟩
                have := HR.out.1.2
                simp; omega)
              clear he
              go_wp2_with fail
              go_quiet (fail)
              go_wp2_with fail
              go_quiet (fail)
              have HBX := Lib.hid (fun q => show BoxC ((wr.drewN q).alloc (.cells #[.int .i64 x.p, .int .u64 x.s, .int .u64 x.o] 26)) wr.heap.size 26 x.cells.toArray from BoxC.new (wr.drewN q) 26 x.cells.toArray)
              have HOW := Lib.hid (fun q => show OwnMs W2.heap.size ((wr.drewN q).alloc (.cells #[.int .i64 x.p, .int .u64 x.s, .int .u64 x.o] 26)) u6 T ∧ Below W2.heap.size W2 ((wr.drewN q).alloc (.cells #[.int .i64 x.p, .int .u64 x.s, .int .u64 x.o] 26)) from
                ⟨HR.out.2.1.kept ((drewN_below (Below.refl _ wr) q).trans (Go.Joins.below_alloc1 (wr.drewN q) _)) (Nat.le_refl _), (HR.out.2.2.trans ((drewN_below (Below.refl _ wr) q).mono HR.out.2.2.size)).trans ((Go.Joins.below_alloc1 (wr.drewN q) _).mono HR.out.2.2.size)⟩)
              have HSM := Lib.hid (show T.length + 1 ≤ 1000000 by have := HTL.out; omega)
              go_wp2_with (at_builtin; refine wpList_app_one rfl _ _ 22 26 3 24 _ MK.cells rfl Try.underlying22 info26 rfl (by decide) (by decide) (fun _ => rfl) W2.heap.size _ T x wr.heap.size rfl rfl (HOW.out _).1 (HBX.out _) HXO.out HSM.out (HOW.out _).2.size ?_; intro g5 c5 w5 hg5; have H5 := Lib.hid (show OwnMs W2.heap.size w5 (.slice (some ⟨g5, 0, none⟩) (T.length + 1) c5) (T ++ [x]) ∧ Below W2.heap.size W2 w5 from ⟨hg5.1, (HOW.out _).2.grown hg5.2.1 (HOW.out _).2.size (fun j hj => (OwnRow.lt (HOW.out 0).1 j hj).1)⟩); clear hg5)
              go_roundw
              case rel => exact ⟨k + 1, _, true, by omega, by go_num, rfl, HZ.out, H5.out.1, H5.out.2⟩
              case measure => simp [intOf]; omega
        · obtain rfl : k = L := by omega
          have HE := Lib.hid (show T ++ goRest m pb [] = goRest m false l from by have := HR.out.1.1; rwa [List.drop_of_length_le (by rw [HL.out]; exact Nat.le_refl _)] at this)
          have HTL := Lib.hid (show T.length + 2 ≤ 100 by have := HR.out.1.2; have := HLEN.out; have := HL.out; omega)
          cases pb with
          | true =>
            have HT := Lib.hid (show T = goRest m false l from by have := HE.out; simpa [goRest] using this)
            have HZ := Lib.hid (show OwnMs w.heap.size wr u6 T ∧ Below w.heap.size w wr from ⟨HR.out.2.1.base_le HB2.out.size, HB2.out.trans (HR.out.2.2.mono HB2.out.size)⟩)
            clear HR
            go_wp2
            refine bodyPost_ret (results_tmp2 rfl _ _ _) rfl ?_
            exact ⟨_, _, rfl, .inl ⟨_, HRES.out, rfl, by rw [← HT.out]; exact HZ.out.1⟩, HZ.out.2⟩
          | false =>
            have HT := Lib.hid (show T ++ [m] = goRest m false l from by have := HE.out; simpa [goRest] using this)
            have HBX := Lib.hid (show BoxC (wr.alloc (.cells #[.int .i64 m.p, .int .u64 m.s, .int .u64 m.o] 26)) wr.heap.size 26 m.cells.toArray from BoxC.new wr 26 m.cells.toArray)
            have HOW := Lib.hid (show OwnMs W2.heap.size (wr.alloc (.cells #[.int .i64 m.p, .int .u64 m.s, .int .u64 m.o] 26)) u6 T ∧ Below W2.heap.size W2 (wr.alloc (.cells #[.int .i64 m.p, .int .u64 m.s, .int .u64 m.o] 26)) from
              ⟨HR.out.2.1.kept (Go.Joins.below_alloc1 wr _) (Nat.le_refl _), HR.out.2.2.trans ((Go.Joins.below_alloc1 wr _).mono HR.out.2.2.size)⟩)
            have HSM := Lib.hid (show T.length + 1 ≤ 1000000 by have := HTL.out; omega)
            go_wp2_with (at_builtin; refine wpList_app_one rfl _ _ 22 26 3 24 _ MK.cells rfl Try.underlying22 info26 rfl (by decide) (by decide) (fun _ => rfl) W2.heap.size _ T m wr.heap.size rfl rfl HOW.out.1 HBX.out HMONE.out HSM.out HOW.out.2.size ?_; intro g5 c5 w5 hg5; have H5 := Lib.hid (show OwnMs W2.heap.size w5 (.slice (some ⟨g5, 0, none⟩) (T.length + 1) c5) (T ++ [m]) ∧ Below W2.heap.size W2 w5 from ⟨hg5.1, HOW.out.2.grown hg5.2.1 HOW.out.2.size (fun j hj => (OwnRow.lt HOW.out.1 j hj).1)⟩); clear hg5)
            have HZ := Lib.hid (show OwnMs w.heap.size w5 (.slice (some ⟨g5, 0, none⟩) (T.length + 1) c5) (T ++ [m]) ∧ Below w.heap.size w w5 from ⟨H5.out.1.base_le HB2.out.size, HB2.out.trans (H5.out.2.mono HB2.out.size)⟩)
            refine bodyPost_ret (results_tmp2 rfl _ _ _) rfl ?_
            exact ⟨_, _, rfl, .inl ⟨_, HRES.out, rfl, by rw [← HT.out]; exact HZ.out.1⟩, HZ.out.2⟩
end Go.Proofs.Ytclchlcfcnlmhaa
