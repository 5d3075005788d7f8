/- The document: a fetch's copy. The document: to ask. The document: a tick. -/
import Derived.Test.YtpihogkhfmijcaaGreatFSame
import Derived.Deep.Cut
import Derived.Test.YtpihogkhfmijcaaGreatLawM
import Derived.Deep.RegionHeldLaw
namespace Go.Proofs.YtpihogkhfmijcaaGreat
open Go.RowKit Go.Maps Go.Shelf
set_option linter.unusedSimpArgs false
theorem app_new {α : Type} {T : TypeId} {k : Nat} {enc : α → List Value} {W w1 : World} {v1 : Value} {l : List α} (ho : OwnRow T k enc W.heap.size w1 v1 ([] ++ l)) (hg : (W.alloc (.cells #[] T)).grownBy w1 (Value.slice (some ⟨W.heap.size, 0, none⟩) 0 0).ownBlock) :
    ∃ a c, v1 = .slice a l.length c ∧ OwnRow T k enc W.heap.size w1 (.slice a l.length c) l ∧ Below W.heap.size W w1 := by
  rw [List.nil_append] at ho
  obtain ⟨a, c, rfl⟩ := OwnRow.form ho
  exact ⟨a, c, rfl, ho, (Go.Joins.below_alloc1 W _).grown hg (by rw [World.size_alloc]; omega) (fun k e => by cases e; exact Nat.le_refl _)⟩
theorem pls_one (l : List PL) : ∀ u ∈ l.flatMap PL.cells, u.oneCell' = true := fun u hu => by
  obtain ⟨x, -, hx⟩ := List.mem_flatMap.1 hu
  simp only [PL.cells, List.mem_cons, List.not_mem_nil, or_false] at hx
  rcases hx with rfl | rfl <;> rfl
theorem bs_one (l : List Int) : ∀ u ∈ l.flatMap byC, u.oneCell' = true := fun u hu => by
  obtain ⟨x, -, hx⟩ := List.mem_flatMap.1 hu
  simp only [byC, List.mem_cons, List.not_mem_nil, or_false] at hx
  rcases hx with rfl; rfl
set_option maxRecDepth 100000 in
set_option maxHeartbeats 2000000 in
theorem dcopy_any (m : FeV) (w : World) (h : m.ok w) (h1 : m.set.length ≤ 100000) (h2 : m.body.length ≤ 100000) :
    Calls Tryz.prog 10 #[m.val] w fun e w' => ∃ y : FeV, e = .returned y.val ∧ FeNew w w' y m.m := by
  obtain ⟨W, hW⟩ : ∃ W, W = (w.alloc (.cells m.cs.toArray 32)).alloc (.cells zero32 32) := ⟨_, rfl⟩
  have hbel : Below w.heap.size w W := by rw [hW]; exact Go.Joins.below_alloc2 w _ _
  have hsz : W.heap.size = w.heap.size + 1 + 1 := by rw [hW]; simp only [World.size_alloc]
  have hB : BoxC W w.heap.size 32 m.cs.toArray := by rw [hW]; exact (BoxC.new _ _ _).alloc _
  have hR : BoxC W (w.heap.size + 1) 32 zero32 := by
    rw [hW]
    have := BoxC.new (w.alloc (.cells m.cs.toArray 32)) 32 zero32
    rwa [World.size_alloc] at this
  have HM1 := Lib.hid (And.intro h1 h2)
  have HST := Lib.hid (fun Z (hZ : Below w.heap.size w Z) => h.st.below hZ)
  have HBD := Lib.hid (fun Z (hZ : Below w.heap.size w Z) => h.bd.below hZ)
  have HW := Lib.hid (And.intro hbel (And.intro hsz (And.intro hB hR)))
  have HOK := Lib.hid h
  obtain ⟨-, -, c2, -, -, -, -, -⟩ := FeV.c8 hB
  clear hbel hsz hB hR h1 h2 h
  have c2a : ∀ o, (W.alloc o).cell? ⟨w.heap.size, 2, none⟩ = some (.slice m.sa m.set.length m.sc) := fun o => ((Go.Joins.below_alloc1 W o).cell (p := ⟨w.heap.size, 2, none⟩) HW.out.2.2.1.lt).trans c2
  simp only [FeV.cs, zero32] at hW
  go_enter Tryz.func10, Tryz.ntmps10
  go_upto_region 1 with fail
  rw [← hW]
  clear hW
  go_upto_region 2 with (first | (at_builtin; refine wpList_append_rows rfl (.tmp 3) (.tmp 5) 29 40 2 16 _ PL.cells rfl Tryz.underlying29 info38 rfl (by decide) (by decide) (fun _ => rfl) W.heap.size _ _ [] m.set rfl rfl (OwnRow.made W) (HST.out _ (HW.out.1.alloc HW.out.1.size _)) (pls_one m.set) (by have := HM1.out.1; simp; omega) (by simp) ?_; intro v1 w1 ho1 hg1; obtain ⟨a1, k1, rfl, ho1, hb1⟩ := app_new ho1 hg1; have HB1 := Lib.hid (HW.out.2.2.1.below hb1); have HR1 := Lib.hid (HW.out.2.2.2.below hb1); have HP1 := Lib.hid (And.intro ho1 (And.intro hb1 (HW.out.1.trans (hb1.mono HW.out.1.size)))); have d2 := HB1.out.cell 2; have f1 := HB1.out.fz; clear c2 c2a ho1 hb1; simp only [FeV.cs, List.getElem?_toArray, List.getElem?_cons_succ, List.getElem?_cons_zero] at d2; have HB2 := Lib.hid (HB1.out.set 2 (.slice a1 m.set.length k1)); have HL2 := Lib.hid (HP1.out.2.2.setCell (p := ⟨w.heap.size, 2, none⟩) (Nat.le_refl _) (.slice a1 m.set.length k1)); have HR2 := Lib.hid (HR1.out.other (show w.heap.size + 1 ≠ w.heap.size by omega) 2 (.slice a1 m.set.length k1)); have c7 : ∀ o, ((w1.setCell ⟨w.heap.size, 2, none⟩ (.slice a1 m.set.length k1)).alloc o).cell? ⟨w.heap.size, 7, none⟩ = some (.slice m.ba m.body.length m.bc) := fun o => ((Go.Joins.below_alloc1 _ o).cell (p := ⟨w.heap.size, 7, none⟩) HB2.out.lt).trans (HB2.out.cell 7)))
  obtain ⟨Z1, hZ1⟩ : ∃ Z, Z = w1.setCell ⟨w.heap.size, 2, none⟩ (.slice a1 m.set.length k1) := ⟨_, rfl⟩
  rw [← hZ1] at c7 HB2 HL2 HR2 ⊢
  have HZ1 := Lib.hid hZ1
  clear hZ1
  go_upto_region 3 with (first | (at_builtin; refine wpList_append_rows rfl (.tmp 8) (.tmp 10) 30 5 1 1 _ byC rfl Tryz.underlying30 info5 rfl (by decide) (by decide) (fun _ => rfl) Z1.heap.size _ _ [] m.body rfl rfl (OwnRow.made _) (HBD.out _ (HL2.out.alloc HL2.out.size _)) (bs_one m.body) (by have := HM1.out.2; simp; omega) (by simp) ?_; intro v2 w2 ho2 hg2; obtain ⟨a2, k2, rfl, ho2, hb2⟩ := app_new ho2 hg2; have hb2' := HL2.out.trans (hb2.mono HL2.out.size); have e7 := (HB2.out.below hb2).cell 7; have g7 := (HB2.out.below hb2).fz; simp only [FeV.cs, List.getElem?_toArray, List.getElem?_cons_succ, List.getElem?_cons_zero, List.setIfInBounds_toArray, List.set_cons_succ, List.set_cons_zero] at e7))
  obtain rfl := HZ1.out
  obtain ⟨y, hy⟩ : ∃ y : FeV, y = { m with sa := a1, sc := k1, ba := a2, bc := k2 } := ⟨_, rfl⟩
  have hB3 : BoxC (w2.setCell ⟨w.heap.size, 7, none⟩ (.slice a2 m.body.length k2)) w.heap.size 32 y.cs.toArray := by rw [hy]; exact (HB2.out.below hb2).set 7 (.slice a2 m.body.length k2)
  have hR3 : BoxC (w2.setCell ⟨w.heap.size, 7, none⟩ (.slice a2 m.body.length k2)) (w.heap.size + 1) 32 zero32 := (HR2.out.below hb2).other (show w.heap.size + 1 ≠ w.heap.size by omega) 7 _
  have HFIN := Lib.hid (show BoxC ((w2.setCell ⟨w.heap.size, 7, none⟩ (.slice a2 m.body.length k2)).setCells (w.heap.size + 1) 0 y.cs) (w.heap.size + 1) 32 y.cs.toArray ∧ FeNew w ((w2.setCell ⟨w.heap.size, 7, none⟩ (.slice a2 m.body.length k2)).setCells (w.heap.size + 1) 0 y.cs) y m.m from by
    refine ⟨hR3.full y.cs rfl, ⟨by rw [hy]; rfl, ⟨by rw [hy]; exact HOK.out.nums, ?_, ?_⟩, fun b hb => ?_, fun b hb => ?_, ⟨fun b hb => ?_, fun b hb => ?_⟩, Below.sets (by omega) _ (hb2'.setCell (p := ⟨w.heap.size, 7, none⟩) (Nat.le_refl _) _)⟩⟩
    · rw [hy]
      have hlo : ∀ b, ab a1 = some b → w.heap.size + 1 + 1 ≤ b := fun b hb => by have := (OwnRow.ab HP1.out.1 b hb).1; have := HW.out.2.1; omega
      have q1 := OwnPs.at HP1.out.1 HOK.out.st.ok
      have q2 := RowAt.ch1 q1 (fun b hb => by have := hlo b hb; omega) (Ch1.set w1 w.heap.size 2 (.slice a1 m.set.length k1))
      have q3 := PsAt.below q2 hb2
      have q4 := RowAt.ch1 q3 (fun b hb => by have := hlo b hb; omega) (Ch1.set w2 w.heap.size 7 (.slice a2 m.body.length k2))
      exact RowAt.ch1 q4 (fun b hb => by have := hlo b hb; omega) (Ch1.sets _ (w.heap.size + 1) _)
    · rw [hy]
      have hlo : ∀ b, ab a2 = some b → w.heap.size + 1 + 1 ≤ b := fun b hb => by have := (OwnRow.ab ho2 b hb).1; have h3 := HP1.out.2.1.size; have := HW.out.2.1; rw [setCell_size] at *; omega
      have q1 : BsAt w2 (.slice a2 m.body.length k2) m.body := OwnRow.at (fun _ => rfl) ho2 HOK.out.bd.each
      have q4 := RowAt.ch1 q1 (fun b hb => by have := hlo b hb; omega) (Ch1.set w2 w.heap.size 7 (.slice a2 m.body.length k2))
      exact RowAt.ch1 q4 (fun b hb => by have := hlo b hb; omega) (Ch1.sets _ (w.heap.size + 1) _)
    · rw [hy] at hb
      have := (OwnRow.ab HP1.out.1 b hb).1
      have := HW.out.2.1
      omega
    · rw [hy] at hb
      have := (OwnRow.ab ho2 b hb).1
      have h3 := HP1.out.2.1.size
      have := HW.out.2.1
      rw [setCell_size] at *
      omega
    · rw [hy] at hb
      have := (OwnRow.ab HP1.out.1 b hb).2
      have := hb2.size
      rw [setCells_size]
      simp only [setCell_size] at *
      omega
    · rw [hy] at hb
      have := (OwnRow.ab ho2 b hb).2
      rw [setCells_size]
      simp only [setCell_size] at *
      omega)
  obtain ⟨q0, q1, q2, q3, q4, q5, q6, q7⟩ := FeV.c8 hB3
  obtain ⟨r0, r1, r2, r3, r4, r5, r6, r7⟩ := t8 hR3
  have g8 := hR3.fz
  have HYY := Lib.hid hy
  clear hy hb2' hB3 hR3 ho2 hb2 c7 d2 f1
  go_wp2
  refine bodyPost_ret (results_f1 rfl _ _ (w.heap.size + 1) y rfl HFIN.out.1) rfl ?_
  exact ⟨y, rfl, HFIN.out.2⟩
end Go.Proofs.YtpihogkhfmijcaaGreat
namespace Go.Proofs.YtpihogkhfmijcaaGreat
open Go.RowKit Go.Maps Go.Shelf
set_option linter.unusedSimpArgs false
/-- what the document's calls answer -/
def RefPost (x : FeV) (M : FeM × List RqM) (w : World) (e : Ending) (w' : World) : Prop :=
  ∃ (y : FeV) (ra : Option Addr) (rc : Nat), e = .returned (.tuple #[y.val, .slice ra M.2.length rc]) ∧ y.m = M.1 ∧ y.ok w' ∧ QsAt w' (.slice ra M.2.length rc) M.2 ∧ Below w.heap.size w w' ∧ (y.sa = x.sa ∧ y.ba = x.ba) ∧ ∀ b, ab ra = some b → w.heap.size ≤ b
theorem QsAt.one {X : World} {nb : Nat} {q : RqM} (hb : BoxC X nb 56 q.cells.toArray) (hq : q.ok) : QsAt X (.slice (some ⟨nb, 0, none⟩) 1 1) [q] :=
  ⟨⟨rfl, .inr ⟨nb, 1, q.cells.toArray, rfl, Nat.zero_le _, hb, Nat.le_refl _, by rw [maxLen_eq]; omega, rfl, rfl⟩⟩, fun x hx => by rw [List.mem_singleton] at hx; rw [hx]; exact hq⟩
theorem fin_ask {x : FeV} {w V : World} {bs os nb R : Nat} {p : PL} {a1 now : Int} {cs : Array Value} (hV : BoxC V R 32 cs ∧ BoxC V nb 56 #[.int .i64 p.n, .int .u64 p.s, .int .i64 3, .int .u64 x.id, .int .u64 x.n, .int .u64 x.tag, .int .u64 0, .int .i64 0, .slice none 0 0, .slice none 0 0] ∧ Below w.heap.size w V)
    (hst : PsAt w (.slice (some ⟨bs, os, none⟩) x.set.length x.sc) x.set) (hnm : x.nums) (hbd : BsAt w (.slice x.ba x.body.length x.bc) x.body) (hp : x.set.getD a1.toNat default = p) (hpo : p.ok) (hnow : u64ok now) (ha : i64ok a1) (hsa : x.sa = some ⟨bs, os, none⟩) (hnb : w.heap.size ≤ nb) :
    RefPost x (FeM.askM { x.m with at' := a1 } now) w (.returned (.tuple #[(FeV.mk x.id x.n (some ⟨bs, os, none⟩) x.sc x.set a1 now x.tag x.done x.ba x.bc x.body).val, .slice (some ⟨nb, 0, none⟩) 1 1])) V := by
  obtain ⟨n1, n2, n3, n4, n5⟩ := hnm
  refine ⟨_, some ⟨nb, 0, none⟩, 1, rfl, rfl, ⟨⟨n1, ha, hnow, n4, n5⟩, hst.below hV.2.2, hbd.below hV.2.2⟩, ?_, hV.2.2, ⟨hsa.symm, rfl⟩, fun b e => by cases e; exact hnb⟩
  have h := QsAt.one (q := ⟨p, x.id, x.n, x.tag⟩) hV.2.1 ⟨hpo, n1.1, n1.2, n4⟩
  rw [← hp] at h
  exact h
theorem ask_g1 {w X : World} {R : Nat} {vs : List Value} (hv : vs.length = zero32.size) {o : Array Value} (hR : BoxC X R 32 zero32) (hw : w.heap.size ≤ R) (hb : Below w.heap.size w X) : BoxC ((X.alloc (.cells o 56)).setCells R 0 vs) R 32 vs.toArray ∧ BoxC ((X.alloc (.cells o 56)).setCells R 0 vs) X.heap.size 56 o ∧ Below w.heap.size w ((X.alloc (.cells o 56)).setCells R 0 vs) := by
  have h1 := hR.lt
  exact ⟨(hR.alloc (.cells o 56)).full vs hv, (setCells_other R vs 0 (X.alloc (.cells o 56)) X.heap.size (by omega)).trans (BoxC.new X 56 o), Below.sets hw vs (hb.alloc hb.size _)⟩
theorem ask_g2 {w X : World} {R : Nat} {vs : List Value} (hv : vs.length = zero32.size) {o : Array Value} (hR : BoxC X R 32 zero32) (hw : w.heap.size ≤ R) (hb : Below w.heap.size w X) : BoxC ((X.setCells R 0 vs).alloc (.cells o 56)) R 32 vs.toArray ∧ BoxC ((X.setCells R 0 vs).alloc (.cells o 56)) X.heap.size 56 o ∧ Below w.heap.size w ((X.setCells R 0 vs).alloc (.cells o 56)) := by
  have h2 := Below.sets hw vs hb
  refine ⟨(hR.full vs hv).alloc _, ?_, h2.alloc h2.size _⟩
  have := BoxC.new (X.setCells R 0 vs) 56 o
  rw [setCells_size] at this
  exact this
theorem three_drew {w V : World} {R nb : Nat} {cs o : Array Value} (h : BoxC V R 32 cs ∧ BoxC V nb 56 o ∧ Below w.heap.size w V) : BoxC V.drew R 32 cs ∧ BoxC V.drew nb 56 o ∧ Below w.heap.size w V.drew := ⟨h.1.drew, h.2.1.drew, Below.drew h.2.2⟩
theorem ask_f1 {w X : World} {R : Nat} {z : FeV} {o : Array Value} (hR : BoxC X R 32 zero32) (hw : w.heap.size ≤ R) (hb : Below w.heap.size w X) : BoxC (put8n (X.alloc (.cells o 56)) R z).drew R 32 z.cs.toArray ∧ BoxC (put8n (X.alloc (.cells o 56)) R z).drew X.heap.size 56 o ∧ Below w.heap.size w (put8n (X.alloc (.cells o 56)) R z).drew :=
  three_drew (by
    simp only [put8n_eq]
    exact ask_g1 (vs := z.cs) (show z.cs.length = zero32.size from rfl) hR hw hb)
theorem ask_f2 {w X : World} {R : Nat} {z : FeV} {o : Array Value} (hR : BoxC X R 32 zero32) (hw : w.heap.size ≤ R) (hb : Below w.heap.size w X) : BoxC ((put8n X R z).alloc (.cells o 56)).drew R 32 z.cs.toArray ∧ BoxC ((put8n X R z).alloc (.cells o 56)).drew X.heap.size 56 o ∧ Below w.heap.size w ((put8n X R z).alloc (.cells o 56)).drew :=
  three_drew (by
    simp only [put8n_eq]
    exact ask_g2 (vs := z.cs) (show z.cs.length = zero32.size from rfl) hR hw hb)
theorem FeV.ok.box {w W : World} {x : FeV} (h : x.ok w) (hc : Chg (fun b => w.heap.size ≤ b) w W) : x.ok W := h.below (hc.below (Nat.le_refl _) fun _ h => h)
set_option maxRecDepth 100000 in
set_option maxHeartbeats 4000000 in
theorem dask_at (x : FeV) (a0 a1 now : Int) (w : World) (hc : ((x.set.length : Int) ≤ a0 ∧ a1 = 0) ∨ (a0 < (x.set.length : Int) ∧ a1 = a0)) (h : x.ok w) (h0 : 0 ≤ a0) (h1 : a0 ≤ 100000) (hl : 0 < x.set.length) (hl2 : x.set.length ≤ 100000) (hn : u64ok now) :
    Calls Tryz.prog 26 #[x.val, .int .i64 a0, .int .u64 now] w fun e w' => RefPost x (FeM.askM { x.m with at' := a1 } now) w e w' := by
  obtain ⟨W, hW⟩ : ∃ W, W = (w.alloc (.cells x.cs.toArray 32)).alloc (.cells zero32 32) := ⟨_, rfl⟩
  have hbel : Below w.heap.size w W := by rw [hW]; exact Go.Joins.below_alloc2 w _ _
  have hB : BoxC W w.heap.size 32 x.cs.toArray := by rw [hW]; exact (BoxC.new _ _ _).alloc _
  have hR : BoxC W (w.heap.size + 1) 32 zero32 := by
    rw [hW]
    have := BoxC.new (w.alloc (.cells x.cs.toArray 32)) 32 zero32
    rwa [World.size_alloc] at this
  have HW := Lib.hid (And.intro hbel (And.intro hB hR))
  obtain ⟨K, hK⟩ : ∃ K, x.set.length = K := ⟨_, rfl⟩
  have HK := Lib.hid hK
  have HOK := Lib.hid h
  have HN := Lib.hid hn
  obtain ⟨-, -, c2, c3, c4, -, -, -⟩ := FeV.c8 hB
  have f0 := hB.fz
  simp only [FeV.cs, zero32] at hW
  rw [hK] at c2 hl hl2 hc hW
  unfold FeV.val
  rw [hK]
  clear hbel hB hR h hn hK
  go_enter Tryz.func26, Tryz.ntmps26
  go_upto_region 1 with fail
  rw [← hW]
  clear hW
  rcases hc with ⟨hge, rfl⟩ | ⟨hge, rfl⟩
  · have d1 : decide ((K : Int) ≤ a0) = true := decide_eq_true hge
    go_upto_region 5 with fail
    obtain ⟨y, hy⟩ : ∃ y : FeV, y = { x with at' := 0, since := now } := ⟨_, rfl⟩
    obtain ⟨p, hp⟩ : ∃ p, x.set[0]? = some p := ⟨_, List.getElem?_eq_getElem (by rw [HK.out]; omega)⟩
    have hst := HOK.out.st
    obtain ⟨bs, os, hsa, hbs, hpo, hcs⟩ := RowAt.cell hst hp
    have hcw := ((Chg.refl (fun b => b = w.heap.size) W).setCell (p := ⟨w.heap.size, 3, none⟩) (.inl rfl) (.int .i64 0)).setCell (p := ⟨w.heap.size, 4, none⟩) (.inl rfl) (.int .u64 now)
    have hb5 : BoxC ((W.setCell ⟨w.heap.size, 3, none⟩ (.int .i64 0)).setCell ⟨w.heap.size, 4, none⟩ (.int .u64 now)) w.heap.size 32 y.cs.toArray := by
      have := (HW.out.2.1.set 3 (.int .i64 0)).set 4 (.int .u64 now)
      rw [hy]
      exact this
    refine via (fun X => BoxC X w.heap.size 32 y.cs.toArray ∧ Ch1 w.heap.size W X) ⟨hb5, hcw⟩ (fun X hX => ?_)
    have HX := Lib.hid hX
    have HP0 := Lib.hid hp
    have HSA := Lib.hid hsa
    have HPO := Lib.hid hpo
    have hbw : Below w.heap.size w X := HW.out.1.trans (hX.2.below HW.out.1.size (fun k hk => by omega))
    have hR5 : BoxC X (w.heap.size + 1) 32 zero32 := Chg.heap hX.2 HW.out.2.2 (by omega)
    have HBW := Lib.hid (And.intro hbw hR5)
    have HS5 := Lib.hid (show ∀ Z, Chg (fun b => b = w.heap.size + 1) X Z → Z.cell? ⟨w.heap.size, 0, none⟩ = some (.int .u64 x.id) ∧ Z.cell? ⟨w.heap.size, 1, none⟩ = some (.int .u64 x.n) ∧ Z.cell? ⟨w.heap.size, 2, none⟩ = some (.slice (some ⟨bs, os, none⟩) K x.sc) ∧ Z.cell? ⟨w.heap.size, 3, none⟩ = some (.int .i64 0) ∧ Z.cell? ⟨w.heap.size, 4, none⟩ = some (.int .u64 now) ∧ Z.cell? ⟨w.heap.size, 5, none⟩ = some (.int .u64 x.tag) ∧ Z.cell? ⟨w.heap.size, 6, none⟩ = some (.int .i64 x.done) ∧ Z.cell? ⟨w.heap.size, 7, none⟩ = some (.slice x.ba x.body.length x.bc) ∧ Z.cell? ⟨bs, os, none⟩ = some (.int .i64 p.n) ∧ Z.cell? ⟨bs, os + 1, none⟩ = some (.int .u64 p.s) from fun Z hZ => by
      have h8 := FeV.c8 (show BoxC Z w.heap.size 32 y.cs.toArray from Chg.heap hZ hX.1 (by omega))
      rw [hy] at h8
      obtain ⟨z0, z1, z2, z3, z4, z5, z6, z7⟩ := h8
      dsimp only at z0 z1 z2 z3 z4 z5 z6 z7
      rw [HK.out, hsa] at z2
      have hbz : ∀ W', Below w.heap.size w W' → W'.cell? ⟨bs, os + 0 * 2 + 0, none⟩ = some (.int .i64 p.n) ∧ W'.cell? ⟨bs, os + 0 * 2 + 1, none⟩ = some (.int .u64 p.s) := fun W' hW' => ⟨hcs 0 (by omega) W' hW', hcs 1 (by omega) W' hW'⟩
      have hzb := hbz Z (hbw.trans ((hZ.below (B := w.heap.size) hbw.size (fun k hk => by omega)).mono (Nat.le_refl _)))
      exact ⟨z0, z1, z2, z3, z4, z5, z6, z7, by simpa using hzb.1, by simpa using hzb.2⟩)
    obtain ⟨s0, s1, s2, s3, s4, s5, s6, s7⟩ := t8 hR5
    have s9 := hR5.fz
    have hRa : ∀ o, BoxC (X.alloc o) (w.heap.size + 1) 32 zero32 := fun o => hR5.alloc o
    have g0 := fun o => (hRa o).fz
    have r0 := fun o => (t8 (hRa o)).1
    have r1 := fun o => (t8 (hRa o)).2.1
    have r2 := fun o => (t8 (hRa o)).2.2.1
    have r3 := fun o => (t8 (hRa o)).2.2.2.1
    have r4 := fun o => (t8 (hRa o)).2.2.2.2.1
    have r5 := fun o => (t8 (hRa o)).2.2.2.2.2.1
    have r6 := fun o => (t8 (hRa o)).2.2.2.2.2.2.1
    have r7 := fun o => (t8 (hRa o)).2.2.2.2.2.2.2
    have hkz : ((0 : Nat) : Int) < (K : Int) := by omega
    clear hst hcs hcw hb5 hX hbw hR5 hRa c2 c3 c4 f0 hp hpo
    have HST := Lib.hid (show PsAt w (.slice (some ⟨bs, os, none⟩) x.set.length x.sc) x.set from by have := HOK.out.st; rwa [hsa] at this)
    have HPG := Lib.hid (show x.set.getD (0 : Int).toNat default = p from by rw [show (0 : Int).toNat = 0 from by omega, List.getD_eq_getElem?_getD, HP0.out]; rfl)
    have HF1 := Lib.hid (ask_f1 (z := (FeV.mk x.id x.n (some ⟨bs, os, none⟩) x.sc x.set 0 now x.tag x.done x.ba x.bc x.body)) (o := #[.int .i64 p.n, .int .u64 p.s, .int .i64 3, .int .u64 x.id, .int .u64 x.n, .int .u64 x.tag, .int .u64 0, .int .i64 0, .slice none 0 0, .slice none 0 0]) HBW.out.2 (Nat.le_succ _) HBW.out.1)
    have HF2 := Lib.hid (ask_f2 (z := (FeV.mk x.id x.n (some ⟨bs, os, none⟩) x.sc x.set 0 now x.tag x.done x.ba x.bc x.body)) (o := #[.int .i64 p.n, .int .u64 p.s, .int .i64 3, .int .u64 x.id, .int .u64 x.n, .int .u64 x.tag, .int .u64 0, .int .i64 0, .slice none 0 0, .slice none 0 0]) HBW.out.2 (Nat.le_succ _) HBW.out.1)
    unfold put8n at HF1 HF2
    dsimp only at HF1 HF2
    rw [HK.out] at HF1 HF2
    have hsz := Lib.hid (show w.heap.size + 1 < X.heap.size from (HBW.out.2).lt)
    go_region_held (fun Z => Z.cell? ⟨w.heap.size, 0, none⟩ = some (.int .u64 x.id) ∧ Z.cell? ⟨w.heap.size, 1, none⟩ = some (.int .u64 x.n) ∧ Z.cell? ⟨w.heap.size, 2, none⟩ = some (.slice (some ⟨bs, os, none⟩) K x.sc) ∧ Z.cell? ⟨w.heap.size, 3, none⟩ = some (.int .i64 0) ∧ Z.cell? ⟨w.heap.size, 4, none⟩ = some (.int .u64 now) ∧ Z.cell? ⟨w.heap.size, 5, none⟩ = some (.int .u64 x.tag) ∧ Z.cell? ⟨w.heap.size, 6, none⟩ = some (.int .i64 x.done) ∧ Z.cell? ⟨w.heap.size, 7, none⟩ = some (.slice x.ba x.body.length x.bc) ∧ Z.cell? ⟨bs, os, none⟩ = some (.int .i64 p.n) ∧ Z.cell? ⟨bs, os + 1, none⟩ = some (.int .u64 p.s)) ((refine HS5.out _ ?_; repeat' (first | (with_reducible exact Chg.refl _ _) | (with_reducible refine Chg.drew ?_) | (with_reducible refine Chg.alloc ?_ _) | (with_reducible refine Chg.setCell ?_ ?_ _) | exact Or.inl rfl))) (fail)
    all_goals go_wp2_with fail
    · refine bodyPost_ret (results_f2 rfl _ _ (w.heap.size + 1) (FeV.mk x.id x.n (some ⟨bs, os, none⟩) x.sc x.set 0 now x.tag x.done x.ba x.bc x.body) rfl HF1.out.1) rfl ?_
      exact fin_ask HF1.out HST.out HOK.out.nums HOK.out.bd HPG.out HPO.out HN.out (by unfold i64ok; omega) HSA.out (HBW.out.1.size)
    · refine bodyPost_ret (results_f2 rfl _ _ (w.heap.size + 1) (FeV.mk x.id x.n (some ⟨bs, os, none⟩) x.sc x.set 0 now x.tag x.done x.ba x.bc x.body) rfl HF2.out.1) rfl ?_
      exact fin_ask HF2.out HST.out HOK.out.nums HOK.out.bd HPG.out HPO.out HN.out (by unfold i64ok; omega) HSA.out (HBW.out.1.size)
  · have d1 : decide ((K : Int) ≤ a1) = false := decide_eq_false (by omega)
    obtain ⟨k, rfl⟩ : ∃ k : Nat, a1 = (k : Int) := ⟨a1.toNat, by omega⟩
    have hkl : k < K := by omega
    go_upto_region 5 with fail
    obtain ⟨y, hy⟩ : ∃ y : FeV, y = { x with at' := (k : Int), since := now } := ⟨_, rfl⟩
    obtain ⟨p, hp⟩ : ∃ p, x.set[k]? = some p := ⟨_, List.getElem?_eq_getElem (by rw [HK.out]; omega)⟩
    have hst := HOK.out.st
    obtain ⟨bs, os, hsa, hbs, hpo, hcs⟩ := RowAt.cell hst hp
    have hcw := ((Chg.refl (fun b => b = w.heap.size) W).setCell (p := ⟨w.heap.size, 3, none⟩) (.inl rfl) (.int .i64 (k : Int))).setCell (p := ⟨w.heap.size, 4, none⟩) (.inl rfl) (.int .u64 now)
    have hb5 : BoxC ((W.setCell ⟨w.heap.size, 3, none⟩ (.int .i64 (k : Int))).setCell ⟨w.heap.size, 4, none⟩ (.int .u64 now)) w.heap.size 32 y.cs.toArray := by
      have := (HW.out.2.1.set 3 (.int .i64 (k : Int))).set 4 (.int .u64 now)
      rw [hy]
      exact this
    refine via (fun X => BoxC X w.heap.size 32 y.cs.toArray ∧ Ch1 w.heap.size W X) ⟨hb5, hcw⟩ (fun X hX => ?_)
    have HX := Lib.hid hX
    have HP0 := Lib.hid hp
    have HSA := Lib.hid hsa
    have HPO := Lib.hid hpo
    have hbw : Below w.heap.size w X := HW.out.1.trans (hX.2.below HW.out.1.size (fun k hk => by omega))
    have hR5 : BoxC X (w.heap.size + 1) 32 zero32 := Chg.heap hX.2 HW.out.2.2 (by omega)
    have HBW := Lib.hid (And.intro hbw hR5)
    have HS5 := Lib.hid (show ∀ Z, Chg (fun b => b = w.heap.size + 1) X Z → Z.cell? ⟨w.heap.size, 0, none⟩ = some (.int .u64 x.id) ∧ Z.cell? ⟨w.heap.size, 1, none⟩ = some (.int .u64 x.n) ∧ Z.cell? ⟨w.heap.size, 2, none⟩ = some (.slice (some ⟨bs, os, none⟩) K x.sc) ∧ Z.cell? ⟨w.heap.size, 3, none⟩ = some (.int .i64 (k : Int)) ∧ Z.cell? ⟨w.heap.size, 4, none⟩ = some (.int .u64 now) ∧ Z.cell? ⟨w.heap.size, 5, none⟩ = some (.int .u64 x.tag) ∧ Z.cell? ⟨w.heap.size, 6, none⟩ = some (.int .i64 x.done) ∧ Z.cell? ⟨w.heap.size, 7, none⟩ = some (.slice x.ba x.body.length x.bc) ∧ Z.cell? ⟨bs, os + k * 2, none⟩ = some (.int .i64 p.n) ∧ Z.cell? ⟨bs, os + k * 2 + 1, none⟩ = some (.int .u64 p.s) from fun Z hZ => by
      have h8 := FeV.c8 (show BoxC Z w.heap.size 32 y.cs.toArray from Chg.heap hZ hX.1 (by omega))
      rw [hy] at h8
      obtain ⟨z0, z1, z2, z3, z4, z5, z6, z7⟩ := h8
      dsimp only at z0 z1 z2 z3 z4 z5 z6 z7
      rw [HK.out, hsa] at z2
      have hbz : ∀ W', Below w.heap.size w W' → W'.cell? ⟨bs, os + k * 2 + 0, none⟩ = some (.int .i64 p.n) ∧ W'.cell? ⟨bs, os + k * 2 + 1, none⟩ = some (.int .u64 p.s) := fun W' hW' => ⟨hcs 0 (by omega) W' hW', hcs 1 (by omega) W' hW'⟩
      have hzb := hbz Z (hbw.trans ((hZ.below (B := w.heap.size) hbw.size (fun k hk => by omega)).mono (Nat.le_refl _)))
      exact ⟨z0, z1, z2, z3, z4, z5, z6, z7, by simpa using hzb.1, by simpa using hzb.2⟩)
    obtain ⟨s0, s1, s2, s3, s4, s5, s6, s7⟩ := t8 hR5
    have s9 := hR5.fz
    have hRa : ∀ o, BoxC (X.alloc o) (w.heap.size + 1) 32 zero32 := fun o => hR5.alloc o
    have g0 := fun o => (hRa o).fz
    have r0 := fun o => (t8 (hRa o)).1
    have r1 := fun o => (t8 (hRa o)).2.1
    have r2 := fun o => (t8 (hRa o)).2.2.1
    have r3 := fun o => (t8 (hRa o)).2.2.2.1
    have r4 := fun o => (t8 (hRa o)).2.2.2.2.1
    have r5 := fun o => (t8 (hRa o)).2.2.2.2.2.1
    have r6 := fun o => (t8 (hRa o)).2.2.2.2.2.2.1
    have r7 := fun o => (t8 (hRa o)).2.2.2.2.2.2.2
    have hkz : ((k : Nat) : Int) < (K : Int) := by omega
    clear hst hcs hcw hb5 hX hbw hR5 hRa c2 c3 c4 f0 hp hpo
    have HST := Lib.hid (show PsAt w (.slice (some ⟨bs, os, none⟩) x.set.length x.sc) x.set from by have := HOK.out.st; rwa [hsa] at this)
    have HPG := Lib.hid (show x.set.getD ((k : Int) : Int).toNat default = p from by rw [show ((k : Int) : Int).toNat = k from by omega, List.getD_eq_getElem?_getD, HP0.out]; rfl)
    have HF1 := Lib.hid (ask_f1 (z := (FeV.mk x.id x.n (some ⟨bs, os, none⟩) x.sc x.set (k : Int) now x.tag x.done x.ba x.bc x.body)) (o := #[.int .i64 p.n, .int .u64 p.s, .int .i64 3, .int .u64 x.id, .int .u64 x.n, .int .u64 x.tag, .int .u64 0, .int .i64 0, .slice none 0 0, .slice none 0 0]) HBW.out.2 (Nat.le_succ _) HBW.out.1)
    have HF2 := Lib.hid (ask_f2 (z := (FeV.mk x.id x.n (some ⟨bs, os, none⟩) x.sc x.set (k : Int) now x.tag x.done x.ba x.bc x.body)) (o := #[.int .i64 p.n, .int .u64 p.s, .int .i64 3, .int .u64 x.id, .int .u64 x.n, .int .u64 x.tag, .int .u64 0, .int .i64 0, .slice none 0 0, .slice none 0 0]) HBW.out.2 (Nat.le_succ _) HBW.out.1)
    unfold put8n at HF1 HF2
    dsimp only at HF1 HF2
    rw [HK.out] at HF1 HF2
    have hsz := Lib.hid (show w.heap.size + 1 < X.heap.size from (HBW.out.2).lt)
    go_region_held (fun Z => Z.cell? ⟨w.heap.size, 0, none⟩ = some (.int .u64 x.id) ∧ Z.cell? ⟨w.heap.size, 1, none⟩ = some (.int .u64 x.n) ∧ Z.cell? ⟨w.heap.size, 2, none⟩ = some (.slice (some ⟨bs, os, none⟩) K x.sc) ∧ Z.cell? ⟨w.heap.size, 3, none⟩ = some (.int .i64 (k : Int)) ∧ Z.cell? ⟨w.heap.size, 4, none⟩ = some (.int .u64 now) ∧ Z.cell? ⟨w.heap.size, 5, none⟩ = some (.int .u64 x.tag) ∧ Z.cell? ⟨w.heap.size, 6, none⟩ = some (.int .i64 x.done) ∧ Z.cell? ⟨w.heap.size, 7, none⟩ = some (.slice x.ba x.body.length x.bc) ∧ Z.cell? ⟨bs, os + k * 2, none⟩ = some (.int .i64 p.n) ∧ Z.cell? ⟨bs, os + k * 2 + 1, none⟩ = some (.int .u64 p.s)) ((refine HS5.out _ ?_; repeat' (first | (with_reducible exact Chg.refl _ _) | (with_reducible refine Chg.drew ?_) | (with_reducible refine Chg.alloc ?_ _) | (with_reducible refine Chg.setCell ?_ ?_ _) | exact Or.inl rfl))) (fail)
    all_goals go_wp2_with fail
    · refine bodyPost_ret (results_f2 rfl _ _ (w.heap.size + 1) (FeV.mk x.id x.n (some ⟨bs, os, none⟩) x.sc x.set (k : Int) now x.tag x.done x.ba x.bc x.body) rfl HF1.out.1) rfl ?_
      exact fin_ask HF1.out HST.out HOK.out.nums HOK.out.bd HPG.out HPO.out HN.out (by unfold i64ok; omega) HSA.out (HBW.out.1.size)
    · refine bodyPost_ret (results_f2 rfl _ _ (w.heap.size + 1) (FeV.mk x.id x.n (some ⟨bs, os, none⟩) x.sc x.set (k : Int) now x.tag x.done x.ba x.bc x.body) rfl HF2.out.1) rfl ?_
      exact fin_ask HF2.out HST.out HOK.out.nums HOK.out.bd HPG.out HPO.out HN.out (by unfold i64ok; omega) HSA.out (HBW.out.1.size)
end Go.Proofs.YtpihogkhfmijcaaGreat
namespace Go.Proofs.YtpihogkhfmijcaaGreat
open Go.RowKit Go.Maps Go.Shelf
set_option linter.unusedSimpArgs false
theorem QsAt.off {w : World} {a : Option Addr} {n c : Nat} {L : List RqM} (h : QsAt w (.slice a n c) L) {b : Nat} {T : TypeId} {cs : Array Value} (hb : BoxC w b T cs) (hT : T ≠ 56) : ∀ k, ab a = some k → k ≠ b := by
  intro k hk e
  rcases h.1.2 with ⟨h2, -⟩ | ⟨g, cap, cur, hv, -, hg, -⟩
  · cases h2; cases hk
  · cases hv
    cases hk
    subst e
    have := hb.symm.trans hg
    injection this with this
    injection this with _ e
    exact hT e
theorem BoxC.ch1' {g b : Nat} {W W' : World} {T : TypeId} {cs : Array Value} (h : BoxC W b T cs) (hne : b ≠ g) (hc : Ch1 g W W') : BoxC W' b T cs := Chg.heap hc h hne
/-- the end of a call that hands on what the document's ask tells, of a fetch that is new -/
theorem fet_ask {M : FeM × List RqM} {w W w1 : World} {x y : FeV} {ra : Option Addr} {rc R : Nat} (hR : BoxC W R 32 zero32) (hwR : w.heap.size ≤ R) (hb : Below w.heap.size w W) (hx : ∀ b, x.blk b → R < b ∧ w.heap.size ≤ b) (p1 : y.m = M.1) (p2 : y.ok w1) (p3 : QsAt w1 (.slice ra M.2.length rc) M.2) (p4 : Below W.heap.size W w1) (p5 : y.sa = x.sa ∧ y.ba = x.ba) (p6 : ∀ b, ab ra = some b → W.heap.size ≤ b) :
    BoxC (put8n w1 R y) R 32 y.cs.toArray ∧ FetPost M w (.returned (.tuple #[y.val, .slice ra M.2.length rc])) (put8n w1 R y) := by
  have hl := hR.lt
  have hc := Ch1.sets w1 R y.cs
  have hyb : ∀ b, y.blk b → R < b ∧ w.heap.size ≤ b := fun b e => hx b (by unfold FeV.blk at e ⊢; rw [p5.1, p5.2] at e; exact e)
  refine ⟨by rw [put8n_eq]; exact (hR.below p4).full y.cs rfl, y, ra, rc, rfl, p1, ?_, ?_, ?_, fun b e => ?_⟩
  · rw [put8n_eq]
    exact p2.ch1 (fun b e => by have := hyb b (.inl e); omega) (fun b e => by have := hyb b (.inr e); omega) hc
  · rw [put8n_eq]
    exact p3.ch1 (fun b e => by have := p6 b e; omega) hc
  · rw [put8n_eq]
    exact Below.sets hwR _ (hb.trans (p4.mono hb.size))
  · rcases e with e | e
    · exact (hyb b e).2
    · have := p6 b e
      have := hb.size
      omega
/-- the end of a call that hands on a fetch that is new, and asks nothing -/
theorem fet_none {w W : World} {x : FeV} {m : FeM} {R : Nat} (hR : BoxC W R 32 zero32) (hwR : w.heap.size ≤ R) (hb : Below w.heap.size w W) (hx : ∀ b, x.blk b → R < b ∧ w.heap.size ≤ b) (p1 : x.m = m) (p2 : x.ok W) :
    BoxC (put8n W R x) R 32 x.cs.toArray ∧ FetPost (m, []) w (.returned (.tuple #[x.val, .slice none 0 0])) (put8n W R x) := by
  have hc := Ch1.sets W R x.cs
  refine ⟨by rw [put8n_eq]; exact hR.full x.cs rfl, x, none, 0, rfl, p1, ?_, QsAt.nil _, ?_, fun b e => ?_⟩
  · rw [put8n_eq]
    exact p2.ch1 (fun b e => by have := hx b (.inl e); omega) (fun b e => by have := hx b (.inr e); omega) hc
  · rw [put8n_eq]
    exact Below.sets hwR _ hb
  · rcases e with e | e
    · exact (hx b e).2
    · cases e
/-- behind the copy, written in the variable's block -/
structure Copied (w X : World) (g R : Nat) (y : FeV) (m : FeM) : Prop where
  box : BoxC X g 32 y.cs.toArray
  ok : y.ok X
  bel : Below w.heap.size w X
  res : BoxC X R 32 zero32
  blk : ∀ b, y.blk b → R < b ∧ w.heap.size ≤ b
  m : y.m = m
theorem Copied.of {x y : FeV} {m : FeM} {w W w1 : World} {g R : Nat} (hB : BoxC W g 32 x.cs.toArray) (hR : BoxC W R 32 zero32) (hb : Below w.heap.size w W) (hg : w.heap.size ≤ g) (hne : R ≠ g) (hy : FeNew W w1 y m) : Copied w (put8n w1 g y) g R y m := by
  have hc := Ch1.sets w1 g y.cs
  have hl := hB.lt
  have hl2 := hR.lt
  have hblk : ∀ b, y.blk b → W.heap.size ≤ b := fun b e => by
    rcases e with e | e
    · exact hy.sn b e
    · exact hy.bn b e
  rw [put8n_eq]
  refine ⟨(hB.below hy.bel).full y.cs rfl, hy.ok.ch1 (fun b e => by have := hblk b (.inl e); omega) (fun b e => by have := hblk b (.inr e); omega) hc, Below.sets hg _ (hb.trans (hy.bel.mono hb.size)), (hR.below hy.bel).ch1' hne hc, fun b e => by have := hblk b e; have := hb.size; omega, hy.m⟩
theorem Copied.below {w X Z : World} {g R : Nat} {y : FeV} {m : FeM} (h : Copied w X g R y m) (hb : Below X.heap.size X Z) : Copied w Z g R y m := ⟨h.box.below hb, h.ok.below hb, h.bel.trans (hb.mono h.bel.size), h.res.below hb, h.blk, h.m⟩
set_option maxRecDepth 100000 in
set_option maxHeartbeats 4000000 in
theorem dtick_any (x : FeV) (now : Int) (w : World) (h : x.ok w) (hi : x.m.In) (hb0 : x.body.length ≤ 100000) (hn : u64ok now) :
    Calls Tryz.prog 12 #[x.val, .int .u64 now] w fun e w' => FetPost (x.m.still (x.m.tickM now)) w e w' := by
  obtain ⟨W, hW⟩ : ∃ W, W = (w.alloc (.cells x.cs.toArray 32)).alloc (.cells zero32 32) := ⟨_, rfl⟩
  have hbel : Below w.heap.size w W := by rw [hW]; exact Go.Joins.below_alloc2 w _ _
  have hB : BoxC W w.heap.size 32 x.cs.toArray := by rw [hW]; exact (BoxC.new _ _ _).alloc _
  have hR : BoxC W (w.heap.size + 1) 32 zero32 := by
    rw [hW]
    have := BoxC.new (w.alloc (.cells x.cs.toArray 32)) 32 zero32
    rwa [World.size_alloc] at this
  have hsz : W.heap.size = w.heap.size + 1 + 1 := by rw [hW]; simp only [World.size_alloc]
  have HCP := Lib.hid (dcopy_any x W (h.below hbel) (by have := hi.len; have : x.set.length ≤ 1000 := this; omega) hb0)
  have HW := Lib.hid (And.intro hbel (And.intro hB (And.intro hR hsz)))
  have HI := Lib.hid (And.intro hi hn)
  obtain ⟨c0, c1, c2, c3, c4, c5, c6, c7⟩ := FeV.c8 hB
  have f0 := hB.fz
  simp only [FeV.cs, zero32] at hW
  clear hbel hB hR h hi hn hsz
  go_enter Tryz.func12, Tryz.ntmps12
  go_upto_region 1 with fail
  unfold FeV.val
  rw [← hW]
  clear hW
  go_wp2_with fail
  refine HCP.out.mono ?_
  rintro e w1 ⟨y, rfl, hy⟩
  have HY := Lib.hid hy
  have hB1 := HW.out.2.1.below hy.bel
  have hf1 := hB1.fz
  obtain ⟨e0, e1, e2, e3, e4, e5, e6, e7⟩ := FeV.c8 hB1
  clear c0 c1 c2 c3 c4 c5 c6 c7 f0 hy hB1 HCP
  go_upto_region 2 with fail
  refine via (fun X => Copied w X w.heap.size (w.heap.size + 1) y x.m) (Copied.of HW.out.2.1 HW.out.2.2.1 HW.out.1 (Nat.le_refl _) (by omega) HY.out) (fun X hX => ?_)
  have HX := Lib.hid hX
  have hm := hX.m
  obtain ⟨c0, c1, c2, c3, c4, c5, c6, c7⟩ := FeV.c8 hX.box
  obtain ⟨r0, r1, r2, r3, r4, r5, r6, r7⟩ := t8 hX.res
  have g0 := hX.res.fz
  clear hX e0 e1 e2 e3 e4 e5 e6 e7 hf1
  by_cases k1 : y.done = 1
  · have HE := Lib.hid (show BoxC (put8n X (w.heap.size + 1) y) (w.heap.size + 1) 32 y.cs.toArray ∧ FetPost (x.m.still (x.m.tickM now)) w (.returned (.tuple #[y.val, .slice none 0 0])) (put8n X (w.heap.size + 1) y) from by
      have := fet_none HX.out.res (Nat.le_succ _) HX.out.bel HX.out.blk HX.out.m HX.out.ok
      unfold FeM.still
      rwa [if_pos (show x.m.done = 1 from by rw [← hm]; exact k1)])
    have d1 : (y.done == 1) = true := by rw [k1]; rfl
    have d1' : decide (y.done = 1) = true := decide_eq_true k1
    unfold put8n at HE
    clear k1 hm
    go_wp2
    refine bodyPost_ret (results_f2 rfl _ _ (w.heap.size + 1) y rfl HE.out.1) rfl ?_
    exact HE.out.2
  · have d1 : (y.done == 1) = false := by simpa using k1
    have d1' : decide (y.done = 1) = false := decide_eq_false k1
    have hst : ∀ M, x.m.still M = M := fun M => by unfold FeM.still; rw [if_neg (show ¬ x.m.done = 1 from by rw [← hm]; exact k1)]
    have hsn : x.m.since = y.since := by rw [← hm]; rfl
    have hnu : 0 ≤ y.since ∧ now ≤ 18446744073709551615 := ⟨HX.out.ok.nums.2.2.1.1, HI.out.2.2⟩
    by_cases k2 : y.since + 3 ≤ now
    · have d2 : decide (now < y.since) = false := decide_eq_false (by omega)
      have e3 : IntKind.u64.wrap (now - y.since) = now - y.since := by rw [wrapu]; omega
      have d3 : decide (now - y.since < 3) = false := decide_eq_false (by omega)
      have hlo : 0 ≤ y.at' := by have := HI.out.1.lo; rw [← hm] at this; exact this
      have hhi : y.at' < (y.set.length : Int) := by have := HI.out.1.hi; rw [← hm] at this; exact this
      have hln : y.set.length ≤ 1000 := by have := HI.out.1.len; rw [← hm] at this; exact this
      have e4 : IntKind.i64.wrap (y.at' + 1) = y.at' + 1 := wrap_small _ (by omega) (by omega)
      have HAS := Lib.hid (dask_at y (y.at' + 1) ((y.at' + 1) % (y.set.length : Int)) now X (by by_cases hh : y.at' + 1 = (y.set.length : Int); exact .inl ⟨by omega, by rw [hh, Int.emod_self]⟩; exact .inr ⟨by omega, Int.emod_eq_of_lt (by omega) (by omega)⟩) HX.out.ok (by omega) (by omega) (by omega) (by omega) HI.out.2)
      have HMM := Lib.hid (show x.m.still (x.m.tickM now) = FeM.askM { y.m with at' := (y.at' + 1) % (y.set.length : Int) } now from by
        rw [hst]
        unfold FeM.tickM
        rw [if_pos (by rw [hsn]; exact k2), ← hm]
        rfl)
      clear k1 k2 hst hsn hlo hhi hln hnu r0 r1 r2 r3 r4 r5 r6 r7 g0
      go_wp2_with fail
      refine HAS.out.mono ?_
      rintro e w2 ⟨z, ra, rc, rfl, p1, p2, p3, p4, p5, p6⟩
      have HE := Lib.hid (fet_ask HX.out.res (Nat.le_succ _) HX.out.bel HX.out.blk p1 p2 p3 p4 p5 p6)
      have hr2 := HX.out.res.below p4
      obtain ⟨r0, r1, r2, r3, r4, r5, r6, r7⟩ := t8 hr2
      have g0 := hr2.fz
      unfold put8n at HE
      clear p1 p2 p3 p4 p5 p6 hr2 hm c0 c1 c2 c3 c4 c5 c6 c7
      go_wp2
      refine bodyPost_ret (results_f2 rfl _ _ (w.heap.size + 1) z rfl HE.out.1) rfl ?_
      rw [HMM.out]
      exact HE.out.2
    · have HE := Lib.hid (show BoxC (put8n X (w.heap.size + 1) y) (w.heap.size + 1) 32 y.cs.toArray ∧ FetPost (x.m.still (x.m.tickM now)) w (.returned (.tuple #[y.val, .slice none 0 0])) (put8n X (w.heap.size + 1) y) from by
        have := fet_none HX.out.res (Nat.le_succ _) HX.out.bel HX.out.blk HX.out.m HX.out.ok
        rw [hst]
        unfold FeM.tickM
        rwa [if_neg (by rw [hsn]; exact k2)])
      by_cases k3 : now < y.since
      · have d2 : decide (now < y.since) = true := decide_eq_true k3
        unfold put8n at HE
        clear k1 k2 k3 hst hsn hnu hm
        go_wp2
        refine bodyPost_ret (results_f2 rfl _ _ (w.heap.size + 1) y rfl HE.out.1) rfl ?_
        exact HE.out.2
      · have d2 : decide (now < y.since) = false := decide_eq_false k3
        have e3 : IntKind.u64.wrap (now - y.since) = now - y.since := by rw [wrapu]; omega
        have d3 : decide (now - y.since < 3) = true := decide_eq_true (by omega)
        unfold put8n at HE
        clear k1 k2 k3 hst hsn hnu hm
        go_wp2
        refine bodyPost_ret (results_f2 rfl _ _ (w.heap.size + 1) y rfl HE.out.1) rfl ?_
        exact HE.out.2
end Go.Proofs.YtpihogkhfmijcaaGreat
