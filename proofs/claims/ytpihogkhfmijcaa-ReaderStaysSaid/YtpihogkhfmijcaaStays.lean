/- ReaderStays. -/
import Derived.Test.YtpihogkhfmijcaaLawM
import Derived.Test.YtpihogkhfmijcaaAwake
import Derived.Deep.CutBlock
import Derived.Deep.RegionHeldLaw
namespace Go.Proofs.Ytpihogkhfmijcaa
open Go.RowKit Go.Maps Go.Shelf
set_option linter.unusedSimpArgs false
def zero42 : Array Value := #[.int .i64 0, .int .i64 0, .int .u64 0, .int .i64 0, .int .u64 0, .int .i64 0, .int .i64 0, .int .u64 0, .int .u64 0, .int .u64 0, .int .u64 0, .slice none 0 0, .int .u64 0, .int .i64 0, .int .i64 0, .slice none 0 0, .int .i64 0, .int .u64 0]
theorem cas_one (q : CaV) : ∀ v ∈ q.cells, v.oneCell' = true := by
  intro u hu
  simp only [CaV.cells, List.mem_cons, List.not_mem_nil, or_false] at hu
  rcases hu with rfl | rfl | rfl | rfl | rfl | rfl | rfl | rfl | rfl | rfl | rfl | rfl | rfl | rfl | rfl | rfl | rfl | rfl <;> rfl
theorem own_below {B gc : Nat} {w X : World} {v1 v2 v3 v4 v5 : Value} (h : Below B w X) (hg : B ≤ gc) : Below B w (((((X.setCell ⟨gc, 5, none⟩ v1).setCell ⟨gc, 7, none⟩ v2).setCell ⟨gc, 8, none⟩ v3).setCell ⟨gc, 9, none⟩ v4).setCell ⟨gc, 12, none⟩ v5).drew :=
  Below.drew (((((h.setCell (p := ⟨gc, 5, none⟩) hg _).setCell (p := ⟨gc, 7, none⟩) hg _).setCell (p := ⟨gc, 8, none⟩) hg _).setCell (p := ⟨gc, 9, none⟩) hg _).setCell (p := ⟨gc, 12, none⟩) hg _)
theorem cs_one (y : FeV) : ∀ v ∈ y.cs, v.oneCell' = true := by
  intro u hu
  simp only [FeV.cs, List.mem_cons, List.not_mem_nil, or_false] at hu
  rcases hu with rfl | rfl | rfl | rfl | rfl | rfl | rfl | rfl <;> rfl
theorem St.moved {w0 W : World} {g : Nat} {y : FeV} {m : FeM} {n : Int} (h : St w0 W g y m) (hi : FInv n m) (now : Int) (hn : u64ok now) (l : LgV) (hl : FsAt W (.slice l.a l.fs.length l.c) l.fs) (hs : ∀ x ∈ l.fs, x.ps.length ≤ 100000) :
    Calls Try.prog 12 #[y.val, .int .u64 now, l.val] W fun e w' => FetPost (m.still (m.movedM now l)) W e w' := by
  have e := h.m
  have hb := hi.body
  have hl2 := hi.inn.len
  have h1 := hi.n1
  have h2 := hi.nn
  rw [← e] at hb hl2 h2 ⊢
  exact Moved_any y now hn W h.ok (by have : y.set.length ≤ 1000 := hl2; omega) (by have : y.body.length ≤ 5000 := hb; omega) (by have : y.n = n := h2; omega) l hl hs
/-- where one call leaves the law -/
structure Arm (x : LgV) (n : Int) (w wz : World) (g gw gc : Nat) (m : FeM) (q : CaV) (y y2 : FeV) (ra : Option Addr) (rc : Nat) (M : FeM × List RqM) : Prop where
  st : St w wz g y2 M.1
  sep : Sep y2 g
  rq : QsAt wz (.slice ra M.2.length rc) M.2
  stays : Stays n m q.r.frm M
  inv : FInv n M.1
  was : BoxC wz gw 32 y.cs.toArray
  wok : y.ok wz
  call : BoxC wz gc 42 q.cells.toArray
  box : BoxC wz w.heap.size 25 #[.int .u64 x.i, .int .i64 x.W, .int .i64 x.A, .slice x.a x.fs.length x.c, .int .i64 x.cl, .int .u64 x.last]
theorem BoxC.ch1 {g b : Nat} {W W' : World} {T : TypeId} {cs : Array Value} (h : BoxC W b T cs) (hne : b ≠ g) (hc : Ch1 g W W') : BoxC W' b T cs := Chg.heap hc h hne
theorem Arm.of {x : LgV} {n : Int} {w Y wy : World} {g gw gc : Nat} {m : FeM} {q : CaV} {y y2 : FeV} {ra : Option Addr} {rc : Nat} {M : FeM × List RqM} (hS : St w Y g y m) (hw : BoxC Y gw 32 y.cs.toArray) (hc : BoxC Y gc 42 q.cells.toArray)
    (hb : BoxC Y w.heap.size 25 #[.int .u64 x.i, .int .i64 x.W, .int .i64 x.A, .slice x.a x.fs.length x.c, .int .i64 x.cl, .int .u64 x.last]) (hs : Sep y g)
    (p1 : y2.m = M.1) (p2 : y2.ok wy) (p3 : QsAt wy (.slice ra M.2.length rc) M.2) (p4 : Below Y.heap.size Y wy) (p5 : ∀ b, y2.blk b ∨ ab ra = some b → Y.heap.size ≤ b) (h1 : Stays n m q.r.frm M) (h2 : FInv n M.1) (hne : gw ≠ g ∧ gc ≠ g ∧ w.heap.size ≠ g) : Arm x n w (put8n wy g y2) g gw gc m q y y2 ra rc M := by
  obtain ⟨s1, s2, s3⟩ := hS.next (Below.refl _ _) p1 p2 p3 p4 p5
  exact ⟨s1, Sep.of_new p5 hS.box.lt, s2.1, h1, h2, hw.ch1 hne.1 s3, hS.ok.sep hs s3, hc.ch1 hne.2.1 s3, hb.ch1 hne.2.2 s3⟩
theorem Arm.below {x : LgV} {n : Int} {w wz wy : World} {g gw gc : Nat} {m : FeM} {q : CaV} {y y2 : FeV} {ra : Option Addr} {rc : Nat} {M : FeM × List RqM} (h : Arm x n w wz g gw gc m q y y2 ra rc M) (hb : Below wz.heap.size wz wy) : Arm x n w wy g gw gc m q y y2 ra rc M :=
  ⟨h.st.below hb, h.sep, h.rq.below hb, h.stays, h.inv, h.was.below hb, h.wok.below hb, h.call.below hb, h.box.below hb⟩
/-- the call as the law makes it -/
def CaV.mine (q : CaV) (i n tag : Int) : CaV := { q with r := { q.r with kind := 3, ledger := i, n := n, epoch := tag }, l := { q.l with i := i } }
theorem calls_ret {P : Program} {f : Nat} {args : Array Value} {w : World} {v : Value} {Q : World → Prop} (h : Calls P f args w fun e w' => e = .returned v ∧ Q w') : Calls P f args w fun e w' => e = .returned v ∧ Q w' := h
set_option maxRecDepth 100000 in
set_option maxHeartbeats 16000000 in
theorem stays_any (x : LgV) (n tag now : Int) (a : Option Addr) (c : Nat) (L : List CaV) (w : World) (hx : FsAt w (.slice x.a x.fs.length x.c) x.fs) (hi : u64ok x.i) (hn : u64ok n) (ht : u64ok tag) (hw : u64ok now) (hL : CasAt w (.slice a L.length c) L) :
    Calls Try.prog 4 #[x.val, .int .u64 n, .int .u64 tag, .int .u64 now, .slice a L.length c] w fun e w' => e = .returned (.bool true) ∧ Below w.heap.size w w' := by
  have HB := Lib.hid (Go.Joins.below_alloc1 w (.cells x.arr 25))
  have HH := Lib.hid (heavy_any x a c L _ (hx.below HB.out) (hL.below HB.out))
  have HAW := Lib.hid (fun W => awake_any W)
  have HNW := Lib.hid (fun (hlt : Light x L) W (hW : Below w.heap.size w W) => New_any x n tag now W (hx.below hW) (small_frags hlt.2.1) hi hn ht hw)
  have HLL := Lib.hid hL
  have HU := Lib.hid (And.intro hi (And.intro hn (And.intro ht hw)))
  have HBX := Lib.hid (fun Z (hZ : Below (w.alloc (.cells x.arr 25)).heap.size (w.alloc (.cells x.arr 25)) Z) => (BoxC.new w 25 x.arr).below hZ)
  obtain ⟨N, hN⟩ : ∃ N, L.length = N := ⟨_, rfl⟩
  have HN := Lib.hid hN
  rw [hN] at HH HLL ⊢
  simp only [LgV.val, LgV.arr] at HH HNW ⊢
  simp only [LgV.arr] at HB HBX
  clear hx hi hn ht hw hL hN
  go_enter Try.func4, Try.ntmps4
  go_wp2_with fail
  refine HH.out.mono ?_
  rintro e w1 ⟨R, rfl, hR, hb1⟩
  have HR := Lib.hid hR
  have HB1 := Lib.hid (And.intro (HBX.out w1 hb1) (HB.out.trans (hb1.mono HB.out.size)))
  clear hR hb1 HH HBX HB
  cases R with
  | true =>
    go_wp2_with fail
    refine (HAW.out _).mono ?_
    rintro e w2 ⟨rfl, hb2⟩
    have HB2 := Lib.hid (HB1.out.2.trans (hb2.mono HB1.out.2.size))
    clear hb2
    go_wp2
    go_ret
    exact ⟨rfl, HB2.out⟩
  | false =>
    have HLT := Lib.hid (HR.out rfl)
    have hN200 : N ≤ 200 := by have := HLT.out.1; have := HN.out; omega
    have HNE := Lib.hid (HNW.out HLT.out w1 HB1.out.2)
    obtain ⟨b0, b1, b2, b3, b4, b5⟩ : w1.cell? ⟨w.heap.size, 0, none⟩ = some (.int .u64 x.i) ∧ w1.cell? ⟨w.heap.size, 1, none⟩ = some (.int .i64 x.W) ∧ w1.cell? ⟨w.heap.size, 2, none⟩ = some (.int .i64 x.A) ∧ w1.cell? ⟨w.heap.size, 3, none⟩ = some (.slice x.a x.fs.length x.c) ∧ w1.cell? ⟨w.heap.size, 4, none⟩ = some (.int .i64 x.cl) ∧ w1.cell? ⟨w.heap.size, 5, none⟩ = some (.int .u64 x.last) := ⟨HB1.out.1.cell 0, HB1.out.1.cell 1, HB1.out.1.cell 2, HB1.out.1.cell 3, HB1.out.1.cell 4, HB1.out.1.cell 5⟩
    clear HNW HR
    go_wp2_with fail
    refine HNE.out.mono ?_
    rintro e w2 hq
    rcases hq with ⟨hok, y0, ra0, rc0, rfl, hm, hyo, hrq, hb2, -⟩ | ⟨hbad, rfl, hb2⟩
    · have HOK := Lib.hid hok
      obtain ⟨g, hg⟩ : ∃ g, w2.heap.size = g := ⟨_, rfl⟩
      have hS := St.new (w0 := w) (HB1.out.2.trans (hb2.mono HB1.out.2.size)) hyo hm
      have HBZ := Lib.hid ((HB1.out.1.below hb2).alloc (.cells y0.cs.toArray 32))
      unfold FeV.cs at hS HBZ
      rw [hg] at hS
      have HS := Lib.hid (And.intro (And.intro hS (show Sep y0 g from Sep.of_ok hyo (by omega))) (new_inv (tag := tag) (now := now) hok))
      have HWG := Lib.hid (show w.heap.size < g by have := (HB1.out.1.below hb2).lt; omega)
      clear hS hok hm hyo hrq hb2 b0 b1 b2 b3 b4 b5 HNE
      go_wp2_with fail
      go_loopw [12, 14] (fun _ z wr => ∃ i : Nat, i ≤ N ∧ z = .int .i64 (i : Nat) ∧ ∃ y m, Hid (((St w wr g y m ∧ Sep y g) ∧ FInv n m) ∧ BoxC wr w.heap.size 25 #[.int .u64 x.i, .int .i64 x.W, .int .i64 x.A, .slice x.a x.fs.length x.c, .int .i64 x.cl, .int .u64 x.last])) (fun _ z _ => N - (intOf z).toNat)
      case atStart => exact ⟨0, Nat.zero_le _, rfl, _, _, ⟨HS.out, HBZ.out⟩⟩
      case round =>
        obtain ⟨i, hi, rfl, y, m, HR⟩ := hrel
        by_cases hlt : i < N
        · have hltz : (i : Int) < (N : Int) := by omega
          obtain ⟨q, hq⟩ : ∃ q, L[i]? = some q := ⟨_, List.getElem?_eq_getElem (by rw [HN.out]; exact hlt)⟩
          obtain ⟨b, off, he, hbl, hqo, hc⟩ := RowAt.cell (HLL.out.below HR.out.1.1.1.bel) hq
          cases he
          have HQO := Lib.hid hqo
          have HQ := Lib.hid hq
          have HCE := Lib.hid (fun r (hr : r < 18) => hc r hr wr (Below.refl _ _))
          clear hc hqo hbl hq
          obtain ⟨gc, hgc⟩ : ∃ gc, wr.heap.size = gc := ⟨_, rfl⟩
          obtain ⟨q', hq'⟩ : ∃ q', q' = (if 0 < q.own then q.mine x.i n tag else q) := ⟨_, rfl⟩
          have HBC := Lib.hid HR.out.2
          have HNE := Lib.hid (show w.heap.size ≠ gc by have := HR.out.2.lt; omega)
          have hz0 : BoxC (wr.alloc (.cells zero42 42)) gc 42 zero42 := by rw [← hgc]; exact BoxC.new _ _ _
          have HZ0 := Lib.hid hz0
          have HRG := Lib.hid (show World.rangeAt wr b (off + i * 18) q.cells from fun j v hv => by
            have hjl : j < 18 := (List.getElem?_eq_some_iff.1 hv).1
            rw [← hv]
            exact HCE.out j hjl)
          have HTH := Lib.hid (show World.there (wr.alloc (.cells zero42 42)) wr.heap.size 0 q.cells.toArray.size from fun j hj => by rw [hgc]; exact ⟨by rw [Nat.zero_add, hz0.cell]; exact Option.isSome_iff_exists.2 ⟨_, Array.getElem?_eq_getElem (show j < zero42.size from hj)⟩, hz0.fz _⟩)
          clear hz0
          unfold zero42 at HTH HZ0
          go_upto_region 10 with (first | (refine wpList_load_mid rfl 42 _ rfl b (off + i * 18) (by simp [Act.eval]) q.cells _ HRG.out Try.underlying42 rfl (by kernel_rfl) ?_) | (refine wpList_store_mid rfl 42 _ _ rfl wr.heap.size 0 q.cells.toArray (by simp [Act.eval]) (by simp [Act.eval]) HTH.out (by kernel_rfl) (all_oneCell_toArray (fun v hv => cas_one q v hv)) ?_))
          refine via (fun X => BoxC X gc 42 q.cells.toArray ∧ Below wr.heap.size wr X) ⟨by rw [hgc]; exact HZ0.out.full q.cells rfl, setCells_below wr.heap.size (Nat.le_refl _) _ 0 (Go.Joins.below_alloc1 _ _)⟩ (fun X hX => ?_)
          have HX := Lib.hid hX
          have x1 := hX.1.cell 1
          simp only [CaV.cells, List.getElem?_toArray, List.getElem?_cons_succ, List.getElem?_cons_zero] at x1
          have hX0 : X.cell? ⟨w.heap.size, 0, none⟩ = some (.int .u64 x.i) := (HBC.out.below hX.2).cell 0
          have HS0 := Lib.hid hX0
          clear hX HZ0 HTH HRG
          have HQW := Lib.hid (show q'.ok wr ∧ LightC q' from by
            have h1 := HQO.out
            have h2 := HLT.out.2.2 q (List.mem_of_getElem? HQ.out)
            rw [hq']
            split
            · exact ⟨⟨h1.what, h1.own, h1.now, ⟨h1.r.frm, h1.r.bd⟩, h1.l⟩, h2⟩
            · exact ⟨h1, h2⟩)
          go_upto_if 45 with fail
          rename_i K12 hK12
          have HKK12 : Hid (∀ (v33 v34 v35 v36 v37 v38 v39 v40 v41 v42 v43 v44 v45 v46 v47 v48 v49 v50 v51 v52 v53 v54 v55 v56 v57 v58 v59 v60 v61 v62 v63 v64 v65 v66 v67 v68 v69 v70 v71 v72 v73 v74 v75 v76 v77 v78 v79 v80 v81 v82 v83 v84 v85 v86 v87 v88 v89 v90 v91 v92 v93 v94 v95 v96 v97 v98 v99 v100 v101 v102 v103 v104 v105 v106 v107 v108 v109 v110 v111 v112 v113 v114 v115 v116 v117 v118 v119 v120 v121 v122 v123 v124 v125 v126 v127 v128 v129 v130 v131 v132 v133 v134 v135 v136 v137 v138 v139 v140 v141 v142 v143 v144 v145 v146 v147 v148 v149 v150 v151 v152 v153 v154 v155 v156 v157 v158 v159 v160 v161 v162 v163 v164 v165 v166 v167 v168 v169 : Value) (wx : World), BoxC wx gc 42 q'.cells.toArray → Below wr.heap.size wr wx → K12 { tmps := #[.agg #[.int .u64 x.i, .int .i64 x.W, .int .i64 x.A, .slice x.a x.fs.length x.c, .int .i64 x.cl, .int .u64 x.last], .int .u64 n, .int .u64 tag, .int .u64 now, .slice (some ⟨b, off, none⟩) N c, .pointer (some ⟨w.heap.size, 0, none⟩), undef, undef, undef, undef, u10, pg g, u12, .int .i64 0, .int .i64 (i : Nat), pg gc, u16, .agg #[.int .u64 x.i, .int .i64 x.W, .int .i64 x.A, .slice x.a x.fs.length x.c, .int .i64 x.cl, .int .u64 x.last], .slice (some ⟨b, off, none⟩) N c, .bool false, undef, .tuple #[y0.val, .slice ra0 (newM x n tag now).2.length rc0, .int .i64 0], .agg #[.int .u64 x.i, .int .i64 x.W, .int .i64 x.A, .slice x.a x.fs.length x.c, .int .i64 x.cl, .int .u64 x.last], .int .u64 n, .int .u64 tag, .int .u64 now, .tuple #[y0.val, .slice ra0 (newM x n tag now).2.length rc0, .int .i64 0], y0.val, .slice ra0 (newM x n tag now).2.length rc0, .int .i64 0, .int .i64 0, .bool false, undef, v33, v34, v35, v36, v37, v38, v39, v40, v41, v42, v43, v44, v45, v46, v47, v48, v49, v50, v51, v52, v53, v54, v55, v56, v57, v58, v59, v60, v61, v62, v63, v64, v65, v66, v67, v68, v69, v70, v71, v72, v73, v74, v75, v76, v77, v78, v79, v80, v81, v82, v83, v84, v85, v86, v87, v88, v89, v90, v91, v92, v93, v94, v95, v96, v97, v98, v99, v100, v101, v102, v103, v104, v105, v106, v107, v108, v109, v110, v111, v112, v113, v114, v115, v116, v117, v118, v119, v120, v121, v122, v123, v124, v125, v126, v127, v128, v129, v130, v131, v132, v133, v134, v135, v136, v137, v138, v139, v140, v141, v142, v143, v144, v145, v146, v147, v148, v149, v150, v151, v152, v153, v154, v155, v156, v157, v158, v159, v160, v161, v162, v163, v164, v165, v166, v167, v168, v169, undef], defers := [] } wx) := by
            intro v33 v34 v35 v36 v37 v38 v39 v40 v41 v42 v43 v44 v45 v46 v47 v48 v49 v50 v51 v52 v53 v54 v55 v56 v57 v58 v59 v60 v61 v62 v63 v64 v65 v66 v67 v68 v69 v70 v71 v72 v73 v74 v75 v76 v77 v78 v79 v80 v81 v82 v83 v84 v85 v86 v87 v88 v89 v90 v91 v92 v93 v94 v95 v96 v97 v98 v99 v100 v101 v102 v103 v104 v105 v106 v107 v108 v109 v110 v111 v112 v113 v114 v115 v116 v117 v118 v119 v120 v121 v122 v123 v124 v125 v126 v127 v128 v129 v130 v131 v132 v133 v134 v135 v136 v137 v138 v139 v140 v141 v142 v143 v144 v145 v146 v147 v148 v149 v150 v151 v152 v153 v154 v155 v156 v157 v158 v159 v160 v161 v162 v163 v164 v165 v166 v167 v168 v169 wx hcb hbx
            refine hK12 _ _ ?_
            clear hK12 hq'
            have hS := HR.out.1.1.1.below hbx
            obtain ⟨gw, hgw⟩ : ∃ gw, wx.heap.size = gw := ⟨_, rfl⟩
            have hz1 : BoxC (wx.alloc (.cells zero32 32)) gw 32 zero32 := by rw [← hgw]; exact BoxC.new _ _ _
            have HSZ := Lib.hid (show wr.heap.size ≤ gw ∧ gw = wx.heap.size from ⟨by have := hbx.size; omega, hgw.symm⟩)
            have HRG := Lib.hid (show World.rangeAt wx g 0 y.cs from fun j v hv => by rw [Nat.zero_add, hS.box.cell, List.getElem?_toArray]; exact hv)
            have HTH := Lib.hid (show World.there (wx.alloc (.cells zero32 32)) wx.heap.size 0 y.cs.toArray.size from fun j hj => by rw [hgw]; exact ⟨by rw [Nat.zero_add, hz1.cell]; exact Option.isSome_iff_exists.2 ⟨_, Array.getElem?_eq_getElem (show j < zero32.size from hj)⟩, hz1.fz _⟩)
            have HW := Lib.hid (And.intro hS (And.intro hcb (And.intro hbx hz1)))
            clear hS hcb hbx hz1 HX x1 hX0 HS0
            unfold zero32 at HTH
            go_upto_region 13 with (first | (refine wpList_load_mid rfl 32 _ rfl g 0 (by simp [Act.eval]) y.cs _ HRG.out Try.underlying32 rfl (by kernel_rfl) ?_) | (refine wpList_store_mid rfl 32 _ _ rfl wx.heap.size 0 y.cs.toArray (by simp [Act.eval]) (by simp [Act.eval]) HTH.out (by kernel_rfl) (all_oneCell_toArray (fun v hv => cs_one y v hv)) ?_))
            refine via (fun Y => (St w Y g y m ∧ Below wx.heap.size wx Y) ∧ BoxC Y gw 32 y.cs.toArray ∧ BoxC Y gc 42 q'.cells.toArray ∧ Below wr.heap.size wr Y) (?_ : _ ∧ _ ∧ _ ∧ _) (fun Y hY => ?_)
            · have hb := setCells_below (base := wx.heap.size) (w := wx) wx.heap.size (Nat.le_refl _) y.cs 0 (Go.Joins.below_alloc1 wx (.cells zero32 32))
              exact ⟨⟨HW.out.1.below hb, hb⟩, by have := HW.out.2.2.2.full y.cs rfl; rw [hgw]; exact this, HW.out.2.1.below hb, HW.out.2.2.1.trans (hb.mono HW.out.2.2.1.size)⟩
            have HY := Lib.hid hY
            have z0 := hY.2.2.1.cell 0
            simp only [CaV.cells, List.getElem?_toArray, List.getElem?_cons_succ, List.getElem?_cons_zero] at z0
            obtain ⟨t5, ht5⟩ : ∃ t, q'.what.tmod 5 = t := ⟨_, rfl⟩
            have hlo : -5 < t5 := by rw [← ht5]; exact Int.lt_tmod_of_pos _ (by decide)
            have hhi : t5 < 5 := by rw [← ht5]; exact Int.tmod_lt_of_pos _ (by decide)
            have e1 : IntKind.i64.wrap (t5 + 5) = t5 + 5 := wrap_small _ (by omega) (by omega)
            obtain ⟨kd, hkd⟩ : ∃ k, (t5 + 5).tmod 5 = k := ⟨_, rfl⟩
            clear hY HTH HRG HW
            go_upto_block 2 with fail
            rename_i K19 hK19
            have HKK19 : Hid (∀ (v33 v34 v35 v36 v37 v38 v39 v40 v41 v42 v43 v44 v45 v46 v47 v48 v49 v50 v51 v52 v53 v54 v55 v56 v57 v58 v59 v60 v61 v62 v63 v64 v65 v66 v67 v68 v69 v70 v71 v72 v73 v74 v75 v76 v77 v78 v79 v80 v81 v82 v83 v84 v85 v86 v87 v88 v89 v90 v91 v92 v93 v94 v95 v96 v97 v98 v99 v100 v101 v102 v103 v104 v105 v106 v107 v108 v109 v110 v111 v112 v113 v114 v115 v116 v117 v118 v119 v120 v121 v122 v123 v124 v125 v126 v127 v128 v129 v130 v131 v132 v133 v134 v135 v136 v137 v138 v139 v140 v141 v142 v143 v144 v145 v146 v147 v148 v149 v150 v151 v152 v153 v154 v155 v156 v157 v158 v159 v160 v161 v162 v163 v164 v165 v166 v167 v168 v169 : Value) (ra : Option Addr) (rc : Nat) (M : FeM × List RqM) (y2 : FeV) (wz : World), Arm x n w wz g gw gc m q' y y2 ra rc M → K19 { tmps := #[.agg #[.int .u64 x.i, .int .i64 x.W, .int .i64 x.A, .slice x.a x.fs.length x.c, .int .i64 x.cl, .int .u64 x.last], .int .u64 n, .int .u64 tag, .int .u64 now, .slice (some ⟨b, off, none⟩) N c, .pointer (some ⟨w.heap.size, 0, none⟩), undef, undef, undef, undef, u10, pg g, .slice ra M.2.length rc, .int .i64 0, .int .i64 (i : Nat), pg gc, pg gw, .agg #[.int .u64 x.i, .int .i64 x.W, .int .i64 x.A, .slice x.a x.fs.length x.c, .int .i64 x.cl, .int .u64 x.last], .slice (some ⟨b, off, none⟩) N c, .bool false, undef, .tuple #[y0.val, .slice ra0 (newM x n tag now).2.length rc0, .int .i64 0], .agg #[.int .u64 x.i, .int .i64 x.W, .int .i64 x.A, .slice x.a x.fs.length x.c, .int .i64 x.cl, .int .u64 x.last], .int .u64 n, .int .u64 tag, .int .u64 now, .tuple #[y0.val, .slice ra0 (newM x n tag now).2.length rc0, .int .i64 0], y0.val, .slice ra0 (newM x n tag now).2.length rc0, .int .i64 0, .int .i64 0, .bool false, undef, v33, v34, v35, v36, v37, v38, v39, v40, v41, v42, v43, v44, v45, v46, v47, v48, v49, v50, v51, v52, v53, v54, v55, v56, v57, v58, v59, v60, v61, v62, v63, v64, v65, v66, v67, v68, v69, v70, v71, v72, v73, v74, v75, v76, v77, v78, v79, v80, v81, v82, v83, v84, v85, v86, v87, v88, v89, v90, v91, v92, v93, v94, v95, v96, v97, v98, v99, v100, v101, v102, v103, v104, v105, v106, v107, v108, v109, v110, v111, v112, v113, v114, v115, v116, v117, v118, v119, v120, v121, v122, v123, v124, v125, v126, v127, v128, v129, v130, v131, v132, v133, v134, v135, v136, v137, v138, v139, v140, v141, v142, v143, v144, v145, v146, v147, v148, v149, v150, v151, v152, v153, v154, v155, v156, v157, v158, v159, v160, v161, v162, v163, v164, v165, v166, v167, v168, v169, undef], defers := [] } wz) := by
              intro v33 v34 v35 v36 v37 v38 v39 v40 v41 v42 v43 v44 v45 v46 v47 v48 v49 v50 v51 v52 v53 v54 v55 v56 v57 v58 v59 v60 v61 v62 v63 v64 v65 v66 v67 v68 v69 v70 v71 v72 v73 v74 v75 v76 v77 v78 v79 v80 v81 v82 v83 v84 v85 v86 v87 v88 v89 v90 v91 v92 v93 v94 v95 v96 v97 v98 v99 v100 v101 v102 v103 v104 v105 v106 v107 v108 v109 v110 v111 v112 v113 v114 v115 v116 v117 v118 v119 v120 v121 v122 v123 v124 v125 v126 v127 v128 v129 v130 v131 v132 v133 v134 v135 v136 v137 v138 v139 v140 v141 v142 v143 v144 v145 v146 v147 v148 v149 v150 v151 v152 v153 v154 v155 v156 v157 v158 v159 v160 v161 v162 v163 v164 v165 v166 v167 v168 v169 ra rc M y2 wz hA
              refine hK19 _ _ ?_
              clear hK19
              have HA := Lib.hid hA
              have HM := Lib.hid hA.st.m
              have HYM := Lib.hid HY.out.1.1.m
              obtain ⟨a0, a1, a2, a3, a4, a5, a6, a7⟩ := hA.st.c8
              obtain ⟨b0, b1, b2, b3, b4, b5, b6, b7⟩ := FeV.c8 hA.was
              have r3 := hA.call.cell 3
              have r4 := hA.call.cell 4
              simp only [CaV.cells, List.getElem?_toArray, List.getElem?_cons_succ, List.getElem?_cons_zero] at r3 r4
              obtain ⟨LQ, hLQ⟩ : ∃ LQ, M.2.length = LQ := ⟨_, rfl⟩
              have HLQ := Lib.hid hLQ
              have hl1 : LQ ≤ 1 := by rw [← hLQ]; exact hA.stays.one
              rw [hLQ]
              clear hA hLQ z0 e1
              by_cases hyd : y.done = 1
              · have hmm : M = (m, []) := HA.out.stays.still (by rw [← HYM.out]; exact hyd)
                have h0 : LQ = 0 := by rw [← HLQ.out, hmm]; rfl
                subst h0
                have HMM := Lib.hid hmm
                have HSAME := Lib.hid (fsame_any y2 y wz HA.out.st.ok HA.out.wok)
                have d1 : (y.done == 1) = true := by rw [hyd]; rfl
                have d2 : decide (y.done = 1) = true := decide_eq_true hyd
                have HYD := Lib.hid hyd
                clear hmm hl1 hyd
                go_wp2_with fail
                refine HSAME.out.mono ?_
                rintro e w5 ⟨R, rfl, hR, hb5⟩
                have hRt : R = true := hR.2 (by rw [HM.out, HYM.out, HMM.out])
                subst hRt
                have HA5 := Lib.hid (HA.out.below hb5)
                have HF1 := Lib.hid (show y2.done = 1 from (congrArg FeM.done (show y2.m = y.m by rw [HM.out, HYM.out, HMM.out])).trans HYD.out)
                clear hR hb5 HSAME a0 a1 a2 a3 a4 a5 a6 a7 b0 b1 b2 b3 b4 b5 b6 b7 r3 r4
                obtain ⟨a0, a1, a2, a3, a4, a5, a6, a7⟩ := HA5.out.st.c8
                obtain ⟨b0, b1, b2, b3, b4, b5, b6, b7⟩ := FeV.c8 HA5.out.was
                have d3 : (y2.done == 1) = true := by rw [HF1.out]; rfl
                have d5 : (y.done == 0) = false := by rw [HYD.out]; rfl
                have d6 : decide (y.done = 0) = false := by rw [HYD.out]; rfl
                go_wp2_with fail
                go_quiet (fail)
                go_wp2_with fail
                go_roundw
                case rel =>
                  (repeat apply Exists.intro)
                  refine ⟨?_, rfl⟩
                  exact ⟨i + 1, by omega, by go_num, y2, M.1, ⟨⟨(HA5.out.below (drewN_below (Below.refl _ _) _)).st, HA5.out.sep⟩, HA5.out.inv⟩, (HA5.out.below (drewN_below (Below.refl _ _) _)).box⟩
                case measure => simp [intOf]; omega
              · have d1 : (y.done == 1) = false := by simpa using hyd
                have d2 : decide (y.done = 1) = false := decide_eq_false hyd
                have HYD := Lib.hid hyd
                have hcase : LQ = 0 ∨ LQ = 1 := by omega
                clear hyd hl1
                rcases hcase with rfl | rfl
                · clear a0 a1 a4 a5 a7 b0 b1 b3 b4 b5 b7
                  go_wp2_with fail
                  go_quiet (fail)
                  by_cases hf1 : y2.done = 1
                  · have d3 : (y2.done == 1) = true := by rw [hf1]; rfl
                    have d3' : decide (y2.done = 1) = true := decide_eq_true hf1
                    have HF1 := Lib.hid hf1
                    clear hf1
                    by_cases hf0 : y.done = 0
                    · have d5 : (y.done == 0) = true := by rw [hf0]; rfl
                      have d5' : decide (y.done = 0) = true := decide_eq_true hf0
                      have HCT := Lib.hid (show y.set.contains q'.r.frm = true from by
                        have h1 := HA.out.stays.done (by rw [← HM.out]; exact HF1.out) (by rw [← HYM.out]; exact HYD.out)
                        rw [← HYM.out] at h1
                        have h2 : q'.r.frm ∈ y.set := h1
                        simpa using h2)
                      have HHAS := Lib.hid (fun W (hW : Below wz.heap.size wz W) => rhas_any (.slice y.sa y.set.length y.sc) y.set q'.r.frm W (HA.out.wok.below hW).st (by have := HR.out.1.2.inn.len; rw [← HYM.out] at this; have : y.set.length ≤ 1000 := this; omega))
                      rw [HCT.out] at HHAS
                      dsimp only [PL.val] at HHAS
                      clear hf0
                      go_wp2_with fail
                      refine (HHAS.out _ (drewN_below (Below.refl _ _) _)).mono ?_
                      rintro e w6 ⟨rfl, hb6⟩
                      have HB6 := Lib.hid (HA.out.below ((drewN_below (Below.refl _ _) _).trans hb6))
                      clear hb6
                      go_wp2_with fail
                      go_roundw
                      case rel =>
                        (repeat apply Exists.intro)
                        refine ⟨?_, rfl⟩
                        exact ⟨i + 1, by omega, by go_num, y2, M.1, ⟨⟨(HB6.out).st, HA.out.sep⟩, HA.out.inv⟩, (HB6.out).box⟩
                      case measure => simp [intOf]; omega
                    · have d5 : (y.done == 0) = false := by simpa using hf0
                      have d5' : decide (y.done = 0) = false := decide_eq_false hf0
                      clear hf0
                      go_wp2_with fail
                      go_roundw
                      case rel =>
                        (repeat apply Exists.intro)
                        refine ⟨?_, rfl⟩
                        exact ⟨i + 1, by omega, by go_num, y2, M.1, ⟨⟨(HA.out.below (drewN_below (Below.refl _ _) _)).st, HA.out.sep⟩, HA.out.inv⟩, (HA.out.below (drewN_below (Below.refl _ _) _)).box⟩
                      case measure => simp [intOf]; omega
                  · have d3 : (y2.done == 1) = false := by simpa using hf1
                    have d3' : decide (y2.done = 1) = false := decide_eq_false hf1
                    clear hf1
                    go_wp2_with fail
                    go_roundw
                    case rel =>
                      (repeat apply Exists.intro)
                      refine ⟨?_, rfl⟩
                      exact ⟨i + 1, by omega, by go_num, y2, M.1, ⟨⟨(HA.out.below (drewN_below (Below.refl _ _) _)).st, HA.out.sep⟩, HA.out.inv⟩, (HA.out.below (drewN_below (Below.refl _ _) _)).box⟩
                    case measure => simp [intOf]; omega
                · clear a0 a1 a4 a5 a7 b0 b1 b3 b4 b5 b7
                  obtain ⟨q0, hq0⟩ : ∃ q0, M.2[0]? = some q0 := ⟨_, List.getElem?_eq_getElem (by rw [HLQ.out]; exact Nat.one_pos)⟩
                  obtain ⟨ht1, ht2⟩ := HA.out.stays.to q0 hq0
                  have hrq := HA.out.rq
                  obtain ⟨bq, oq, rfl, -, -, hcq⟩ := RowAt.cell hrq.row hq0
                  have s0 := hcq 0 (by omega) wz (Below.refl _ _)
                  have s1 := hcq 1 (by omega) wz (Below.refl _ _)
                  have s4 := hcq 4 (by omega) wz (Below.refl _ _)
                  simp only [RqM.cells, List.getElem?_cons_succ, List.getElem?_cons_zero, Nat.zero_mul, Nat.add_zero, ht1, ht2] at s0 s1 s4
                  have hin := HA.out.inv.inn
                  rw [← HM.out] at hin
                  obtain ⟨k, hk⟩ : ∃ k : Nat, y2.at' = (k : Int) := ⟨y2.at'.toNat, by have : 0 ≤ y2.at' := hin.lo; omega⟩
                  have hkl : k < y2.set.length := by have : y2.at' < (y2.set.length : Int) := hin.hi; omega
                  have hset : y2.set[k]? = some M.1.cur := by
                    have e : M.1.cur = y2.set.getD k default := by
                      rw [← HM.out]
                      show y2.set.getD y2.at'.toNat default = _
                      rw [hk, Int.toNat_natCast]
                    rw [e, List.getD_eq_getElem?_getD, List.getElem?_eq_getElem hkl]
                    rfl
                  obtain ⟨bs, os, hsa, -, -, hcs⟩ := RowAt.cell HA.out.st.ok.st hset
                  have e0 := hcs 0 (by omega) wz (Below.refl _ _)
                  have e1 := hcs 1 (by omega) wz (Below.refl _ _)
                  simp only [PL.cells, List.getElem?_cons_succ, List.getElem?_cons_zero, Nat.add_zero] at e0 e1
                  rw [hk] at a3
                  rw [hsa] at a2
                  have k1 := fun w => neq38 M.1.cur M.1.cur w
                  rw [decide_eq_true rfl] at k1
                  dsimp only [PL.val, Bool.not_true] at k1
                  have kg := guard38
                  have g1 : decide ((k : Int) < 0) = false := decide_eq_false (by omega)
                  have g2 : decide ((y2.set.length : Int) ≤ (k : Int)) = false := decide_eq_false (by omega)
                  have hkz : (k : Int) < (y2.set.length : Int) := by omega
                  clear hrq hcq hcs hset hq0 ht1 ht2 hin
                  go_wp2_with fail
                  go_quiet (fail)
                  by_cases hf1 : y2.done = 1
                  · have d3 : (y2.done == 1) = true := by rw [hf1]; rfl
                    have d3' : decide (y2.done = 1) = true := decide_eq_true hf1
                    have HF1 := Lib.hid hf1
                    clear hf1
                    by_cases hf0 : y.done = 0
                    · have d5 : (y.done == 0) = true := by rw [hf0]; rfl
                      have d5' : decide (y.done = 0) = true := decide_eq_true hf0
                      have HCT := Lib.hid (show y.set.contains q'.r.frm = true from by
                        have h1 := HA.out.stays.done (by rw [← HM.out]; exact HF1.out) (by rw [← HYM.out]; exact HYD.out)
                        rw [← HYM.out] at h1
                        have h2 : q'.r.frm ∈ y.set := h1
                        simpa using h2)
                      have HHAS := Lib.hid (fun W (hW : Below wz.heap.size wz W) => rhas_any (.slice y.sa y.set.length y.sc) y.set q'.r.frm W (HA.out.wok.below hW).st (by have := HR.out.1.2.inn.len; rw [← HYM.out] at this; have : y.set.length ≤ 1000 := this; omega))
                      rw [HCT.out] at HHAS
                      dsimp only [PL.val] at HHAS
                      clear hf0
                      go_wp2_with fail
                      refine (HHAS.out _ (drewN_below (Below.refl _ _) _)).mono ?_
                      rintro e w6 ⟨rfl, hb6⟩
                      have HB6 := Lib.hid (HA.out.below ((drewN_below (Below.refl _ _) _).trans hb6))
                      clear hb6
                      go_wp2_with fail
                      go_roundw
                      case rel =>
                        (repeat apply Exists.intro)
                        refine ⟨?_, rfl⟩
                        exact ⟨i + 1, by omega, by go_num, y2, M.1, ⟨⟨(HB6.out).st, HA.out.sep⟩, HA.out.inv⟩, (HB6.out).box⟩
                      case measure => simp [intOf]; omega
                    · have d5 : (y.done == 0) = false := by simpa using hf0
                      have d5' : decide (y.done = 0) = false := decide_eq_false hf0
                      clear hf0
                      go_wp2_with fail
                      go_roundw
                      case rel =>
                        (repeat apply Exists.intro)
                        refine ⟨?_, rfl⟩
                        exact ⟨i + 1, by omega, by go_num, y2, M.1, ⟨⟨(HA.out.below (drewN_below (Below.refl _ _) _)).st, HA.out.sep⟩, HA.out.inv⟩, (HA.out.below (drewN_below (Below.refl _ _) _)).box⟩
                      case measure => simp [intOf]; omega
                  · have d3 : (y2.done == 1) = false := by simpa using hf1
                    have d3' : decide (y2.done = 1) = false := decide_eq_false hf1
                    clear hf1
                    go_wp2_with fail
                    go_roundw
                    case rel =>
                      (repeat apply Exists.intro)
                      refine ⟨?_, rfl⟩
                      exact ⟨i + 1, by omega, by go_num, y2, M.1, ⟨⟨(HA.out.below (drewN_below (Below.refl _ _) _)).st, HA.out.sep⟩, HA.out.inv⟩, (HA.out.below (drewN_below (Below.refl _ _) _)).box⟩
                    case measure => simp [intOf]; omega
            clear hK19
            have HQ2 := Lib.hid (And.intro (HQW.out.1.below HY.out.2.2.2) HQW.out.2)
            have HI := Lib.hid HR.out.1.2
            have HNN := Lib.hid (show gw ≠ g ∧ gc ≠ g ∧ w.heap.size ≠ g from ⟨by have := HSZ.out.1; have := HR.out.1.1.1.box.lt; omega, by have := HR.out.1.1.1.box.lt; omega, by have := HWG.out; omega⟩)
            obtain ⟨c0, c1, c2, c3, c4, c5, c6, c7⟩ := HY.out.1.1.c8
            have z2 := HY.out.2.2.1.cell 2
            simp only [CaV.cells, List.getElem?_toArray, List.getElem?_cons_succ, List.getElem?_cons_zero] at z2
            by_cases h3 : kd = 3
            · subst h3
              have HT := Lib.hid (HY.out.1.1.tick HI.out.inn (by have := HI.out.body; omega) q'.now HQ2.out.1.now rfl)
              clear z0
              go_wp2_with fail
              refine HT.out.mono ?_
              rintro e wy ⟨y2, ra, rc, rfl, p1, p2, p3, p4, p5⟩
              have HF := Lib.hid (Arm.of HY.out.1.1 HY.out.2.1 HY.out.2.2.1 (HBC.out.below HY.out.2.2.2) HR.out.1.1.2 p1 p2 p3 p4 p5 (stays_tick q'.r.frm HI.out q'.now) (tick_inv HI.out q'.now) HNN.out)
              have hz2 := HY.out.1.1.below p4
              clear c0 c1 c2 c3 c4 c5 c6 c7 p1 p2 p3 p4 p5
              obtain ⟨c0, c1, c2, c3, c4, c5, c6, c7⟩ := hz2.c8
              have f0 := hz2.fz
              unfold put8n at HF
              clear hz2 HT
              go_wp2_with fail
              exact HKK19.out _ _ _ _ _ _ _ _ _ _ _ _ _ _ _ _ _ _ _ _ _ _ _ _ _ _ _ _ _ _ _ _ _ _ _ _ _ _ _ _ _ _ _ _ _ _ _ _ _ _ _ _ _ _ _ _ _ _ _ _ _ _ _ _ _ _ _ _ _ _ _ _ _ _ _ _ _ _ _ _ _ _ _ _ _ _ _ _ _ _ _ _ _ _ _ _ _ _ _ _ _ _ _ _ _ _ _ _ _ _ _ _ _ _ _ _ _ _ _ _ _ _ _ _ _ _ _ _ _ _ _ _ _ _ _ _ _ _ _ _ _ _ HF.out
            · have e3 : (kd == 3) = false := by simpa using h3
              have e3' : decide (kd = 3) = false := decide_eq_false h3
              by_cases h4 : kd = 4
              · subst h4
                have z12 := HY.out.2.2.1.cell 12
                have z13 := HY.out.2.2.1.cell 13
                have z14 := HY.out.2.2.1.cell 14
                have z15 := HY.out.2.2.1.cell 15
                have z16 := HY.out.2.2.1.cell 16
                have z17 := HY.out.2.2.1.cell 17
                simp only [CaV.cells, List.getElem?_toArray, List.getElem?_cons_succ, List.getElem?_cons_zero] at z12 z13 z14 z15 z16 z17
                have HT := Lib.hid (HY.out.1.1.moved HI.out q'.now HQ2.out.1.now q'.l HQ2.out.1.l (small_frags HQ2.out.2.2))
                simp only [LgV.val, LgV.arr] at HT
                clear z0
                go_wp2_with fail
                refine HT.out.mono ?_
                rintro e wy ⟨y2, ra, rc, rfl, p1, p2, p3, p4, p5⟩
                have HF := Lib.hid (Arm.of HY.out.1.1 HY.out.2.1 HY.out.2.2.1 (HBC.out.below HY.out.2.2.2) HR.out.1.1.2 p1 p2 p3 p4 p5 (stays_moved q'.r.frm HI.out q'.now q'.l) (moved_inv HI.out q'.now q'.l) HNN.out)
                have hz2 := HY.out.1.1.below p4
                clear c0 c1 c2 c3 c4 c5 c6 c7 p1 p2 p3 p4 p5
                obtain ⟨c0, c1, c2, c3, c4, c5, c6, c7⟩ := hz2.c8
                have f0 := hz2.fz
                unfold put8n at HF
                clear hz2 HT
                go_wp2_with fail
                exact HKK19.out _ _ _ _ _ _ _ _ _ _ _ _ _ _ _ _ _ _ _ _ _ _ _ _ _ _ _ _ _ _ _ _ _ _ _ _ _ _ _ _ _ _ _ _ _ _ _ _ _ _ _ _ _ _ _ _ _ _ _ _ _ _ _ _ _ _ _ _ _ _ _ _ _ _ _ _ _ _ _ _ _ _ _ _ _ _ _ _ _ _ _ _ _ _ _ _ _ _ _ _ _ _ _ _ _ _ _ _ _ _ _ _ _ _ _ _ _ _ _ _ _ _ _ _ _ _ _ _ _ _ _ _ _ _ _ _ _ _ _ _ _ _ HF.out
              · have e4 : (kd == 4) = false := by simpa using h4
                have e4' : decide (kd = 4) = false := decide_eq_false h4
                clear h3 h4
                have z3 := HY.out.2.2.1.cell 3
                have z4 := HY.out.2.2.1.cell 4
                have z5 := HY.out.2.2.1.cell 5
                have z6 := HY.out.2.2.1.cell 6
                have z7 := HY.out.2.2.1.cell 7
                have z8 := HY.out.2.2.1.cell 8
                have z9 := HY.out.2.2.1.cell 9
                have z10 := HY.out.2.2.1.cell 10
                have z11 := HY.out.2.2.1.cell 11
                simp only [CaV.cells, List.getElem?_toArray, List.getElem?_cons_succ, List.getElem?_cons_zero] at z3 z4 z5 z6 z7 z8 z9 z10 z11
                have HT := Lib.hid (HY.out.1.1.take HI.out.inn (by have := HI.out.body; omega) q'.now HQ2.out.1.now q'.r HQ2.out.1.r (by have := HQ2.out.2.1; omega) rfl)
                clear z0
                go_wp2_with fail
                refine HT.out.mono ?_
                rintro e wy ⟨y2, ra, rc, rfl, p1, p2, p3, p4, p5⟩
                have HF := Lib.hid (Arm.of HY.out.1.1 HY.out.2.1 HY.out.2.2.1 (HBC.out.below HY.out.2.2.2) HR.out.1.1.2 p1 p2 p3 p4 p5 (stays_take HI.out q'.now q'.r) (take_inv HI.out q'.now q'.r HQ2.out.2.1) HNN.out)
                have hz2 := HY.out.1.1.below p4
                clear c0 c1 c2 c3 c4 c5 c6 c7 p1 p2 p3 p4 p5
                obtain ⟨c0, c1, c2, c3, c4, c5, c6, c7⟩ := hz2.c8
                have f0 := hz2.fz
                unfold put8n at HF
                clear hz2 HT
                go_wp2_with fail
                exact HKK19.out _ _ _ _ _ _ _ _ _ _ _ _ _ _ _ _ _ _ _ _ _ _ _ _ _ _ _ _ _ _ _ _ _ _ _ _ _ _ _ _ _ _ _ _ _ _ _ _ _ _ _ _ _ _ _ _ _ _ _ _ _ _ _ _ _ _ _ _ _ _ _ _ _ _ _ _ _ _ _ _ _ _ _ _ _ _ _ _ _ _ _ _ _ _ _ _ _ _ _ _ _ _ _ _ _ _ _ _ _ _ _ _ _ _ _ _ _ _ _ _ _ _ _ _ _ _ _ _ _ _ _ _ _ _ _ _ _ _ _ _ _ _ HF.out
          clear hK12
          by_cases hown : 0 < q.own
          · have hqe : q' = q.mine x.i n tag := by rw [hq', if_pos hown]
            have dk : decide (0 < q.own) = true := decide_eq_true hown
            have x5 := HX.out.1.cell 5
            have x7 := HX.out.1.cell 7
            have x8 := HX.out.1.cell 8
            have x9 := HX.out.1.cell 9
            have x12 := HX.out.1.cell 12
            have xf := HX.out.1.fz
            simp only [CaV.cells, List.getElem?_toArray, List.getElem?_cons_succ, List.getElem?_cons_zero] at x5 x7 x8 x9 x12
            clear hq' hown
            rw [dk]
            go_wp2_with fail
            refine wp_region_held_drew (S := fun W' => W'.cell? ⟨w.heap.size, 0, none⟩ = some (.int .u64 x.i)) (by kernel_rfl) HS0.out (fun hHeld => ?_)
            refine wpAnyH_take (i := 0) (oi := _) (v := ?v1) rfl (by kernel_rfl) (by kernel_rfl) (by kernel_rfl) (fun _ _ _ h => h) (Or.inl ⟨by rfl, ?h1⟩) hHeld ?r1
            case h1 => (intro w hSw; (try dsimp only at hSw); go_simp; try with_reducible rfl)
            try simp only [List.getElem_toArray, List.getElem_cons_succ, List.getElem_cons_zero, Act.put, List.setIfInBounds_toArray, List.set_cons_zero, List.set_cons_succ]
            refine wpAnyH_take (i := 1) (oi := _) (v := ?v2) rfl (by kernel_rfl) (by kernel_rfl) (by kernel_rfl) (fun _ _ _ h => h) (Or.inl ⟨by rfl, ?h2⟩) hHeld ?r2
            case h2 => (intro w hSw; (try dsimp only at hSw); go_simp; try with_reducible rfl)
            try simp only [List.getElem_toArray, List.getElem_cons_succ, List.getElem_cons_zero, Act.put, List.setIfInBounds_toArray, List.set_cons_zero, List.set_cons_succ]
            refine wpAnyH_take (i := 2) (oi := _) (v := ?v3) rfl (by kernel_rfl) (by kernel_rfl) (by kernel_rfl) (fun _ _ _ h => h) (Or.inl ⟨by rfl, ?h3⟩) hHeld ?r3
            case h3 => (intro w hSw; (try dsimp only at hSw); go_simp; try with_reducible rfl)
            try simp only [List.getElem_toArray, List.getElem_cons_succ, List.getElem_cons_zero, Act.put, List.setIfInBounds_toArray, List.set_cons_zero, List.set_cons_succ]
            refine wpAnyH_take (i := 3) (oi := _) (v := ?v4) rfl (by kernel_rfl) (by kernel_rfl) (by kernel_rfl) (fun _ _ _ h => h) (Or.inl ⟨by rfl, ?h4⟩) hHeld ?r4
            case h4 => (intro w hSw; (try dsimp only at hSw); go_simp; try with_reducible rfl)
            try simp only [List.getElem_toArray, List.getElem_cons_succ, List.getElem_cons_zero, Act.put, List.setIfInBounds_toArray, List.set_cons_zero, List.set_cons_succ]
            refine wpAnyH_take (i := 4) (oi := _) (v := ?v5) rfl (by kernel_rfl) (by kernel_rfl) (by kernel_rfl) (fun _ _ _ h => h) (Or.inl ⟨by rfl, ?h5⟩) hHeld ?r5
            case h5 => (intro w hSw; (try dsimp only at hSw); go_simp; try with_reducible rfl)
            try simp only [List.getElem_toArray, List.getElem_cons_succ, List.getElem_cons_zero, Act.put, List.setIfInBounds_toArray, List.set_cons_zero, List.set_cons_succ]
            refine wpAnyH_take (i := 5) (oi := _) (v := ?v6) rfl (by kernel_rfl) (by kernel_rfl) (by kernel_rfl) (fun _ _ _ h => h) (Or.inl ⟨by rfl, ?h6⟩) hHeld ?r6
            case h6 => (intro w hSw; (try dsimp only at hSw); go_simp; try with_reducible rfl)
            try simp only [List.getElem_toArray, List.getElem_cons_succ, List.getElem_cons_zero, Act.put, List.setIfInBounds_toArray, List.set_cons_zero, List.set_cons_succ]
            refine wpAnyH_take (i := 6) (oi := _) (v := ?v7) rfl (by kernel_rfl) (by kernel_rfl) (by kernel_rfl) (fun _ _ _ h => h) (Or.inl ⟨by rfl, ?h7⟩) hHeld ?r7
            case h7 => (intro w hSw; (try dsimp only at hSw); go_simp; try with_reducible rfl)
            try simp only [List.getElem_toArray, List.getElem_cons_succ, List.getElem_cons_zero, Act.put, List.setIfInBounds_toArray, List.set_cons_zero, List.set_cons_succ]
            refine wpAnyH_take (i := 7) (oi := _) (v := ?v8) rfl (by kernel_rfl) (by kernel_rfl) (by kernel_rfl) (fun _ _ _ h => h) (Or.inl ⟨by rfl, ?h8⟩) hHeld ?r8
            case h8 => (intro w hSw; (try dsimp only at hSw); go_simp; try with_reducible rfl)
            try simp only [List.getElem_toArray, List.getElem_cons_succ, List.getElem_cons_zero, Act.put, List.setIfInBounds_toArray, List.set_cons_zero, List.set_cons_succ]
            refine wpAnyH_ready (rs := [8]) (by kernel_rfl) (by simp) ?_
            refine AllReadyH.cons rfl (fun K hK => ?_) ?_
            · go_simp
              refine hK.out _ _ ?_ (fun hHeld => ?_)
              · (have hne := HNE.out; have hh := HS0.out; simp [World.cell?_setCell_other, hne, hh])
              clear hK K
              refine wpAnyH_take (i := 9) (oi := _) (v := ?v9) rfl (by kernel_rfl) (by kernel_rfl) (by kernel_rfl) (fun _ _ _ h => h) (Or.inl ⟨by rfl, ?h9⟩) hHeld ?r9
              case h9 => (intro w hSw; (try dsimp only at hSw); go_simp; try with_reducible rfl)
              try simp only [List.getElem_toArray, List.getElem_cons_succ, List.getElem_cons_zero, Act.put, List.setIfInBounds_toArray, List.set_cons_zero, List.set_cons_succ]
              refine wpAnyH_take (i := 10) (oi := _) (v := ?v10) rfl (by kernel_rfl) (by kernel_rfl) (by kernel_rfl) (fun _ _ _ h => h) (Or.inl ⟨by rfl, ?h10⟩) hHeld ?r10
              case h10 => (intro w hSw; (try dsimp only at hSw); go_simp; try with_reducible rfl)
              try simp only [List.getElem_toArray, List.getElem_cons_succ, List.getElem_cons_zero, Act.put, List.setIfInBounds_toArray, List.set_cons_zero, List.set_cons_succ]
              refine wpAnyH_ready (rs := [11]) (by kernel_rfl) (by simp) ?_
              refine AllReadyH.cons rfl (fun K hK => ?_) ?_
              · go_simp
                refine hK.out _ _ ?_ (fun hHeld => ?_)
                · (have hne := HNE.out; have hh := HS0.out; simp [World.cell?_setCell_other, hne, hh])
                clear hK K
                refine wpAnyH_take (i := 12) (oi := _) (v := ?v11) rfl (by kernel_rfl) (by kernel_rfl) (by kernel_rfl) (fun _ _ _ h => h) (Or.inl ⟨by rfl, ?h11⟩) hHeld ?r11
                case h11 => (intro w hSw; (try dsimp only at hSw); go_simp; try with_reducible rfl)
                try simp only [List.getElem_toArray, List.getElem_cons_succ, List.getElem_cons_zero, Act.put, List.setIfInBounds_toArray, List.set_cons_zero, List.set_cons_succ]
                refine wpAnyH_take (i := 13) (oi := _) (v := ?v12) rfl (by kernel_rfl) (by kernel_rfl) (by kernel_rfl) (fun _ _ _ h => h) (Or.inl ⟨by rfl, ?h12⟩) hHeld ?r12
                case h12 => (intro w hSw; (try dsimp only at hSw); go_simp; try with_reducible rfl)
                try simp only [List.getElem_toArray, List.getElem_cons_succ, List.getElem_cons_zero, Act.put, List.setIfInBounds_toArray, List.set_cons_zero, List.set_cons_succ]
                refine wpAnyH_ready (rs := [14]) (by kernel_rfl) (by simp) ?_
                refine AllReadyH.cons rfl (fun K hK => ?_) ?_
                · go_simp
                  refine hK.out _ _ ?_ (fun hHeld => ?_)
                  · (have hne := HNE.out; have hh := HS0.out; simp [World.cell?_setCell_other, hne, hh])
                  clear hK K
                  refine wpAnyH_take (i := 15) (oi := _) (v := ?v13) rfl (by kernel_rfl) (by kernel_rfl) (by kernel_rfl) (fun _ _ _ h => h) (Or.inl ⟨by rfl, ?h13⟩) hHeld ?r13
                  case h13 => (intro w hSw; (try dsimp only at hSw); go_simp; try with_reducible rfl)
                  try simp only [List.getElem_toArray, List.getElem_cons_succ, List.getElem_cons_zero, Act.put, List.setIfInBounds_toArray, List.set_cons_zero, List.set_cons_succ]
                  refine wpAnyH_take (i := 16) (oi := _) (v := ?v14) rfl (by kernel_rfl) (by kernel_rfl) (by kernel_rfl) (fun _ _ _ h => h) (Or.inl ⟨by rfl, ?h14⟩) hHeld ?r14
                  case h14 => (intro w hSw; (try dsimp only at hSw); go_simp; try with_reducible rfl)
                  try simp only [List.getElem_toArray, List.getElem_cons_succ, List.getElem_cons_zero, Act.put, List.setIfInBounds_toArray, List.set_cons_zero, List.set_cons_succ]
                  refine wpAnyH_ready (rs := [17]) (by kernel_rfl) (by simp) ?_
                  refine AllReadyH.cons rfl (fun K hK => ?_) ?_
                  · go_simp
                    refine hK.out _ _ ?_ (fun hHeld => ?_)
                    · (have hne := HNE.out; have hh := HS0.out; simp [World.cell?_setCell_other, hne, hh])
                    clear hK K
                    refine wpAnyH_take (i := 18) (oi := _) (v := ?v15) rfl (by kernel_rfl) (by kernel_rfl) (by kernel_rfl) (fun _ _ _ h => h) (Or.inl ⟨by rfl, ?h15⟩) hHeld ?r15
                    case h15 => (intro w hSw; (try dsimp only at hSw); go_simp; try with_reducible rfl)
                    try simp only [List.getElem_toArray, List.getElem_cons_succ, List.getElem_cons_zero, Act.put, List.setIfInBounds_toArray, List.set_cons_zero, List.set_cons_succ]
                    refine wpAnyH_take (i := 19) (oi := _) (v := ?v16) rfl (by kernel_rfl) (by kernel_rfl) (by kernel_rfl) (fun _ _ _ h => h) (Or.inl ⟨by rfl, ?h16⟩) hHeld ?r16
                    case h16 => (intro w hSw; (try dsimp only at hSw); go_simp; try with_reducible rfl)
                    try simp only [List.getElem_toArray, List.getElem_cons_succ, List.getElem_cons_zero, Act.put, List.setIfInBounds_toArray, List.set_cons_zero, List.set_cons_succ]
                    refine wpAnyH_ready (rs := [20]) (by kernel_rfl) (by simp) ?_
                    refine AllReadyH.cons rfl (fun K hK => ?_) ?_
                    · go_simp
                      refine hK.out _ _ ?_ (fun hHeld => ?_)
                      · (have hne := HNE.out; have hh := HS0.out; simp [World.cell?_setCell_other, hne, hh])
                      clear hK K
                      refine wpAnyH_done (by kernel_rfl) ?_ _
                      exact HKK12.out _ _ _ _ _ _ _ _ _ _ _ _ _ _ _ _ _ _ _ _ _ _ _ _ _ _ _ _ _ _ _ _ _ _ _ _ _ _ _ _ _ _ _ _ _ _ _ _ _ _ _ _ _ _ _ _ _ _ _ _ _ _ _ _ _ _ _ _ _ _ _ _ _ _ _ _ _ _ _ _ _ _ _ _ _ _ _ _ _ _ _ _ _ _ _ _ _ _ _ _ _ _ _ _ _ _ _ _ _ _ _ _ _ _ _ _ _ _ _ _ _ _ _ _ _ _ _ _ _ _ _ _ _ _ _ _ _ _ (by rw [hqe]; exact ((((HX.out.1.set 5 _).set 7 _).set 8 _).set 9 _).set 12 _) (own_below HX.out.2 (by omega))
                    exact AllReadyH.nil
                  exact AllReadyH.nil
                exact AllReadyH.nil
              exact AllReadyH.nil
            exact AllReadyH.nil
          · have hqe : q' = q := by rw [hq', if_neg hown]
            have dk : decide (0 < q.own) = false := decide_eq_false hown
            clear hq' hown
            rw [dk]
            go_wp2_with fail
            exact HKK12.out _ _ _ _ _ _ _ _ _ _ _ _ _ _ _ _ _ _ _ _ _ _ _ _ _ _ _ _ _ _ _ _ _ _ _ _ _ _ _ _ _ _ _ _ _ _ _ _ _ _ _ _ _ _ _ _ _ _ _ _ _ _ _ _ _ _ _ _ _ _ _ _ _ _ _ _ _ _ _ _ _ _ _ _ _ _ _ _ _ _ _ _ _ _ _ _ _ _ _ _ _ _ _ _ _ _ _ _ _ _ _ _ _ _ _ _ _ _ _ _ _ _ _ _ _ _ _ _ _ _ _ _ _ _ _ _ _ _ (by rw [hqe]; exact HX.out.1) HX.out.2
        · obtain rfl : i = N := by omega
          have HAW2 := Lib.hid (HAW.out wr)
          have HBW := Lib.hid HR.out.1.1.1.bel
          go_wp2_with fail
          refine HAW2.out.mono ?_
          rintro e w3 ⟨rfl, hb3⟩
          have HB3 := Lib.hid (HBW.out.trans (hb3.mono HBW.out.size))
          clear hb3
          go_wp2
          go_ret
          exact ⟨rfl, HB3.out⟩
    · have HB2 := Lib.hid (HB1.out.2.trans (hb2.mono HB1.out.2.size))
      clear hb2 hbad b0 b1 b2 b3 b4 b5 HNE
      go_wp2_with fail
      refine (HAW.out _).mono ?_
      rintro e w3 ⟨rfl, hb3⟩
      have HB3 := Lib.hid ((HB2.out.alloc HB2.out.size (.cells #[.int .u64 0, .int .u64 0, .slice none 0 0, .int .i64 0, .int .u64 0, .int .u64 0, .int .i64 0, .slice none 0 0] 32)).trans (hb3.mono (HB2.out.alloc HB2.out.size _).size))
      clear hb3
      go_wp2
      go_ret
      exact ⟨rfl, HB3.out⟩
end Go.Proofs.Ytpihogkhfmijcaa
