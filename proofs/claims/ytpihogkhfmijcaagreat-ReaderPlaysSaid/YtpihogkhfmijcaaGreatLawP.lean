/- ReaderPlays: the law. -/
import Derived.Test.YtpihogkhfmijcaaGreatPlaysM
namespace Go.Proofs.YtpihogkhfmijcaaGreat
open Go.RowKit Go.Maps Go.Shelf
set_option linter.unusedSimpArgs false
set_option maxRecDepth 100000 in
set_option maxHeartbeats 16000000 in
theorem plays_any (x : LgV) (n tag now : Int) (a : Option Addr) (c : Nat) (L : List CaV) (w : World) (hx : FsAt w (.slice x.a x.fs.length x.c) x.fs) (hi : u64ok x.i) (hn : u64ok n) (ht : u64ok tag) (hw : u64ok now) (hL : CasAt w (.slice a L.length c) L) :
    Calls Tryz.prog 3 #[x.val, .int .u64 n, .int .u64 tag, .int .u64 now, .slice a L.length c] w fun e w' => e = .returned (.bool true) ∧ Below w.heap.size w w' := by
  obtain ⟨m0, Lq, er, hT⟩ := Told.any x n tag now
  have HT := Lib.hid hT
  have HB := Lib.hid (Go.Joins.below_alloc1 w (.cells x.arr 25))
  have HH := Lib.hid (heavy_any x a c L _ (hx.below HB.out) (hL.below HB.out))
  have HAW := Lib.hid (fun W => awake_any W)
  have HNW := Lib.hid (fun (hlt : Light x L) W (hW : Below w.heap.size w W) => (New_any x n tag now W (hx.below hW) (small_frags hlt.2.1) hi hn ht hw).mono (fun _ _ h => NPost.of hT h))
  have HDW := Lib.hid (fun (hlt : Light x L) W (hW : Below w.heap.size w W) => (dnew_any x n tag now W (hx.below hW) (small_frags hlt.2.1) hi hn ht hw).mono (fun _ _ h => NPost.of hT h))
  have HLL := Lib.hid hL
  have HU := Lib.hid (And.intro hi (And.intro hn (And.intro ht hw)))
  have HBX := Lib.hid (fun Z (hZ : Below (w.alloc (.cells x.arr 25)).heap.size (w.alloc (.cells x.arr 25)) Z) => (BoxC.new w 25 x.arr).below hZ)
  obtain ⟨N, hN⟩ : ∃ N, L.length = N := ⟨_, rfl⟩
  have HN := Lib.hid hN
  rw [hN] at HH HLL ⊢
  simp only [LgV.val, LgV.arr] at HH HNW HDW ⊢
  simp only [LgV.arr] at HB HBX
  clear hx hi hn ht hw hL hN hT
  go_enter Tryz.func3, Tryz.ntmps3
  go_wp2_with fail
  refine HH.out.mono ?_
  rintro e w1 ⟨R, rfl, hR, hb1⟩
  have HR := Lib.hid hR
  have HB1 := Lib.hid (And.intro (HBX.out w1 hb1) (HB.out.trans (hb1.mono HB.out.size)))
  clear hR hb1 HH HBX HB
  cases R with
  | true =>
    go_wp2_with fail
    refine (HAW.out _).mono ?_
    rintro e w2 ⟨rfl, hb2⟩
    have HB2 := Lib.hid (HB1.out.2.trans (hb2.mono HB1.out.2.size))
    clear hb2
    go_wp2
    go_ret
    exact ⟨rfl, HB2.out⟩
  | false =>
    have HLT := Lib.hid (HR.out rfl)
    have hN200 : N ≤ 200 := by have := HLT.out.1; have := HN.out; omega
    have HNE := Lib.hid (HNW.out HLT.out w1 HB1.out.2)
    have HDE := Lib.hid (HDW.out HLT.out)
    obtain ⟨b0, b1, b2, b3, b4, b5⟩ : w1.cell? ⟨w.heap.size, 0, none⟩ = some (.int .u64 x.i) ∧ w1.cell? ⟨w.heap.size, 1, none⟩ = some (.int .i64 x.W) ∧ w1.cell? ⟨w.heap.size, 2, none⟩ = some (.int .i64 x.A) ∧ w1.cell? ⟨w.heap.size, 3, none⟩ = some (.slice x.a x.fs.length x.c) ∧ w1.cell? ⟨w.heap.size, 4, none⟩ = some (.int .i64 x.cl) ∧ w1.cell? ⟨w.heap.size, 5, none⟩ = some (.int .u64 x.last) := ⟨HB1.out.1.cell 0, HB1.out.1.cell 1, HB1.out.1.cell 2, HB1.out.1.cell 3, HB1.out.1.cell 4, HB1.out.1.cell 5⟩
    clear HNW HDW HR
    go_wp2_with fail
    refine HNE.out.mono ?_
    rintro e w2 ⟨y0, ra, rc, rfl, p1, p2, p3, p4, -⟩
    obtain ⟨g, hg⟩ : ∃ g, w2.heap.size = g := ⟨_, rfl⟩
    have hS := St.new (w0 := w) (HB1.out.2.trans (p4.mono HB1.out.2.size)) p2 p1
    have hBZ := (HB1.out.1.below p4).alloc (.cells y0.cs.toArray 32)
    have hQ := QsAt.below p3 (Go.Joins.below_alloc1 w2 (.cells y0.cs.toArray 32))
    have hsy := Sep.of_ok p2 (Nat.le_of_eq hg)
    have hwg : w.heap.size < g := by have := (HB1.out.1.below p4).lt; omega
    rw [hg] at hS
    clear b0 b1 b2 b3 b4 b5 HNE
    go_upto_region 4 with fail
    refine via (fun X => (St w X g y0 m0 ∧ Sep y0 g ∧ w.heap.size < g) ∧ BoxC X w.heap.size 25 #[.int .u64 x.i, .int .i64 x.W, .int .i64 x.A, .slice x.a x.fs.length x.c, .int .i64 x.cl, .int .u64 x.last] ∧ QsAt X (.slice ra Lq.length rc) Lq) ⟨⟨hS, hsy, hwg⟩, hBZ, hQ⟩ (fun X hX => ?_)
    have HX := Lib.hid hX
    have b0 := hX.2.1.cell 0
    have b1 := hX.2.1.cell 1
    have b2 := hX.2.1.cell 2
    have b3 := hX.2.1.cell 3
    have b4 := hX.2.1.cell 4
    have b5 := hX.2.1.cell 5
    simp only [List.getElem?_toArray, List.getElem?_cons_succ, List.getElem?_cons_zero] at b0 b1 b2 b3 b4 b5
    clear hS hBZ hQ hsy hwg hX p1 p2 p3 p4 hg
    go_wp2_with fail
    refine (HDE.out X HX.out.1.1.bel).mono ?_
    rintro e w3 ⟨z0, rb, rcb, rfl, p1, p2, p3, p4, p5⟩
    obtain ⟨h, hh⟩ : ∃ h, w3.heap.size = h := ⟨_, rfl⟩
    have hal := p4.trans ((Go.Joins.below_alloc1 w3 (.cells z0.cs.toArray 32)).mono p4.size)
    have hgh : g < h := by have := (HX.out.1.1.box.below p4).lt; omega
    have hS := St.new (w0 := w) (HX.out.1.1.bel.trans (p4.mono HX.out.1.1.bel.size)) p2 p1
    rw [hh] at hS
    have hP : PInv x w (w3.alloc (.cells z0.cs.toArray 32)) g h y0 z0 m0 := ⟨HX.out.1.1.below hal, hS, HX.out.2.1.below hal, ⟨⟨HX.out.1.2.1, Sep.of_ok (HX.out.1.1.ok.below p4) (Nat.le_of_eq hh)⟩, (fun b e => by have hl := HX.out.1.1.box.lt; rcases e with ⟨e, -⟩ | ⟨e, -⟩; exact (fun he => by have := p5 b (.inl e); omega); exact (fun he => by have := p5 b (.inr e); omega)), Sep.of_ok p2 (Nat.le_of_eq hh)⟩, by omega, HX.out.1.2.2, by have := HX.out.1.2.2; omega⟩
    have hQa := QsAt.below HX.out.2.2 hal
    have hQb := QsAt.below p3 (Go.Joins.below_alloc1 w3 (.cells z0.cs.toArray 32))
    clear b0 b1 b2 b3 b4 b5 HDE
    go_upto_region 5 with fail
    refine via (fun Z => PInv x w Z g h y0 z0 m0 ∧ QsAt Z (.slice ra Lq.length rc) Lq ∧ QsAt Z (.slice rb Lq.length rcb) Lq) ⟨hP, hQa, hQb⟩ (fun Z hZ => ?_)
    have HZ := Lib.hid hZ
    have HQL := Lib.hid (show Lq.length ≤ 1000 from by
      rcases HT.out with ⟨-, -, -, e⟩ | ⟨-, -, -, e⟩ <;> rw [e]
      · exact Nat.le_trans (show _ ≤ 1 from Nat.le_refl _) (by decide)
      · exact Nat.zero_le _)
    have HSR := Lib.hid (sreqs_any ra rb rc rcb Lq Z hZ.2.1 hZ.2.2 HQL.out)
    clear hal hgh hS hP hQa hQb p1 p2 p3 p4 p5 hh hZ HX
    go_wp2_with fail
    refine HSR.out.mono ?_
    rintro e w4 ⟨rfl, hb4⟩
    have HP4 := Lib.hid (HZ.out.1.below hb4)
    have HSM := Lib.hid (fsame_any y0 z0 w4 HP4.out.fy.ok HP4.out.fz.ok)
    obtain ⟨c0, c1, c2, c3, c4, c5, c6, c7⟩ := HP4.out.fy.c8
    obtain ⟨e0, e1, e2, e3, e4, e5, e6, e7⟩ := HP4.out.fz.c8
    clear hb4 HSR HZ
    go_wp2_with fail
    refine HSM.out.mono ?_
    rintro e w5 ⟨R, rfl, hR, hb5⟩
    have hRt : R = true := hR.2 (HP4.out.fy.m.trans HP4.out.fz.m.symm)
    subst hRt
    have HP5 := Lib.hid (HP4.out.below hb5)
    clear hR hb5 HSM HP4 c0 c1 c2 c3 c4 c5 c6 c7 e0 e1 e2 e3 e4 e5 e6 e7
    rcases HT.out with ⟨hok, rfl, hm0, -⟩ | ⟨-, rfl, -, -⟩
    · have hIn := new_inv (tag := tag) (now := now) hok
      rw [← hm0] at hIn
      have HP0 := Lib.hid (And.intro HP5.out hIn)
      have HOK := Lib.hid hok
      clear hok hm0 hIn HP5
      go_wp2_with fail
      go_loopw [12, 15, 17, 18, 19, 20, 21] (fun _ _ vi _ _ _ _ wr => ∃ i : Nat, i ≤ N ∧ vi = .int .i64 (i : Nat) ∧ ∃ y z m, Hid (PInv x w wr g h y z m ∧ FInv n m)) (fun _ _ vi _ _ _ _ _ => N - (intOf vi).toNat)
      case atStart => exact ⟨0, Nat.zero_le _, rfl, _, _, _, HP0⟩
      case round =>
        obtain ⟨i, hi, rfl, y, z, m, HR⟩ := hrel
        clear HP0
        by_cases hlt : i < N
        · have hltz : (i : Int) < (N : Int) := by omega
          obtain ⟨q, hq⟩ : ∃ q, L[i]? = some q := ⟨_, List.getElem?_eq_getElem (by rw [HN.out]; exact hlt)⟩
          obtain ⟨b, off, he, hbl, hqo, hc⟩ := RowAt.cell (HLL.out.below HR.out.1.fy.bel) hq
          cases he
          have HQO := Lib.hid hqo
          have HQ := Lib.hid hq
          have HCE := Lib.hid (fun r (hr : r < 18) => hc r hr wr (Below.refl _ _))
          clear hc hqo hbl hq
          obtain ⟨gc, hgc⟩ : ∃ gc, wr.heap.size = gc := ⟨_, rfl⟩
          obtain ⟨q', hq'⟩ : ∃ q', q' = (if 0 < q.own then q.mine x.i n tag else q) := ⟨_, rfl⟩
          have hz0 : BoxC (wr.alloc (.cells zero42 44)) gc 44 zero42 := by rw [← hgc]; exact BoxC.new _ _ _
          have HZ0 := Lib.hid hz0
          have HBC := Lib.hid HR.out.1.box
          have HRG := Lib.hid (show World.rangeAt wr b (off + i * 18) q.cells from fun j v hv => by
            have hjl : j < 18 := (List.getElem?_eq_some_iff.1 hv).1
            rw [← hv]
            exact HCE.out j hjl)
          have HTH := Lib.hid (show World.there (wr.alloc (.cells zero42 44)) wr.heap.size 0 q.cells.toArray.size from fun j hj => by rw [hgc]; exact ⟨by rw [Nat.zero_add, hz0.cell]; exact Option.isSome_iff_exists.2 ⟨_, Array.getElem?_eq_getElem (show j < zero42.size from hj)⟩, hz0.fz _⟩)
          clear hz0
          unfold zero42 at HTH HZ0
          go_upto_region 13 with (first | (refine wpList_load_mid rfl 44 _ rfl b (off + i * 18) (by simp [Act.eval]) q.cells _ HRG.out Tryz.underlying44 rfl (by kernel_rfl) ?_) | (refine wpList_store_mid rfl 44 _ _ rfl wr.heap.size 0 q.cells.toArray (by simp [Act.eval]) (by simp [Act.eval]) HTH.out (by kernel_rfl) (all_oneCell_toArray (fun v hv => cas_one q v hv)) ?_))
          refine via (fun X => BoxC X gc 44 q.cells.toArray ∧ Below wr.heap.size wr X) ⟨by rw [hgc]; exact HZ0.out.full q.cells rfl, setCells_below wr.heap.size (Nat.le_refl _) _ 0 (Go.Joins.below_alloc1 _ _)⟩ (fun X hX => ?_)
          have HX := Lib.hid hX
          have x1 := hX.1.cell 1
          simp only [CaV.cells, List.getElem?_toArray, List.getElem?_cons_succ, List.getElem?_cons_zero] at x1
          have hX0 : X.cell? ⟨w.heap.size, 0, none⟩ = some (.int .u64 x.i) := (HBC.out.below hX.2).cell 0
          have HS0 := Lib.hid hX0
          clear hX HZ0 HTH HRG
          have HQW := Lib.hid (show q'.ok w ∧ LightC q' from by
            have h1 := RowAt.each HLL.out q (List.mem_of_getElem? HQ.out)
            have h2 := HLT.out.2.2 q (List.mem_of_getElem? HQ.out)
            rw [hq']
            split
            · exact ⟨⟨h1.what, h1.own, h1.now, ⟨h1.r.frm, h1.r.bd⟩, h1.l⟩, h2⟩
            · exact ⟨h1, h2⟩)
          go_upto_if 74 with fail
          rename_i K14 hK14
          have HNE := Lib.hid (show w.heap.size ≠ gc by have := HBC.out.lt; omega)
          have HKK14 : Hid (∀ (v62 v63 v64 v65 v66 v67 v68 v69 v70 v71 v72 v73 v74 v75 v76 v77 v78 v79 v80 v81 v82 v83 v84 v85 v86 v87 v88 v89 v90 v91 v92 v93 v94 v95 v96 v97 v98 v99 v100 v101 v102 v103 v104 v105 v106 v107 v108 v109 v110 v111 v112 v113 v114 v115 v116 v117 v118 v119 v120 v121 v122 v123 v124 v125 v126 v127 v128 v129 v130 v131 v132 v133 v134 v135 v136 v137 v138 v139 v140 v141 v142 v143 v144 v145 v146 v147 v148 v149 v150 v151 v152 v153 v154 v155 v156 v157 v158 v159 v160 v161 v162 v163 v164 v165 v166 v167 v168 v169 v170 v171 v172 v173 v174 v175 v176 v177 v178 v179 v180 v181 v182 v183 v184 v185 v186 : Value) (wx : World), BoxC wx gc 44 q'.cells.toArray → Below wr.heap.size wr wx → K14 { tmps := #[.agg #[.int .u64 x.i, .int .i64 x.W, .int .i64 x.A, .slice x.a x.fs.length x.c, .int .i64 x.cl, .int .u64 x.last], .int .u64 n, .int .u64 tag, .int .u64 now, .slice (some ⟨b, off, none⟩) N c, .pointer (some ⟨w.heap.size, 0, none⟩), undef, undef, undef, undef, u10, .pointer (some ⟨g, 0, none⟩), u12, .int .i64 0, .pointer (some ⟨h, 0, none⟩), u15, .int .i64 0, .int .i64 (i : Nat), .pointer (some ⟨gc, 0, none⟩), u19, u20, u21, .agg #[.int .u64 x.i, .int .i64 x.W, .int .i64 x.A, .slice x.a x.fs.length x.c, .int .i64 x.cl, .int .u64 x.last], .slice (some ⟨b, off, none⟩) N c, .bool false, undef, .tuple #[y0.val, .slice ra Lq.length rc, .int .i64 0], .agg #[.int .u64 x.i, .int .i64 x.W, .int .i64 x.A, .slice x.a x.fs.length x.c, .int .i64 x.cl, .int .u64 x.last], .int .u64 n, .int .u64 tag, .int .u64 now, .tuple #[y0.val, .slice ra Lq.length rc, .int .i64 0], y0.val, .slice ra Lq.length rc, .int .i64 0, .tuple #[z0.val, .slice rb Lq.length rcb, .int .i64 0], .agg #[.int .u64 x.i, .int .i64 x.W, .int .i64 x.A, .slice x.a x.fs.length x.c, .int .i64 x.cl, .int .u64 x.last], .int .u64 n, .int .u64 tag, .int .u64 now, .tuple #[z0.val, .slice rb Lq.length rcb, .int .i64 0], z0.val, .slice rb Lq.length rcb, .int .i64 0, .int .i64 0, .int .i64 0, .bool false, .bool false, .slice ra Lq.length rc, .slice rb Lq.length rcb, .bool true, .bool false, .bool false, .bool false, .agg #[.int .u64 y0.id, .int .u64 y0.n, .slice y0.sa y0.set.length y0.sc, .int .i64 y0.at', .int .u64 y0.since, .int .u64 y0.tag, .int .i64 y0.done, .slice y0.ba y0.body.length y0.bc], .agg #[.int .u64 z0.id, .int .u64 z0.n, .slice z0.sa z0.set.length z0.sc, .int .i64 z0.at', .int .u64 z0.since, .int .u64 z0.tag, .int .i64 z0.done, .slice z0.ba z0.body.length z0.bc], .bool true, .bool false, .bool false, .int .i64 0, .bool false, undef, v62, v63, v64, v65, v66, v67, v68, v69, v70, v71, v72, v73, v74, v75, v76, v77, v78, v79, v80, v81, v82, v83, v84, v85, v86, v87, v88, v89, v90, v91, v92, v93, v94, v95, v96, v97, v98, v99, v100, v101, v102, v103, v104, v105, v106, v107, v108, v109, v110, v111, v112, v113, v114, v115, v116, v117, v118, v119, v120, v121, v122, v123, v124, v125, v126, v127, v128, v129, v130, v131, v132, v133, v134, v135, v136, v137, v138, v139, v140, v141, v142, v143, v144, v145, v146, v147, v148, v149, v150, v151, v152, v153, v154, v155, v156, v157, v158, v159, v160, v161, v162, v163, v164, v165, v166, v167, v168, v169, v170, v171, v172, v173, v174, v175, v176, v177, v178, v179, v180, v181, v182, v183, v184, v185, v186, undef], defers := [] } wx) := by
            intro v62 v63 v64 v65 v66 v67 v68 v69 v70 v71 v72 v73 v74 v75 v76 v77 v78 v79 v80 v81 v82 v83 v84 v85 v86 v87 v88 v89 v90 v91 v92 v93 v94 v95 v96 v97 v98 v99 v100 v101 v102 v103 v104 v105 v106 v107 v108 v109 v110 v111 v112 v113 v114 v115 v116 v117 v118 v119 v120 v121 v122 v123 v124 v125 v126 v127 v128 v129 v130 v131 v132 v133 v134 v135 v136 v137 v138 v139 v140 v141 v142 v143 v144 v145 v146 v147 v148 v149 v150 v151 v152 v153 v154 v155 v156 v157 v158 v159 v160 v161 v162 v163 v164 v165 v166 v167 v168 v169 v170 v171 v172 v173 v174 v175 v176 v177 v178 v179 v180 v181 v182 v183 v184 v185 v186 wx hcb hbx
            refine hK14 _ _ ?_
            clear hK14 hq'
            have hP := HR.out.1.below hbx
            have hibd := HR.out.2.inn
            have hbod := HR.out.2.body
            have hym := hP.fy.m
            have HCP := Lib.hid (dcopy_any y wx hP.fy.ok (by have := hibd.len; rw [← hym] at this; have : y.set.length ≤ 1000 := this; omega) (by rw [← hym] at hbod; have : y.body.length ≤ 5000 := hbod; omega))
            have HP := Lib.hid (And.intro hP (And.intro hcb hbx))
            obtain ⟨c0, c1, c2, c3, c4, c5, c6, c7⟩ := hP.fy.c8
            clear hP hcb hbx hibd hbod hym HX x1 hX0 HS0
            go_wp2_with fail
            refine HCP.out.mono ?_
            rintro e w6 ⟨u, rfl, hu⟩
            obtain ⟨gw, hgw⟩ : ∃ gw, w6.heap.size = gw := ⟨_, rfl⟩
            have hal := hu.bel.trans ((Go.Joins.below_alloc1 w6 (.cells u.cs.toArray 32)).mono hu.bel.size)
            have hbw : BoxC (w6.alloc (.cells u.cs.toArray 32)) gw 32 u.cs.toArray := by rw [← hgw]; exact BoxC.new _ _ _
            have hlt : gc < gw := by have := (HP.out.2.1.below hu.bel).lt; omega
            have hsu : ∀ k, k ≤ gc ∨ k = gw → Sep u k := fun k hk b e => by
              have h0 := HP.out.2.1.lt
              rcases e with ⟨e, -⟩ | ⟨e, -⟩
              · have h1 := hu.sn b e
                have h2 := hu.old.1 b e
                omega
              · have h1 := hu.bn b e
                have h2 := hu.old.2 b e
                omega
            clear c0 c1 c2 c3 c4 c5 c6 c7 HCP
            go_upto_region 16 with fail
            refine via (fun V => (PInv x w V g h y z m ∧ BoxC V gc 44 q'.cells.toArray ∧ Below wr.heap.size wr V) ∧ BoxC V gw 32 u.cs.toArray ∧ u.ok V ∧ u.m = y.m ∧ Below wx.heap.size wx V) ⟨⟨HP.out.1.below hal, HP.out.2.1.below hal, HP.out.2.2.trans (hal.mono HP.out.2.2.size)⟩, hbw, hu.ok.below (Go.Joins.below_alloc1 _ _), hu.m, hal⟩ (fun V hV => ?_)
            have HV := Lib.hid hV
            have HSU := Lib.hid (And.intro hsu hlt)
            clear hV hsu hlt hbw hal hu hgw
            have HS16 := Lib.hid (show ∀ Z, Below V.heap.size V Z → (Z.cell? ⟨g, 0, none⟩ = some (.int .u64 y.id) ∧ Z.cell? ⟨g, 1, none⟩ = some (.int .u64 y.n) ∧ Z.cell? ⟨g, 2, none⟩ = some (.slice y.sa y.set.length y.sc) ∧ Z.cell? ⟨g, 3, none⟩ = some (.int .i64 y.at') ∧ Z.cell? ⟨g, 4, none⟩ = some (.int .u64 y.since) ∧ Z.cell? ⟨g, 5, none⟩ = some (.int .u64 y.tag) ∧ Z.cell? ⟨g, 6, none⟩ = some (.int .i64 y.done) ∧ Z.cell? ⟨g, 7, none⟩ = some (.slice y.ba y.body.length y.bc)) ∧ Z.cell? ⟨h, 0, none⟩ = some (.int .u64 z.id) ∧ Z.cell? ⟨h, 1, none⟩ = some (.int .u64 z.n) ∧ Z.cell? ⟨h, 2, none⟩ = some (.slice z.sa z.set.length z.sc) ∧ Z.cell? ⟨h, 3, none⟩ = some (.int .i64 z.at') ∧ Z.cell? ⟨h, 4, none⟩ = some (.int .u64 z.since) ∧ Z.cell? ⟨h, 5, none⟩ = some (.int .u64 z.tag) ∧ Z.cell? ⟨h, 6, none⟩ = some (.int .i64 z.done) ∧ Z.cell? ⟨h, 7, none⟩ = some (.slice z.ba z.body.length z.bc) from fun Z hZ => ⟨(HV.out.1.1.fy.below hZ).c8, (HV.out.1.1.fz.below hZ).c8⟩)
            go_wp2_with fail
            go_region_held (fun Z => (Z.cell? ⟨g, 0, none⟩ = some (.int .u64 y.id) ∧ Z.cell? ⟨g, 1, none⟩ = some (.int .u64 y.n) ∧ Z.cell? ⟨g, 2, none⟩ = some (.slice y.sa y.set.length y.sc) ∧ Z.cell? ⟨g, 3, none⟩ = some (.int .i64 y.at') ∧ Z.cell? ⟨g, 4, none⟩ = some (.int .u64 y.since) ∧ Z.cell? ⟨g, 5, none⟩ = some (.int .u64 y.tag) ∧ Z.cell? ⟨g, 6, none⟩ = some (.int .i64 y.done) ∧ Z.cell? ⟨g, 7, none⟩ = some (.slice y.ba y.body.length y.bc)) ∧ Z.cell? ⟨h, 0, none⟩ = some (.int .u64 z.id) ∧ Z.cell? ⟨h, 1, none⟩ = some (.int .u64 z.n) ∧ Z.cell? ⟨h, 2, none⟩ = some (.slice z.sa z.set.length z.sc) ∧ Z.cell? ⟨h, 3, none⟩ = some (.int .i64 z.at') ∧ Z.cell? ⟨h, 4, none⟩ = some (.int .u64 z.since) ∧ Z.cell? ⟨h, 5, none⟩ = some (.int .u64 z.tag) ∧ Z.cell? ⟨h, 6, none⟩ = some (.int .i64 z.done) ∧ Z.cell? ⟨h, 7, none⟩ = some (.slice z.ba z.body.length z.bc)) ((refine HS16.out _ ?_; repeat' (first | (with_reducible exact Below.refl _ _) | (with_reducible exact Go.Joins.below_alloc1 _ _) | (with_reducible refine Below.drew ?_) | (with_reducible refine Below.alloc ?_ ?_ _) | (with_reducible refine Below.setCell ?_ ?_ _) | (with_reducible exact Nat.le_refl _) | exact (Go.Joins.below_alloc1 _ _).size | exact Nat.le_succ _ | (simp; done)))) (fail)
            all_goals go_upto_region 17 with fail
            · have hpn := pair_new V y.cs.toArray z.cs.toArray
              obtain ⟨gn, hga⟩ : ∃ k, V.heap.size = k := ⟨_, rfl⟩
              obtain ⟨gt, hgb⟩ : ∃ k, V.heap.size + 1 = k := ⟨_, rfl⟩
              rw [hgb, hga] at hpn
              rw [hgb, hga]
              have hSN := side_new HV.out.1.1 HV.out.1.2.1 HV.out.2.1 HV.out.2.2.1 (by rw [hga]; exact hpn.2) hpn.1.1 hpn.1.2 (by omega) (by omega) (by omega)
              have HNM := Lib.hid hSN.2
              refine via (fun Z => Side x w Z g h gc gw gn gt m q' y z u) hSN.1 (fun Z hZ => ?_)
              have HZ := Lib.hid hZ
              have HUM := Lib.hid (show u.m = m from HV.out.2.2.2.1.trans HZ.out.inv.fy.m)
              have HI := Lib.hid HR.out.2
              have HQ2 := Lib.hid (And.intro (HQW.out.1.below HZ.out.inv.fy.bel) HQW.out.2)
              have zq0 := hZ.call.cell 0
              simp only [CaV.cells, List.getElem?_toArray, List.getElem?_cons_succ, List.getElem?_cons_zero] at zq0
              obtain ⟨t5, ht5⟩ : ∃ t, q'.what.tmod 5 = t := ⟨_, rfl⟩
              have hlo : -5 < t5 := by rw [← ht5]; exact Int.lt_tmod_of_pos _ (by decide)
              have hhi : t5 < 5 := by rw [← ht5]; exact Int.tmod_lt_of_pos _ (by decide)
              have e1 : IntKind.i64.wrap (t5 + 5) = t5 + 5 := wrap_small _ (by omega) (by omega)
              obtain ⟨kd, hkd⟩ : ∃ k, (t5 + 5).tmod 5 = k := ⟨_, rfl⟩
              clear hZ hpn hSN hga hgb
              go_upto_block 2 with fail
              rename_i K26 hK26
              have HKK26 : Hid (∀ (v62 v63 v64 v65 v66 v67 v68 v69 v70 v71 v72 v73 v74 v75 v76 v77 v78 v79 v80 v81 v82 v83 v84 v85 v86 v87 v88 v89 v90 v91 v92 v93 v94 v95 v96 v97 v98 v99 v100 v101 v102 v103 v104 v105 v106 v107 v108 v109 v110 v111 v112 v113 v114 v115 v116 v117 v118 v119 v120 v121 v122 v123 v124 v125 v126 v127 v128 v129 v130 v131 v132 v133 v134 v135 v136 v137 v138 v139 v140 v141 v142 v143 v144 v145 v146 v147 v148 v149 v150 v151 v152 v153 v154 v155 v156 v157 v158 v159 v160 v161 v162 v163 v164 v165 v166 v167 v168 v169 v170 v171 v172 v173 v174 v175 v176 v177 v178 v179 v180 v181 v182 v183 v184 v185 v186 : Value) (ra2 rb2 : Option Addr) (rc2 rcb2 : Nat) (M : FeM × List RqM) (y2 z2 : FeV) (wz : World), Fin2 x n w wz g h gw gn gt m y z u y2 z2 ra2 rb2 rc2 rcb2 M → K26 { tmps := #[.agg #[.int .u64 x.i, .int .i64 x.W, .int .i64 x.A, .slice x.a x.fs.length x.c, .int .i64 x.cl, .int .u64 x.last], .int .u64 n, .int .u64 tag, .int .u64 now, .slice (some ⟨b, off, none⟩) N c, .pointer (some ⟨w.heap.size, 0, none⟩), undef, undef, undef, undef, u10, .pointer (some ⟨g, 0, none⟩), .slice ra2 M.2.length rc2, .int .i64 0, .pointer (some ⟨h, 0, none⟩), .slice rb2 M.2.length rcb2, .int .i64 0, .int .i64 (i : Nat), .pointer (some ⟨gc, 0, none⟩), .pointer (some ⟨gw, 0, none⟩), .pointer (some ⟨gn, 0, none⟩), .pointer (some ⟨gt, 0, none⟩), .agg #[.int .u64 x.i, .int .i64 x.W, .int .i64 x.A, .slice x.a x.fs.length x.c, .int .i64 x.cl, .int .u64 x.last], .slice (some ⟨b, off, none⟩) N c, .bool false, undef, .tuple #[y0.val, .slice ra Lq.length rc, .int .i64 0], .agg #[.int .u64 x.i, .int .i64 x.W, .int .i64 x.A, .slice x.a x.fs.length x.c, .int .i64 x.cl, .int .u64 x.last], .int .u64 n, .int .u64 tag, .int .u64 now, .tuple #[y0.val, .slice ra Lq.length rc, .int .i64 0], y0.val, .slice ra Lq.length rc, .int .i64 0, .tuple #[z0.val, .slice rb Lq.length rcb, .int .i64 0], .agg #[.int .u64 x.i, .int .i64 x.W, .int .i64 x.A, .slice x.a x.fs.length x.c, .int .i64 x.cl, .int .u64 x.last], .int .u64 n, .int .u64 tag, .int .u64 now, .tuple #[z0.val, .slice rb Lq.length rcb, .int .i64 0], z0.val, .slice rb Lq.length rcb, .int .i64 0, .int .i64 0, .int .i64 0, .bool false, .bool false, .slice ra Lq.length rc, .slice rb Lq.length rcb, .bool true, .bool false, .bool false, .bool false, .agg #[.int .u64 y0.id, .int .u64 y0.n, .slice y0.sa y0.set.length y0.sc, .int .i64 y0.at', .int .u64 y0.since, .int .u64 y0.tag, .int .i64 y0.done, .slice y0.ba y0.body.length y0.bc], .agg #[.int .u64 z0.id, .int .u64 z0.n, .slice z0.sa z0.set.length z0.sc, .int .i64 z0.at', .int .u64 z0.since, .int .u64 z0.tag, .int .i64 z0.done, .slice z0.ba z0.body.length z0.bc], .bool true, .bool false, .bool false, .int .i64 0, .bool false, undef, v62, v63, v64, v65, v66, v67, v68, v69, v70, v71, v72, v73, v74, v75, v76, v77, v78, v79, v80, v81, v82, v83, v84, v85, v86, v87, v88, v89, v90, v91, v92, v93, v94, v95, v96, v97, v98, v99, v100, v101, v102, v103, v104, v105, v106, v107, v108, v109, v110, v111, v112, v113, v114, v115, v116, v117, v118, v119, v120, v121, v122, v123, v124, v125, v126, v127, v128, v129, v130, v131, v132, v133, v134, v135, v136, v137, v138, v139, v140, v141, v142, v143, v144, v145, v146, v147, v148, v149, v150, v151, v152, v153, v154, v155, v156, v157, v158, v159, v160, v161, v162, v163, v164, v165, v166, v167, v168, v169, v170, v171, v172, v173, v174, v175, v176, v177, v178, v179, v180, v181, v182, v183, v184, v185, v186, undef], defers := [] } wz) := by
                intro v62 v63 v64 v65 v66 v67 v68 v69 v70 v71 v72 v73 v74 v75 v76 v77 v78 v79 v80 v81 v82 v83 v84 v85 v86 v87 v88 v89 v90 v91 v92 v93 v94 v95 v96 v97 v98 v99 v100 v101 v102 v103 v104 v105 v106 v107 v108 v109 v110 v111 v112 v113 v114 v115 v116 v117 v118 v119 v120 v121 v122 v123 v124 v125 v126 v127 v128 v129 v130 v131 v132 v133 v134 v135 v136 v137 v138 v139 v140 v141 v142 v143 v144 v145 v146 v147 v148 v149 v150 v151 v152 v153 v154 v155 v156 v157 v158 v159 v160 v161 v162 v163 v164 v165 v166 v167 v168 v169 v170 v171 v172 v173 v174 v175 v176 v177 v178 v179 v180 v181 v182 v183 v184 v185 v186 ra2 rb2 rc2 rcb2 M y2 z2 wz hE
                refine hK26 _ _ ?_
                clear hK26
                have HE := Lib.hid hE
                obtain ⟨R0, hR0⟩ : ∃ R0 : Bool, (R0 = true ↔ y2.m = u.m) := by
                  by_cases hh : y2.m = u.m
                  · exact ⟨true, by simp [hh]⟩
                  · exact ⟨false, by simp [hh]⟩
                have HR0 := Lib.hid hR0
                have e7 : (R0 != R0) = false := by cases R0 <;> rfl
                have HC8 := Lib.hid (show ∀ W', On wz W' → Calls Tryz.prog 8 #[.slice ra2 M.2.length rc2, .slice rb2 M.2.length rcb2] W' fun e w' => e = .returned (.bool true) ∧ Below W'.heap.size W' w' from fun W' hb => sreqs_any ra2 rb2 rc2 rcb2 M.2 W' (HE.out.below hb).rq (HE.out.below hb).rq2 (Nat.le_trans HE.out.one (by decide)))
                have HCa := Lib.hid (show ∀ W', On wz W' → Calls Tryz.prog 9 #[.agg #[.int .u64 y2.id, .int .u64 y2.n, .slice y2.sa y2.set.length y2.sc, .int .i64 y2.at', .int .u64 y2.since, .int .u64 y2.tag, .int .i64 y2.done, .slice y2.ba y2.body.length y2.bc], .agg #[.int .u64 z2.id, .int .u64 z2.n, .slice z2.sa z2.set.length z2.sc, .int .i64 z2.at', .int .u64 z2.since, .int .u64 z2.tag, .int .i64 z2.done, .slice z2.ba z2.body.length z2.bc]] W' fun e w' => e = .returned (.bool true) ∧ Below W'.heap.size W' w' from fun W' hb => same_fix (fsame_any y2 z2 W' (HE.out.below hb).nx.ok (HE.out.below hb).tx.ok) ⟨fun _ => HE.out.nx.m.trans HE.out.tx.m.symm, fun _ => rfl⟩)
                have HCb := Lib.hid (show ∀ W', On wz W' → Calls Tryz.prog 9 #[.agg #[.int .u64 y.id, .int .u64 y.n, .slice y.sa y.set.length y.sc, .int .i64 y.at', .int .u64 y.since, .int .u64 y.tag, .int .i64 y.done, .slice y.ba y.body.length y.bc], .agg #[.int .u64 u.id, .int .u64 u.n, .slice u.sa u.set.length u.sc, .int .i64 u.at', .int .u64 u.since, .int .u64 u.tag, .int .i64 u.done, .slice u.ba u.body.length u.bc]] W' fun e w' => e = .returned (.bool true) ∧ Below W'.heap.size W' w' from fun W' hb => same_fix (fsame_any y u W' (HE.out.below hb).inv.fy.ok (HE.out.below hb).wok) ⟨fun _ => HE.out.inv.fy.m.trans HUM.out.symm, fun _ => rfl⟩)
                have HCc := Lib.hid (show ∀ W', On wz W' → Calls Tryz.prog 17 #[.agg #[.int .u64 y2.id, .int .u64 y2.n, .slice y2.sa y2.set.length y2.sc, .int .i64 y2.at', .int .u64 y2.since, .int .u64 y2.tag, .int .i64 y2.done, .slice y2.ba y2.body.length y2.bc], .agg #[.int .u64 z2.id, .int .u64 z2.n, .slice z2.sa z2.set.length z2.sc, .int .i64 z2.at', .int .u64 z2.since, .int .u64 z2.tag, .int .i64 z2.done, .slice z2.ba z2.body.length z2.bc]] W' fun e w' => e = .returned (.bool true) ∧ Below W'.heap.size W' w' from fun W' hb => same_fix (psame_any y2 z2 W' (HE.out.below hb).nx.ok (HE.out.below hb).tx.ok) ⟨fun _ => HE.out.nx.m.trans HE.out.tx.m.symm, fun _ => rfl⟩)
                have HCd := Lib.hid (show ∀ W', On wz W' → Calls Tryz.prog 17 #[.agg #[.int .u64 y2.id, .int .u64 y2.n, .slice y2.sa y2.set.length y2.sc, .int .i64 y2.at', .int .u64 y2.since, .int .u64 y2.tag, .int .i64 y2.done, .slice y2.ba y2.body.length y2.bc], .agg #[.int .u64 u.id, .int .u64 u.n, .slice u.sa u.set.length u.sc, .int .i64 u.at', .int .u64 u.since, .int .u64 u.tag, .int .i64 u.done, .slice u.ba u.body.length u.bc]] W' fun e w' => e = .returned (.bool R0) ∧ Below W'.heap.size W' w' from fun W' hb => same_fix (psame_any y2 u W' (HE.out.below hb).nx.ok (HE.out.below hb).wok) HR0.out)
                have HCe := Lib.hid (show ∀ W', On wz W' → Calls Tryz.prog 9 #[.agg #[.int .u64 y2.id, .int .u64 y2.n, .slice y2.sa y2.set.length y2.sc, .int .i64 y2.at', .int .u64 y2.since, .int .u64 y2.tag, .int .i64 y2.done, .slice y2.ba y2.body.length y2.bc], .agg #[.int .u64 u.id, .int .u64 u.n, .slice u.sa u.set.length u.sc, .int .i64 u.at', .int .u64 u.since, .int .u64 u.tag, .int .i64 u.done, .slice u.ba u.body.length u.bc]] W' fun e w' => e = .returned (.bool R0) ∧ Below W'.heap.size W' w' from fun W' hb => same_fix (fsame_any y2 u W' (HE.out.below hb).nx.ok (HE.out.below hb).wok) HR0.out)
                have HC := Lib.hid (show ∀ W', On wz W' → (W'.cell? ⟨gn, 0, none⟩ = some (.int .u64 y2.id) ∧ W'.cell? ⟨gn, 1, none⟩ = some (.int .u64 y2.n) ∧ W'.cell? ⟨gn, 2, none⟩ = some (.slice y2.sa y2.set.length y2.sc) ∧ W'.cell? ⟨gn, 3, none⟩ = some (.int .i64 y2.at') ∧ W'.cell? ⟨gn, 4, none⟩ = some (.int .u64 y2.since) ∧ W'.cell? ⟨gn, 5, none⟩ = some (.int .u64 y2.tag) ∧ W'.cell? ⟨gn, 6, none⟩ = some (.int .i64 y2.done) ∧ W'.cell? ⟨gn, 7, none⟩ = some (.slice y2.ba y2.body.length y2.bc)) ∧ (W'.cell? ⟨gt, 0, none⟩ = some (.int .u64 z2.id) ∧ W'.cell? ⟨gt, 1, none⟩ = some (.int .u64 z2.n) ∧ W'.cell? ⟨gt, 2, none⟩ = some (.slice z2.sa z2.set.length z2.sc) ∧ W'.cell? ⟨gt, 3, none⟩ = some (.int .i64 z2.at') ∧ W'.cell? ⟨gt, 4, none⟩ = some (.int .u64 z2.since) ∧ W'.cell? ⟨gt, 5, none⟩ = some (.int .u64 z2.tag) ∧ W'.cell? ⟨gt, 6, none⟩ = some (.int .i64 z2.done) ∧ W'.cell? ⟨gt, 7, none⟩ = some (.slice z2.ba z2.body.length z2.bc)) ∧ (W'.cell? ⟨g, 0, none⟩ = some (.int .u64 y.id) ∧ W'.cell? ⟨g, 1, none⟩ = some (.int .u64 y.n) ∧ W'.cell? ⟨g, 2, none⟩ = some (.slice y.sa y.set.length y.sc) ∧ W'.cell? ⟨g, 3, none⟩ = some (.int .i64 y.at') ∧ W'.cell? ⟨g, 4, none⟩ = some (.int .u64 y.since) ∧ W'.cell? ⟨g, 5, none⟩ = some (.int .u64 y.tag) ∧ W'.cell? ⟨g, 6, none⟩ = some (.int .i64 y.done) ∧ W'.cell? ⟨g, 7, none⟩ = some (.slice y.ba y.body.length y.bc)) ∧ (W'.cell? ⟨gw, 0, none⟩ = some (.int .u64 u.id) ∧ W'.cell? ⟨gw, 1, none⟩ = some (.int .u64 u.n) ∧ W'.cell? ⟨gw, 2, none⟩ = some (.slice u.sa u.set.length u.sc) ∧ W'.cell? ⟨gw, 3, none⟩ = some (.int .i64 u.at') ∧ W'.cell? ⟨gw, 4, none⟩ = some (.int .u64 u.since) ∧ W'.cell? ⟨gw, 5, none⟩ = some (.int .u64 u.tag) ∧ W'.cell? ⟨gw, 6, none⟩ = some (.int .i64 u.done) ∧ W'.cell? ⟨gw, 7, none⟩ = some (.slice u.ba u.body.length u.bc)) from fun W' hb => ⟨(HE.out.below hb).nx.c8, (HE.out.below hb).tx.c8, (HE.out.below hb).inv.fy.c8, FeV.c8 (HE.out.below hb).was⟩)
                clear hE hR0 zq0 e1
                go_upto_region 26 with fail
                dsimp only
                refine region_on (by kernel_rfl) (by kernel_rfl) wz (Below.refl _ _) ?_
                repeat (first
                  | go_big_quiet_skip
                  | (go_big_quiet_want; go_big_quiet_op; (first
                    | go_big_quiet_on
                    | (apply Exists.intro; refine ⟨fun _ hC => ?_, ?_⟩; with_reducible (first
                        | exact rfl
                        | exact calls_on hC (HC8.out _ hC)
                        | exact calls_on hC (HCa.out _ hC)
                        | exact calls_on hC (HCb.out _ hC)
                        | exact calls_on hC (HCc.out _ hC)
                        | exact calls_on hC (HCd.out _ hC)
                        | exact calls_on hC (HCe.out _ hC)
                        | (have hcell := HC.out _ hC; simp only [hcell, Result.andThen]; (first | exact rfl | exact ⟨rfl, rfl⟩ | exact ⟨trivial, rfl⟩))); go_big_quiet_on))))
                refine wpQuiet_nil ?_
                intro wm hO
                have HM := Lib.hid (HE.out.below hO)
                clear HC8 HCa HCb HCc HCd HCe HC HR0 hO
                go_upto_region 28 with fail
                have HS28 := Lib.hid (show ∀ Z, Chg (fun k => k = g ∨ k = h) wm Z → (Z.cell? ⟨gn, 0, none⟩ = some (.int .u64 y2.id) ∧ Z.cell? ⟨gn, 1, none⟩ = some (.int .u64 y2.n) ∧ Z.cell? ⟨gn, 2, none⟩ = some (.slice y2.sa y2.set.length y2.sc) ∧ Z.cell? ⟨gn, 3, none⟩ = some (.int .i64 y2.at') ∧ Z.cell? ⟨gn, 4, none⟩ = some (.int .u64 y2.since) ∧ Z.cell? ⟨gn, 5, none⟩ = some (.int .u64 y2.tag) ∧ Z.cell? ⟨gn, 6, none⟩ = some (.int .i64 y2.done) ∧ Z.cell? ⟨gn, 7, none⟩ = some (.slice y2.ba y2.body.length y2.bc)) ∧ (Z.cell? ⟨gt, 0, none⟩ = some (.int .u64 z2.id) ∧ Z.cell? ⟨gt, 1, none⟩ = some (.int .u64 z2.n) ∧ Z.cell? ⟨gt, 2, none⟩ = some (.slice z2.sa z2.set.length z2.sc) ∧ Z.cell? ⟨gt, 3, none⟩ = some (.int .i64 z2.at') ∧ Z.cell? ⟨gt, 4, none⟩ = some (.int .u64 z2.since) ∧ Z.cell? ⟨gt, 5, none⟩ = some (.int .u64 z2.tag) ∧ Z.cell? ⟨gt, 6, none⟩ = some (.int .i64 z2.done) ∧ Z.cell? ⟨gt, 7, none⟩ = some (.slice z2.ba z2.body.length z2.bc)) from fun Z hZ => ⟨FeV.c8 (hZ.heap HM.out.nx.box (by have := HNM.out.nn; omega)), FeV.c8 (hZ.heap HM.out.tx.box (by have := HNM.out.nt; omega))⟩)
                have HGH := Lib.hid ((HM.out.done HNM.out.nt.2.1 HNM.out.nn.2.2).1.below (Below.drew (Below.refl _ _)))
                have HFI := Lib.hid HM.out.fin
                have hbg := HM.out.inv.fy.box.lt
                have hbh := HM.out.inv.fz.box.lt
                obtain ⟨c0, c1, c2, c3, c4, c5, c6, c7⟩ := HM.out.inv.fy.c8
                obtain ⟨d0, d1, d2, d3, d4, d5, d6, d7⟩ := HM.out.inv.fz.c8
                have fg := HM.out.inv.fy.fz
                have fh := HM.out.inv.fz.fz
                have hgh := HM.out.inv.ne.1
                have hhg := hgh.symm
                unfold put8n at HGH
                clear hbg hbh
                go_region_held (fun Z => (Z.cell? ⟨gn, 0, none⟩ = some (.int .u64 y2.id) ∧ Z.cell? ⟨gn, 1, none⟩ = some (.int .u64 y2.n) ∧ Z.cell? ⟨gn, 2, none⟩ = some (.slice y2.sa y2.set.length y2.sc) ∧ Z.cell? ⟨gn, 3, none⟩ = some (.int .i64 y2.at') ∧ Z.cell? ⟨gn, 4, none⟩ = some (.int .u64 y2.since) ∧ Z.cell? ⟨gn, 5, none⟩ = some (.int .u64 y2.tag) ∧ Z.cell? ⟨gn, 6, none⟩ = some (.int .i64 y2.done) ∧ Z.cell? ⟨gn, 7, none⟩ = some (.slice y2.ba y2.body.length y2.bc)) ∧ (Z.cell? ⟨gt, 0, none⟩ = some (.int .u64 z2.id) ∧ Z.cell? ⟨gt, 1, none⟩ = some (.int .u64 z2.n) ∧ Z.cell? ⟨gt, 2, none⟩ = some (.slice z2.sa z2.set.length z2.sc) ∧ Z.cell? ⟨gt, 3, none⟩ = some (.int .i64 z2.at') ∧ Z.cell? ⟨gt, 4, none⟩ = some (.int .u64 z2.since) ∧ Z.cell? ⟨gt, 5, none⟩ = some (.int .u64 z2.tag) ∧ Z.cell? ⟨gt, 6, none⟩ = some (.int .i64 z2.done) ∧ Z.cell? ⟨gt, 7, none⟩ = some (.slice z2.ba z2.body.length z2.bc))) ((refine HS28.out _ ?_; repeat' (first | (with_reducible exact Chg.refl _ _) | (with_reducible refine Chg.drew ?_) | (with_reducible refine Chg.setCell ?_ (.inl (.inl rfl)) _) | (with_reducible refine Chg.setCell ?_ (.inl (.inr rfl)) _)))) (fail)
                all_goals refine via (fun W => PInv x w W g h y2 z2 M.1) HGH.out (fun Wf hWf => ?_)
                all_goals have HWF := Lib.hid hWf
                all_goals clear hWf c0 c1 c2 c3 c4 c5 c6 c7 d0 d1 d2 d3 d4 d5 d6 d7 HGH
                all_goals go_wp2_with fail
                all_goals go_roundw
                all_goals (first
                  | exact ⟨i + 1, by omega, by go_num, y2, z2, M.1, HWF.out, HFI.out⟩
                  | ((repeat apply Exists.intro); refine ⟨?_, rfl⟩; exact ⟨i + 1, by omega, by go_num, y2, z2, M.1, HWF.out, HFI.out⟩)
                  | (simp [intOf]; omega))
              clear hK26
              obtain ⟨c0, c1, c2, c3, c4, c5, c6, c7⟩ := HZ.out.inv.fy.c8
              by_cases h3 : kd = 3
              · subst h3
                have zq2 := HZ.out.call.cell 2
                simp only [CaV.cells, List.getElem?_toArray, List.getElem?_cons_succ, List.getElem?_cons_zero] at zq2
                have HT := Lib.hid (HZ.out.inv.fy.tick HI.out.inn (by have := HI.out.body; omega) q'.now HQ2.out.1.now rfl)

                clear zq0
                go_wp2_with fail
                refine HT.out.mono ?_
                rintro e wy ⟨y2, ra2, rc2, rfl, p1, p2, p3, p4, p5⟩
                have HF := Lib.hid (HZ.out.one HNM.out p1 p2 p3 p4 p5)
                have hz2 := HZ.out.nx.below p4
                clear c0 c1 c2 c3 c4 c5 c6 c7 p1 p2 p3 p4 p5
                obtain ⟨c0, c1, c2, c3, c4, c5, c6, c7⟩ := hz2.c8
                have f0 := hz2.fz
                unfold put8n at HF
                clear hz2 HT
                go_upto_region 22 with fail
                refine via (fun W => Mid x w W g h gc gw gn gt m q' y z u y2 ra2 rc2 (m.still (m.tickM q'.now))) HF.out (fun W1 hW1 => ?_)
                have HM1 := Lib.hid hW1
                clear c0 c1 c2 c3 c4 c5 c6 c7 f0 hW1 HF zq2
                obtain ⟨c0, c1, c2, c3, c4, c5, c6, c7⟩ := HM1.out.inv.fz.c8
                have zq2 := HM1.out.call.cell 2
                simp only [CaV.cells, List.getElem?_toArray, List.getElem?_cons_succ, List.getElem?_cons_zero] at zq2
                have HT2 := Lib.hid (show Calls Tryz.prog 12 #[z.val, .int .u64 q'.now] W1 fun e w' => FetPost (m.still (m.tickM q'.now)) W1 e w' from by have := dtick_any z q'.now W1 HM1.out.inv.fz.ok (by rw [HM1.out.inv.fz.m]; exact HI.out.inn) (by have h1 := HI.out.body; rw [← HM1.out.inv.fz.m] at h1; have h2 : z.body.length ≤ 5000 := h1; omega) HQ2.out.1.now; rwa [HM1.out.inv.fz.m] at this)

                go_wp2_with fail
                refine HT2.out.mono ?_
                rintro e wv ⟨z2, rb2, rcb2, rfl, p1, p2, p3, p4, p5⟩
                have HE := Lib.hid (HM1.out.two HNM.out p1 p2 p3 p4 p5 (tick_inv HI.out q'.now) (stays_tick q'.r.frm HI.out q'.now).one)
                have hz2 := HM1.out.tx.below p4
                clear c0 c1 c2 c3 c4 c5 c6 c7 p1 p2 p3 p4 p5
                obtain ⟨c0, c1, c2, c3, c4, c5, c6, c7⟩ := hz2.c8
                have f0 := hz2.fz
                unfold put8n at HE
                clear hz2 HT2
                go_wp2_with fail
                exact HKK26.out _ _ _ _ _ _ _ _ _ _ _ _ _ _ _ _ _ _ _ _ _ _ _ _ _ _ _ _ _ _ _ _ _ _ _ _ _ _ _ _ _ _ _ _ _ _ _ _ _ _ _ _ _ _ _ _ _ _ _ _ _ _ _ _ _ _ _ _ _ _ _ _ _ _ _ _ _ _ _ _ _ _ _ _ _ _ _ _ _ _ _ _ _ _ _ _ _ _ _ _ _ _ _ _ _ _ _ _ _ _ _ _ _ _ _ _ _ _ _ _ _ _ _ _ _ _ _ _ _ _ _ _ _ HE.out
              · have e3 : (kd == 3) = false := by simpa using h3
                have e3' : decide (kd = 3) = false := decide_eq_false h3
                by_cases h4 : kd = 4
                · subst h4
                  have zq2 := HZ.out.call.cell 2
                  have zq12 := HZ.out.call.cell 12
                  have zq13 := HZ.out.call.cell 13
                  have zq14 := HZ.out.call.cell 14
                  have zq15 := HZ.out.call.cell 15
                  have zq16 := HZ.out.call.cell 16
                  have zq17 := HZ.out.call.cell 17
                  simp only [CaV.cells, List.getElem?_toArray, List.getElem?_cons_succ, List.getElem?_cons_zero] at zq2 zq12 zq13 zq14 zq15 zq16 zq17
                  have HT := Lib.hid (HZ.out.inv.fy.moved HI.out q'.now HQ2.out.1.now q'.l HQ2.out.1.l (small_frags HQ2.out.2.2))
                  simp only [LgV.val, LgV.arr] at HT
                  clear zq0
                  go_wp2_with fail
                  refine HT.out.mono ?_
                  rintro e wy ⟨y2, ra2, rc2, rfl, p1, p2, p3, p4, p5⟩
                  have HF := Lib.hid (HZ.out.one HNM.out p1 p2 p3 p4 p5)
                  have hz2 := HZ.out.nx.below p4
                  clear c0 c1 c2 c3 c4 c5 c6 c7 p1 p2 p3 p4 p5
                  obtain ⟨c0, c1, c2, c3, c4, c5, c6, c7⟩ := hz2.c8
                  have f0 := hz2.fz
                  unfold put8n at HF
                  clear hz2 HT
                  go_upto_region 25 with fail
                  refine via (fun W => Mid x w W g h gc gw gn gt m q' y z u y2 ra2 rc2 (m.still (m.movedM q'.now q'.l))) HF.out (fun W1 hW1 => ?_)
                  have HM1 := Lib.hid hW1
                  clear c0 c1 c2 c3 c4 c5 c6 c7 f0 hW1 HF zq2 zq12 zq13 zq14 zq15 zq16 zq17
                  obtain ⟨c0, c1, c2, c3, c4, c5, c6, c7⟩ := HM1.out.inv.fz.c8
                  have zq2 := HM1.out.call.cell 2
                  have zq12 := HM1.out.call.cell 12
                  have zq13 := HM1.out.call.cell 13
                  have zq14 := HM1.out.call.cell 14
                  have zq15 := HM1.out.call.cell 15
                  have zq16 := HM1.out.call.cell 16
                  have zq17 := HM1.out.call.cell 17
                  simp only [CaV.cells, List.getElem?_toArray, List.getElem?_cons_succ, List.getElem?_cons_zero] at zq2 zq12 zq13 zq14 zq15 zq16 zq17
                  have HQL1 := Lib.hid (show FsAt W1 (.slice q'.l.a q'.l.fs.length q'.l.c) q'.l.fs from (HQW.out.1.below HM1.out.inv.fy.bel).l)
                  have HT2 := Lib.hid (show Calls Tryz.prog 14 #[z.val, .int .u64 q'.now, q'.l.val] W1 fun e w' => FetPost (m.still (m.movedM q'.now q'.l)) W1 e w' from by have := dmoved_any z q'.now q'.l W1 HM1.out.inv.fz.ok (by have h1 := HI.out.inn.len; rw [← HM1.out.inv.fz.m] at h1; have h2 : z.set.length ≤ 1000 := h1; omega) (by have h1 := HI.out.body; rw [← HM1.out.inv.fz.m] at h1; have h2 : z.body.length ≤ 5000 := h1; omega) HQ2.out.1.now (by have h1 := HI.out.n1; have h2 := HI.out.nn; rw [← HM1.out.inv.fz.m] at h2; have h3 : z.n = n := h2; omega) HQL1.out (small_frags HQ2.out.2.2); rwa [HM1.out.inv.fz.m] at this)
                  simp only [LgV.val, LgV.arr] at HT2
                  go_wp2_with fail
                  refine HT2.out.mono ?_
                  rintro e wv ⟨z2, rb2, rcb2, rfl, p1, p2, p3, p4, p5⟩
                  have HE := Lib.hid (HM1.out.two HNM.out p1 p2 p3 p4 p5 (moved_inv HI.out q'.now q'.l) (stays_moved q'.r.frm HI.out q'.now q'.l).one)
                  have hz2 := HM1.out.tx.below p4
                  clear c0 c1 c2 c3 c4 c5 c6 c7 p1 p2 p3 p4 p5
                  obtain ⟨c0, c1, c2, c3, c4, c5, c6, c7⟩ := hz2.c8
                  have f0 := hz2.fz
                  unfold put8n at HE
                  clear hz2 HT2
                  go_wp2_with fail
                  exact HKK26.out _ _ _ _ _ _ _ _ _ _ _ _ _ _ _ _ _ _ _ _ _ _ _ _ _ _ _ _ _ _ _ _ _ _ _ _ _ _ _ _ _ _ _ _ _ _ _ _ _ _ _ _ _ _ _ _ _ _ _ _ _ _ _ _ _ _ _ _ _ _ _ _ _ _ _ _ _ _ _ _ _ _ _ _ _ _ _ _ _ _ _ _ _ _ _ _ _ _ _ _ _ _ _ _ _ _ _ _ _ _ _ _ _ _ _ _ _ _ _ _ _ _ _ _ _ _ _ _ _ _ _ _ _ HE.out
                · have e4 : (kd == 4) = false := by simpa using h4
                  have e4' : decide (kd = 4) = false := decide_eq_false h4
                  clear h3 h4
                  have zq2 := HZ.out.call.cell 2
                  have zq3 := HZ.out.call.cell 3
                  have zq4 := HZ.out.call.cell 4
                  have zq5 := HZ.out.call.cell 5
                  have zq6 := HZ.out.call.cell 6
                  have zq7 := HZ.out.call.cell 7
                  have zq8 := HZ.out.call.cell 8
                  have zq9 := HZ.out.call.cell 9
                  have zq10 := HZ.out.call.cell 10
                  have zq11 := HZ.out.call.cell 11
                  simp only [CaV.cells, List.getElem?_toArray, List.getElem?_cons_succ, List.getElem?_cons_zero] at zq2 zq3 zq4 zq5 zq6 zq7 zq8 zq9 zq10 zq11
                  have HT := Lib.hid (HZ.out.inv.fy.take HI.out.inn (by have := HI.out.body; omega) q'.now HQ2.out.1.now q'.r HQ2.out.1.r (by have := HQ2.out.2.1; omega) rfl)

                  clear zq0
                  go_wp2_with fail
                  refine HT.out.mono ?_
                  rintro e wy ⟨y2, ra2, rc2, rfl, p1, p2, p3, p4, p5⟩
                  have HF := Lib.hid (HZ.out.one HNM.out p1 p2 p3 p4 p5)
                  have hz2 := HZ.out.nx.below p4
                  clear c0 c1 c2 c3 c4 c5 c6 c7 p1 p2 p3 p4 p5
                  obtain ⟨c0, c1, c2, c3, c4, c5, c6, c7⟩ := hz2.c8
                  have f0 := hz2.fz
                  unfold put8n at HF
                  clear hz2 HT
                  go_upto_region 19 with fail
                  refine via (fun W => Mid x w W g h gc gw gn gt m q' y z u y2 ra2 rc2 (m.still (m.takeM q'.now q'.r))) HF.out (fun W1 hW1 => ?_)
                  have HM1 := Lib.hid hW1
                  clear c0 c1 c2 c3 c4 c5 c6 c7 f0 hW1 HF zq2 zq3 zq4 zq5 zq6 zq7 zq8 zq9 zq10 zq11
                  obtain ⟨c0, c1, c2, c3, c4, c5, c6, c7⟩ := HM1.out.inv.fz.c8
                  have zq2 := HM1.out.call.cell 2
                  have zq3 := HM1.out.call.cell 3
                  have zq4 := HM1.out.call.cell 4
                  have zq5 := HM1.out.call.cell 5
                  have zq6 := HM1.out.call.cell 6
                  have zq7 := HM1.out.call.cell 7
                  have zq8 := HM1.out.call.cell 8
                  have zq9 := HM1.out.call.cell 9
                  have zq10 := HM1.out.call.cell 10
                  have zq11 := HM1.out.call.cell 11
                  simp only [CaV.cells, List.getElem?_toArray, List.getElem?_cons_succ, List.getElem?_cons_zero] at zq2 zq3 zq4 zq5 zq6 zq7 zq8 zq9 zq10 zq11
                  have HQL1 := Lib.hid (show q'.r.ok W1 from (HQW.out.1.below HM1.out.inv.fy.bel).r)
                  have HT2 := Lib.hid (show Calls Tryz.prog 16 #[z.val, .int .u64 q'.now, q'.r.val] W1 fun e w' => FetPost (m.still (m.takeM q'.now q'.r)) W1 e w' from by have := dtake_any z q'.now q'.r W1 HM1.out.inv.fz.ok (by rw [HM1.out.inv.fz.m]; exact HI.out.inn) (by have h1 := HI.out.body; rw [← HM1.out.inv.fz.m] at h1; have h2 : z.body.length ≤ 5000 := h1; omega) HQ2.out.1.now HQL1.out (by have := HQ2.out.2.1; omega); rwa [HM1.out.inv.fz.m] at this)

                  go_wp2_with fail
                  refine HT2.out.mono ?_
                  rintro e wv ⟨z2, rb2, rcb2, rfl, p1, p2, p3, p4, p5⟩
                  have HE := Lib.hid (HM1.out.two HNM.out p1 p2 p3 p4 p5 (take_inv HI.out q'.now q'.r HQ2.out.2.1) (stays_take HI.out q'.now q'.r).one)
                  have hz2 := HM1.out.tx.below p4
                  clear c0 c1 c2 c3 c4 c5 c6 c7 p1 p2 p3 p4 p5
                  obtain ⟨c0, c1, c2, c3, c4, c5, c6, c7⟩ := hz2.c8
                  have f0 := hz2.fz
                  unfold put8n at HE
                  clear hz2 HT2
                  go_wp2_with fail
                  exact HKK26.out _ _ _ _ _ _ _ _ _ _ _ _ _ _ _ _ _ _ _ _ _ _ _ _ _ _ _ _ _ _ _ _ _ _ _ _ _ _ _ _ _ _ _ _ _ _ _ _ _ _ _ _ _ _ _ _ _ _ _ _ _ _ _ _ _ _ _ _ _ _ _ _ _ _ _ _ _ _ _ _ _ _ _ _ _ _ _ _ _ _ _ _ _ _ _ _ _ _ _ _ _ _ _ _ _ _ _ _ _ _ _ _ _ _ _ _ _ _ _ _ _ _ _ _ _ _ _ _ _ _ _ _ _ HE.out
            · have hpn := pair_new V z.cs.toArray y.cs.toArray
              obtain ⟨gt, hga⟩ : ∃ k, V.heap.size = k := ⟨_, rfl⟩
              obtain ⟨gn, hgb⟩ : ∃ k, V.heap.size + 1 = k := ⟨_, rfl⟩
              rw [hgb, hga] at hpn
              rw [hgb, hga]
              have hSN := side_new HV.out.1.1 HV.out.1.2.1 HV.out.2.1 HV.out.2.2.1 (by rw [hga]; exact hpn.2) hpn.1.2 hpn.1.1 (by omega) (by omega) (by omega)
              have HNM := Lib.hid hSN.2
              refine via (fun Z => Side x w Z g h gc gw gn gt m q' y z u) hSN.1 (fun Z hZ => ?_)
              have HZ := Lib.hid hZ
              have HUM := Lib.hid (show u.m = m from HV.out.2.2.2.1.trans HZ.out.inv.fy.m)
              have HI := Lib.hid HR.out.2
              have HQ2 := Lib.hid (And.intro (HQW.out.1.below HZ.out.inv.fy.bel) HQW.out.2)
              have zq0 := hZ.call.cell 0
              simp only [CaV.cells, List.getElem?_toArray, List.getElem?_cons_succ, List.getElem?_cons_zero] at zq0
              obtain ⟨t5, ht5⟩ : ∃ t, q'.what.tmod 5 = t := ⟨_, rfl⟩
              have hlo : -5 < t5 := by rw [← ht5]; exact Int.lt_tmod_of_pos _ (by decide)
              have hhi : t5 < 5 := by rw [← ht5]; exact Int.tmod_lt_of_pos _ (by decide)
              have e1 : IntKind.i64.wrap (t5 + 5) = t5 + 5 := wrap_small _ (by omega) (by omega)
              obtain ⟨kd, hkd⟩ : ∃ k, (t5 + 5).tmod 5 = k := ⟨_, rfl⟩
              clear hZ hpn hSN hga hgb
              go_upto_block 2 with fail
              rename_i K26 hK26
              have HKK26 : Hid (∀ (v62 v63 v64 v65 v66 v67 v68 v69 v70 v71 v72 v73 v74 v75 v76 v77 v78 v79 v80 v81 v82 v83 v84 v85 v86 v87 v88 v89 v90 v91 v92 v93 v94 v95 v96 v97 v98 v99 v100 v101 v102 v103 v104 v105 v106 v107 v108 v109 v110 v111 v112 v113 v114 v115 v116 v117 v118 v119 v120 v121 v122 v123 v124 v125 v126 v127 v128 v129 v130 v131 v132 v133 v134 v135 v136 v137 v138 v139 v140 v141 v142 v143 v144 v145 v146 v147 v148 v149 v150 v151 v152 v153 v154 v155 v156 v157 v158 v159 v160 v161 v162 v163 v164 v165 v166 v167 v168 v169 v170 v171 v172 v173 v174 v175 v176 v177 v178 v179 v180 v181 v182 v183 v184 v185 v186 : Value) (ra2 rb2 : Option Addr) (rc2 rcb2 : Nat) (M : FeM × List RqM) (y2 z2 : FeV) (wz : World), Fin2 x n w wz g h gw gn gt m y z u y2 z2 ra2 rb2 rc2 rcb2 M → K26 { tmps := #[.agg #[.int .u64 x.i, .int .i64 x.W, .int .i64 x.A, .slice x.a x.fs.length x.c, .int .i64 x.cl, .int .u64 x.last], .int .u64 n, .int .u64 tag, .int .u64 now, .slice (some ⟨b, off, none⟩) N c, .pointer (some ⟨w.heap.size, 0, none⟩), undef, undef, undef, undef, u10, .pointer (some ⟨g, 0, none⟩), .slice ra2 M.2.length rc2, .int .i64 0, .pointer (some ⟨h, 0, none⟩), .slice rb2 M.2.length rcb2, .int .i64 0, .int .i64 (i : Nat), .pointer (some ⟨gc, 0, none⟩), .pointer (some ⟨gw, 0, none⟩), .pointer (some ⟨gn, 0, none⟩), .pointer (some ⟨gt, 0, none⟩), .agg #[.int .u64 x.i, .int .i64 x.W, .int .i64 x.A, .slice x.a x.fs.length x.c, .int .i64 x.cl, .int .u64 x.last], .slice (some ⟨b, off, none⟩) N c, .bool false, undef, .tuple #[y0.val, .slice ra Lq.length rc, .int .i64 0], .agg #[.int .u64 x.i, .int .i64 x.W, .int .i64 x.A, .slice x.a x.fs.length x.c, .int .i64 x.cl, .int .u64 x.last], .int .u64 n, .int .u64 tag, .int .u64 now, .tuple #[y0.val, .slice ra Lq.length rc, .int .i64 0], y0.val, .slice ra Lq.length rc, .int .i64 0, .tuple #[z0.val, .slice rb Lq.length rcb, .int .i64 0], .agg #[.int .u64 x.i, .int .i64 x.W, .int .i64 x.A, .slice x.a x.fs.length x.c, .int .i64 x.cl, .int .u64 x.last], .int .u64 n, .int .u64 tag, .int .u64 now, .tuple #[z0.val, .slice rb Lq.length rcb, .int .i64 0], z0.val, .slice rb Lq.length rcb, .int .i64 0, .int .i64 0, .int .i64 0, .bool false, .bool false, .slice ra Lq.length rc, .slice rb Lq.length rcb, .bool true, .bool false, .bool false, .bool false, .agg #[.int .u64 y0.id, .int .u64 y0.n, .slice y0.sa y0.set.length y0.sc, .int .i64 y0.at', .int .u64 y0.since, .int .u64 y0.tag, .int .i64 y0.done, .slice y0.ba y0.body.length y0.bc], .agg #[.int .u64 z0.id, .int .u64 z0.n, .slice z0.sa z0.set.length z0.sc, .int .i64 z0.at', .int .u64 z0.since, .int .u64 z0.tag, .int .i64 z0.done, .slice z0.ba z0.body.length z0.bc], .bool true, .bool false, .bool false, .int .i64 0, .bool false, undef, v62, v63, v64, v65, v66, v67, v68, v69, v70, v71, v72, v73, v74, v75, v76, v77, v78, v79, v80, v81, v82, v83, v84, v85, v86, v87, v88, v89, v90, v91, v92, v93, v94, v95, v96, v97, v98, v99, v100, v101, v102, v103, v104, v105, v106, v107, v108, v109, v110, v111, v112, v113, v114, v115, v116, v117, v118, v119, v120, v121, v122, v123, v124, v125, v126, v127, v128, v129, v130, v131, v132, v133, v134, v135, v136, v137, v138, v139, v140, v141, v142, v143, v144, v145, v146, v147, v148, v149, v150, v151, v152, v153, v154, v155, v156, v157, v158, v159, v160, v161, v162, v163, v164, v165, v166, v167, v168, v169, v170, v171, v172, v173, v174, v175, v176, v177, v178, v179, v180, v181, v182, v183, v184, v185, v186, undef], defers := [] } wz) := by
                intro v62 v63 v64 v65 v66 v67 v68 v69 v70 v71 v72 v73 v74 v75 v76 v77 v78 v79 v80 v81 v82 v83 v84 v85 v86 v87 v88 v89 v90 v91 v92 v93 v94 v95 v96 v97 v98 v99 v100 v101 v102 v103 v104 v105 v106 v107 v108 v109 v110 v111 v112 v113 v114 v115 v116 v117 v118 v119 v120 v121 v122 v123 v124 v125 v126 v127 v128 v129 v130 v131 v132 v133 v134 v135 v136 v137 v138 v139 v140 v141 v142 v143 v144 v145 v146 v147 v148 v149 v150 v151 v152 v153 v154 v155 v156 v157 v158 v159 v160 v161 v162 v163 v164 v165 v166 v167 v168 v169 v170 v171 v172 v173 v174 v175 v176 v177 v178 v179 v180 v181 v182 v183 v184 v185 v186 ra2 rb2 rc2 rcb2 M y2 z2 wz hE
                refine hK26 _ _ ?_
                clear hK26
                have HE := Lib.hid hE
                obtain ⟨R0, hR0⟩ : ∃ R0 : Bool, (R0 = true ↔ y2.m = u.m) := by
                  by_cases hh : y2.m = u.m
                  · exact ⟨true, by simp [hh]⟩
                  · exact ⟨false, by simp [hh]⟩
                have HR0 := Lib.hid hR0
                have e7 : (R0 != R0) = false := by cases R0 <;> rfl
                have HC8 := Lib.hid (show ∀ W', On wz W' → Calls Tryz.prog 8 #[.slice ra2 M.2.length rc2, .slice rb2 M.2.length rcb2] W' fun e w' => e = .returned (.bool true) ∧ Below W'.heap.size W' w' from fun W' hb => sreqs_any ra2 rb2 rc2 rcb2 M.2 W' (HE.out.below hb).rq (HE.out.below hb).rq2 (Nat.le_trans HE.out.one (by decide)))
                have HCa := Lib.hid (show ∀ W', On wz W' → Calls Tryz.prog 9 #[.agg #[.int .u64 y2.id, .int .u64 y2.n, .slice y2.sa y2.set.length y2.sc, .int .i64 y2.at', .int .u64 y2.since, .int .u64 y2.tag, .int .i64 y2.done, .slice y2.ba y2.body.length y2.bc], .agg #[.int .u64 z2.id, .int .u64 z2.n, .slice z2.sa z2.set.length z2.sc, .int .i64 z2.at', .int .u64 z2.since, .int .u64 z2.tag, .int .i64 z2.done, .slice z2.ba z2.body.length z2.bc]] W' fun e w' => e = .returned (.bool true) ∧ Below W'.heap.size W' w' from fun W' hb => same_fix (fsame_any y2 z2 W' (HE.out.below hb).nx.ok (HE.out.below hb).tx.ok) ⟨fun _ => HE.out.nx.m.trans HE.out.tx.m.symm, fun _ => rfl⟩)
                have HCb := Lib.hid (show ∀ W', On wz W' → Calls Tryz.prog 9 #[.agg #[.int .u64 y.id, .int .u64 y.n, .slice y.sa y.set.length y.sc, .int .i64 y.at', .int .u64 y.since, .int .u64 y.tag, .int .i64 y.done, .slice y.ba y.body.length y.bc], .agg #[.int .u64 u.id, .int .u64 u.n, .slice u.sa u.set.length u.sc, .int .i64 u.at', .int .u64 u.since, .int .u64 u.tag, .int .i64 u.done, .slice u.ba u.body.length u.bc]] W' fun e w' => e = .returned (.bool true) ∧ Below W'.heap.size W' w' from fun W' hb => same_fix (fsame_any y u W' (HE.out.below hb).inv.fy.ok (HE.out.below hb).wok) ⟨fun _ => HE.out.inv.fy.m.trans HUM.out.symm, fun _ => rfl⟩)
                have HCc := Lib.hid (show ∀ W', On wz W' → Calls Tryz.prog 17 #[.agg #[.int .u64 y2.id, .int .u64 y2.n, .slice y2.sa y2.set.length y2.sc, .int .i64 y2.at', .int .u64 y2.since, .int .u64 y2.tag, .int .i64 y2.done, .slice y2.ba y2.body.length y2.bc], .agg #[.int .u64 z2.id, .int .u64 z2.n, .slice z2.sa z2.set.length z2.sc, .int .i64 z2.at', .int .u64 z2.since, .int .u64 z2.tag, .int .i64 z2.done, .slice z2.ba z2.body.length z2.bc]] W' fun e w' => e = .returned (.bool true) ∧ Below W'.heap.size W' w' from fun W' hb => same_fix (psame_any y2 z2 W' (HE.out.below hb).nx.ok (HE.out.below hb).tx.ok) ⟨fun _ => HE.out.nx.m.trans HE.out.tx.m.symm, fun _ => rfl⟩)
                have HCd := Lib.hid (show ∀ W', On wz W' → Calls Tryz.prog 17 #[.agg #[.int .u64 y2.id, .int .u64 y2.n, .slice y2.sa y2.set.length y2.sc, .int .i64 y2.at', .int .u64 y2.since, .int .u64 y2.tag, .int .i64 y2.done, .slice y2.ba y2.body.length y2.bc], .agg #[.int .u64 u.id, .int .u64 u.n, .slice u.sa u.set.length u.sc, .int .i64 u.at', .int .u64 u.since, .int .u64 u.tag, .int .i64 u.done, .slice u.ba u.body.length u.bc]] W' fun e w' => e = .returned (.bool R0) ∧ Below W'.heap.size W' w' from fun W' hb => same_fix (psame_any y2 u W' (HE.out.below hb).nx.ok (HE.out.below hb).wok) HR0.out)
                have HCe := Lib.hid (show ∀ W', On wz W' → Calls Tryz.prog 9 #[.agg #[.int .u64 y2.id, .int .u64 y2.n, .slice y2.sa y2.set.length y2.sc, .int .i64 y2.at', .int .u64 y2.since, .int .u64 y2.tag, .int .i64 y2.done, .slice y2.ba y2.body.length y2.bc], .agg #[.int .u64 u.id, .int .u64 u.n, .slice u.sa u.set.length u.sc, .int .i64 u.at', .int .u64 u.since, .int .u64 u.tag, .int .i64 u.done, .slice u.ba u.body.length u.bc]] W' fun e w' => e = .returned (.bool R0) ∧ Below W'.heap.size W' w' from fun W' hb => same_fix (fsame_any y2 u W' (HE.out.below hb).nx.ok (HE.out.below hb).wok) HR0.out)
                have HC := Lib.hid (show ∀ W', On wz W' → (W'.cell? ⟨gn, 0, none⟩ = some (.int .u64 y2.id) ∧ W'.cell? ⟨gn, 1, none⟩ = some (.int .u64 y2.n) ∧ W'.cell? ⟨gn, 2, none⟩ = some (.slice y2.sa y2.set.length y2.sc) ∧ W'.cell? ⟨gn, 3, none⟩ = some (.int .i64 y2.at') ∧ W'.cell? ⟨gn, 4, none⟩ = some (.int .u64 y2.since) ∧ W'.cell? ⟨gn, 5, none⟩ = some (.int .u64 y2.tag) ∧ W'.cell? ⟨gn, 6, none⟩ = some (.int .i64 y2.done) ∧ W'.cell? ⟨gn, 7, none⟩ = some (.slice y2.ba y2.body.length y2.bc)) ∧ (W'.cell? ⟨gt, 0, none⟩ = some (.int .u64 z2.id) ∧ W'.cell? ⟨gt, 1, none⟩ = some (.int .u64 z2.n) ∧ W'.cell? ⟨gt, 2, none⟩ = some (.slice z2.sa z2.set.length z2.sc) ∧ W'.cell? ⟨gt, 3, none⟩ = some (.int .i64 z2.at') ∧ W'.cell? ⟨gt, 4, none⟩ = some (.int .u64 z2.since) ∧ W'.cell? ⟨gt, 5, none⟩ = some (.int .u64 z2.tag) ∧ W'.cell? ⟨gt, 6, none⟩ = some (.int .i64 z2.done) ∧ W'.cell? ⟨gt, 7, none⟩ = some (.slice z2.ba z2.body.length z2.bc)) ∧ (W'.cell? ⟨g, 0, none⟩ = some (.int .u64 y.id) ∧ W'.cell? ⟨g, 1, none⟩ = some (.int .u64 y.n) ∧ W'.cell? ⟨g, 2, none⟩ = some (.slice y.sa y.set.length y.sc) ∧ W'.cell? ⟨g, 3, none⟩ = some (.int .i64 y.at') ∧ W'.cell? ⟨g, 4, none⟩ = some (.int .u64 y.since) ∧ W'.cell? ⟨g, 5, none⟩ = some (.int .u64 y.tag) ∧ W'.cell? ⟨g, 6, none⟩ = some (.int .i64 y.done) ∧ W'.cell? ⟨g, 7, none⟩ = some (.slice y.ba y.body.length y.bc)) ∧ (W'.cell? ⟨gw, 0, none⟩ = some (.int .u64 u.id) ∧ W'.cell? ⟨gw, 1, none⟩ = some (.int .u64 u.n) ∧ W'.cell? ⟨gw, 2, none⟩ = some (.slice u.sa u.set.length u.sc) ∧ W'.cell? ⟨gw, 3, none⟩ = some (.int .i64 u.at') ∧ W'.cell? ⟨gw, 4, none⟩ = some (.int .u64 u.since) ∧ W'.cell? ⟨gw, 5, none⟩ = some (.int .u64 u.tag) ∧ W'.cell? ⟨gw, 6, none⟩ = some (.int .i64 u.done) ∧ W'.cell? ⟨gw, 7, none⟩ = some (.slice u.ba u.body.length u.bc)) from fun W' hb => ⟨(HE.out.below hb).nx.c8, (HE.out.below hb).tx.c8, (HE.out.below hb).inv.fy.c8, FeV.c8 (HE.out.below hb).was⟩)
                clear hE hR0 zq0 e1
                go_upto_region 26 with fail
                dsimp only
                refine region_on (by kernel_rfl) (by kernel_rfl) wz (Below.refl _ _) ?_
                repeat (first
                  | go_big_quiet_skip
                  | (go_big_quiet_want; go_big_quiet_op; (first
                    | go_big_quiet_on
                    | (apply Exists.intro; refine ⟨fun _ hC => ?_, ?_⟩; with_reducible (first
                        | exact rfl
                        | exact calls_on hC (HC8.out _ hC)
                        | exact calls_on hC (HCa.out _ hC)
                        | exact calls_on hC (HCb.out _ hC)
                        | exact calls_on hC (HCc.out _ hC)
                        | exact calls_on hC (HCd.out _ hC)
                        | exact calls_on hC (HCe.out _ hC)
                        | (have hcell := HC.out _ hC; simp only [hcell, Result.andThen]; (first | exact rfl | exact ⟨rfl, rfl⟩ | exact ⟨trivial, rfl⟩))); go_big_quiet_on))))
                refine wpQuiet_nil ?_
                intro wm hO
                have HM := Lib.hid (HE.out.below hO)
                clear HC8 HCa HCb HCc HCd HCe HC HR0 hO
                go_upto_region 28 with fail
                have HS28 := Lib.hid (show ∀ Z, Chg (fun k => k = g ∨ k = h) wm Z → (Z.cell? ⟨gn, 0, none⟩ = some (.int .u64 y2.id) ∧ Z.cell? ⟨gn, 1, none⟩ = some (.int .u64 y2.n) ∧ Z.cell? ⟨gn, 2, none⟩ = some (.slice y2.sa y2.set.length y2.sc) ∧ Z.cell? ⟨gn, 3, none⟩ = some (.int .i64 y2.at') ∧ Z.cell? ⟨gn, 4, none⟩ = some (.int .u64 y2.since) ∧ Z.cell? ⟨gn, 5, none⟩ = some (.int .u64 y2.tag) ∧ Z.cell? ⟨gn, 6, none⟩ = some (.int .i64 y2.done) ∧ Z.cell? ⟨gn, 7, none⟩ = some (.slice y2.ba y2.body.length y2.bc)) ∧ (Z.cell? ⟨gt, 0, none⟩ = some (.int .u64 z2.id) ∧ Z.cell? ⟨gt, 1, none⟩ = some (.int .u64 z2.n) ∧ Z.cell? ⟨gt, 2, none⟩ = some (.slice z2.sa z2.set.length z2.sc) ∧ Z.cell? ⟨gt, 3, none⟩ = some (.int .i64 z2.at') ∧ Z.cell? ⟨gt, 4, none⟩ = some (.int .u64 z2.since) ∧ Z.cell? ⟨gt, 5, none⟩ = some (.int .u64 z2.tag) ∧ Z.cell? ⟨gt, 6, none⟩ = some (.int .i64 z2.done) ∧ Z.cell? ⟨gt, 7, none⟩ = some (.slice z2.ba z2.body.length z2.bc)) from fun Z hZ => ⟨FeV.c8 (hZ.heap HM.out.nx.box (by have := HNM.out.nn; omega)), FeV.c8 (hZ.heap HM.out.tx.box (by have := HNM.out.nt; omega))⟩)
                have HGH := Lib.hid ((HM.out.done HNM.out.nt.2.1 HNM.out.nn.2.2).1.below (Below.drew (Below.refl _ _)))
                have HFI := Lib.hid HM.out.fin
                have hbg := HM.out.inv.fy.box.lt
                have hbh := HM.out.inv.fz.box.lt
                obtain ⟨c0, c1, c2, c3, c4, c5, c6, c7⟩ := HM.out.inv.fy.c8
                obtain ⟨d0, d1, d2, d3, d4, d5, d6, d7⟩ := HM.out.inv.fz.c8
                have fg := HM.out.inv.fy.fz
                have fh := HM.out.inv.fz.fz
                have hgh := HM.out.inv.ne.1
                have hhg := hgh.symm
                unfold put8n at HGH
                clear hbg hbh
                go_region_held (fun Z => (Z.cell? ⟨gn, 0, none⟩ = some (.int .u64 y2.id) ∧ Z.cell? ⟨gn, 1, none⟩ = some (.int .u64 y2.n) ∧ Z.cell? ⟨gn, 2, none⟩ = some (.slice y2.sa y2.set.length y2.sc) ∧ Z.cell? ⟨gn, 3, none⟩ = some (.int .i64 y2.at') ∧ Z.cell? ⟨gn, 4, none⟩ = some (.int .u64 y2.since) ∧ Z.cell? ⟨gn, 5, none⟩ = some (.int .u64 y2.tag) ∧ Z.cell? ⟨gn, 6, none⟩ = some (.int .i64 y2.done) ∧ Z.cell? ⟨gn, 7, none⟩ = some (.slice y2.ba y2.body.length y2.bc)) ∧ (Z.cell? ⟨gt, 0, none⟩ = some (.int .u64 z2.id) ∧ Z.cell? ⟨gt, 1, none⟩ = some (.int .u64 z2.n) ∧ Z.cell? ⟨gt, 2, none⟩ = some (.slice z2.sa z2.set.length z2.sc) ∧ Z.cell? ⟨gt, 3, none⟩ = some (.int .i64 z2.at') ∧ Z.cell? ⟨gt, 4, none⟩ = some (.int .u64 z2.since) ∧ Z.cell? ⟨gt, 5, none⟩ = some (.int .u64 z2.tag) ∧ Z.cell? ⟨gt, 6, none⟩ = some (.int .i64 z2.done) ∧ Z.cell? ⟨gt, 7, none⟩ = some (.slice z2.ba z2.body.length z2.bc))) ((refine HS28.out _ ?_; repeat' (first | (with_reducible exact Chg.refl _ _) | (with_reducible refine Chg.drew ?_) | (with_reducible refine Chg.setCell ?_ (.inl (.inl rfl)) _) | (with_reducible refine Chg.setCell ?_ (.inl (.inr rfl)) _)))) (fail)
                all_goals refine via (fun W => PInv x w W g h y2 z2 M.1) HGH.out (fun Wf hWf => ?_)
                all_goals have HWF := Lib.hid hWf
                all_goals clear hWf c0 c1 c2 c3 c4 c5 c6 c7 d0 d1 d2 d3 d4 d5 d6 d7 HGH
                all_goals go_wp2_with fail
                all_goals go_roundw
                all_goals (first
                  | exact ⟨i + 1, by omega, by go_num, y2, z2, M.1, HWF.out, HFI.out⟩
                  | ((repeat apply Exists.intro); refine ⟨?_, rfl⟩; exact ⟨i + 1, by omega, by go_num, y2, z2, M.1, HWF.out, HFI.out⟩)
                  | (simp [intOf]; omega))
              clear hK26
              obtain ⟨c0, c1, c2, c3, c4, c5, c6, c7⟩ := HZ.out.inv.fy.c8
              by_cases h3 : kd = 3
              · subst h3
                have zq2 := HZ.out.call.cell 2
                simp only [CaV.cells, List.getElem?_toArray, List.getElem?_cons_succ, List.getElem?_cons_zero] at zq2
                have HT := Lib.hid (HZ.out.inv.fy.tick HI.out.inn (by have := HI.out.body; omega) q'.now HQ2.out.1.now rfl)

                clear zq0
                go_wp2_with fail
                refine HT.out.mono ?_
                rintro e wy ⟨y2, ra2, rc2, rfl, p1, p2, p3, p4, p5⟩
                have HF := Lib.hid (HZ.out.one HNM.out p1 p2 p3 p4 p5)
                have hz2 := HZ.out.nx.below p4
                clear c0 c1 c2 c3 c4 c5 c6 c7 p1 p2 p3 p4 p5
                obtain ⟨c0, c1, c2, c3, c4, c5, c6, c7⟩ := hz2.c8
                have f0 := hz2.fz
                unfold put8n at HF
                clear hz2 HT
                go_upto_region 22 with fail
                refine via (fun W => Mid x w W g h gc gw gn gt m q' y z u y2 ra2 rc2 (m.still (m.tickM q'.now))) HF.out (fun W1 hW1 => ?_)
                have HM1 := Lib.hid hW1
                clear c0 c1 c2 c3 c4 c5 c6 c7 f0 hW1 HF zq2
                obtain ⟨c0, c1, c2, c3, c4, c5, c6, c7⟩ := HM1.out.inv.fz.c8
                have zq2 := HM1.out.call.cell 2
                simp only [CaV.cells, List.getElem?_toArray, List.getElem?_cons_succ, List.getElem?_cons_zero] at zq2
                have HT2 := Lib.hid (show Calls Tryz.prog 12 #[z.val, .int .u64 q'.now] W1 fun e w' => FetPost (m.still (m.tickM q'.now)) W1 e w' from by have := dtick_any z q'.now W1 HM1.out.inv.fz.ok (by rw [HM1.out.inv.fz.m]; exact HI.out.inn) (by have h1 := HI.out.body; rw [← HM1.out.inv.fz.m] at h1; have h2 : z.body.length ≤ 5000 := h1; omega) HQ2.out.1.now; rwa [HM1.out.inv.fz.m] at this)

                go_wp2_with fail
                refine HT2.out.mono ?_
                rintro e wv ⟨z2, rb2, rcb2, rfl, p1, p2, p3, p4, p5⟩
                have HE := Lib.hid (HM1.out.two HNM.out p1 p2 p3 p4 p5 (tick_inv HI.out q'.now) (stays_tick q'.r.frm HI.out q'.now).one)
                have hz2 := HM1.out.tx.below p4
                clear c0 c1 c2 c3 c4 c5 c6 c7 p1 p2 p3 p4 p5
                obtain ⟨c0, c1, c2, c3, c4, c5, c6, c7⟩ := hz2.c8
                have f0 := hz2.fz
                unfold put8n at HE
                clear hz2 HT2
                go_wp2_with fail
                exact HKK26.out _ _ _ _ _ _ _ _ _ _ _ _ _ _ _ _ _ _ _ _ _ _ _ _ _ _ _ _ _ _ _ _ _ _ _ _ _ _ _ _ _ _ _ _ _ _ _ _ _ _ _ _ _ _ _ _ _ _ _ _ _ _ _ _ _ _ _ _ _ _ _ _ _ _ _ _ _ _ _ _ _ _ _ _ _ _ _ _ _ _ _ _ _ _ _ _ _ _ _ _ _ _ _ _ _ _ _ _ _ _ _ _ _ _ _ _ _ _ _ _ _ _ _ _ _ _ _ _ _ _ _ _ _ HE.out
              · have e3 : (kd == 3) = false := by simpa using h3
                have e3' : decide (kd = 3) = false := decide_eq_false h3
                by_cases h4 : kd = 4
                · subst h4
                  have zq2 := HZ.out.call.cell 2
                  have zq12 := HZ.out.call.cell 12
                  have zq13 := HZ.out.call.cell 13
                  have zq14 := HZ.out.call.cell 14
                  have zq15 := HZ.out.call.cell 15
                  have zq16 := HZ.out.call.cell 16
                  have zq17 := HZ.out.call.cell 17
                  simp only [CaV.cells, List.getElem?_toArray, List.getElem?_cons_succ, List.getElem?_cons_zero] at zq2 zq12 zq13 zq14 zq15 zq16 zq17
                  have HT := Lib.hid (HZ.out.inv.fy.moved HI.out q'.now HQ2.out.1.now q'.l HQ2.out.1.l (small_frags HQ2.out.2.2))
                  simp only [LgV.val, LgV.arr] at HT
                  clear zq0
                  go_wp2_with fail
                  refine HT.out.mono ?_
                  rintro e wy ⟨y2, ra2, rc2, rfl, p1, p2, p3, p4, p5⟩
                  have HF := Lib.hid (HZ.out.one HNM.out p1 p2 p3 p4 p5)
                  have hz2 := HZ.out.nx.below p4
                  clear c0 c1 c2 c3 c4 c5 c6 c7 p1 p2 p3 p4 p5
                  obtain ⟨c0, c1, c2, c3, c4, c5, c6, c7⟩ := hz2.c8
                  have f0 := hz2.fz
                  unfold put8n at HF
                  clear hz2 HT
                  go_upto_region 25 with fail
                  refine via (fun W => Mid x w W g h gc gw gn gt m q' y z u y2 ra2 rc2 (m.still (m.movedM q'.now q'.l))) HF.out (fun W1 hW1 => ?_)
                  have HM1 := Lib.hid hW1
                  clear c0 c1 c2 c3 c4 c5 c6 c7 f0 hW1 HF zq2 zq12 zq13 zq14 zq15 zq16 zq17
                  obtain ⟨c0, c1, c2, c3, c4, c5, c6, c7⟩ := HM1.out.inv.fz.c8
                  have zq2 := HM1.out.call.cell 2
                  have zq12 := HM1.out.call.cell 12
                  have zq13 := HM1.out.call.cell 13
                  have zq14 := HM1.out.call.cell 14
                  have zq15 := HM1.out.call.cell 15
                  have zq16 := HM1.out.call.cell 16
                  have zq17 := HM1.out.call.cell 17
                  simp only [CaV.cells, List.getElem?_toArray, List.getElem?_cons_succ, List.getElem?_cons_zero] at zq2 zq12 zq13 zq14 zq15 zq16 zq17
                  have HQL1 := Lib.hid (show FsAt W1 (.slice q'.l.a q'.l.fs.length q'.l.c) q'.l.fs from (HQW.out.1.below HM1.out.inv.fy.bel).l)
                  have HT2 := Lib.hid (show Calls Tryz.prog 14 #[z.val, .int .u64 q'.now, q'.l.val] W1 fun e w' => FetPost (m.still (m.movedM q'.now q'.l)) W1 e w' from by have := dmoved_any z q'.now q'.l W1 HM1.out.inv.fz.ok (by have h1 := HI.out.inn.len; rw [← HM1.out.inv.fz.m] at h1; have h2 : z.set.length ≤ 1000 := h1; omega) (by have h1 := HI.out.body; rw [← HM1.out.inv.fz.m] at h1; have h2 : z.body.length ≤ 5000 := h1; omega) HQ2.out.1.now (by have h1 := HI.out.n1; have h2 := HI.out.nn; rw [← HM1.out.inv.fz.m] at h2; have h3 : z.n = n := h2; omega) HQL1.out (small_frags HQ2.out.2.2); rwa [HM1.out.inv.fz.m] at this)
                  simp only [LgV.val, LgV.arr] at HT2
                  go_wp2_with fail
                  refine HT2.out.mono ?_
                  rintro e wv ⟨z2, rb2, rcb2, rfl, p1, p2, p3, p4, p5⟩
                  have HE := Lib.hid (HM1.out.two HNM.out p1 p2 p3 p4 p5 (moved_inv HI.out q'.now q'.l) (stays_moved q'.r.frm HI.out q'.now q'.l).one)
                  have hz2 := HM1.out.tx.below p4
                  clear c0 c1 c2 c3 c4 c5 c6 c7 p1 p2 p3 p4 p5
                  obtain ⟨c0, c1, c2, c3, c4, c5, c6, c7⟩ := hz2.c8
                  have f0 := hz2.fz
                  unfold put8n at HE
                  clear hz2 HT2
                  go_wp2_with fail
                  exact HKK26.out _ _ _ _ _ _ _ _ _ _ _ _ _ _ _ _ _ _ _ _ _ _ _ _ _ _ _ _ _ _ _ _ _ _ _ _ _ _ _ _ _ _ _ _ _ _ _ _ _ _ _ _ _ _ _ _ _ _ _ _ _ _ _ _ _ _ _ _ _ _ _ _ _ _ _ _ _ _ _ _ _ _ _ _ _ _ _ _ _ _ _ _ _ _ _ _ _ _ _ _ _ _ _ _ _ _ _ _ _ _ _ _ _ _ _ _ _ _ _ _ _ _ _ _ _ _ _ _ _ _ _ _ _ HE.out
                · have e4 : (kd == 4) = false := by simpa using h4
                  have e4' : decide (kd = 4) = false := decide_eq_false h4
                  clear h3 h4
                  have zq2 := HZ.out.call.cell 2
                  have zq3 := HZ.out.call.cell 3
                  have zq4 := HZ.out.call.cell 4
                  have zq5 := HZ.out.call.cell 5
                  have zq6 := HZ.out.call.cell 6
                  have zq7 := HZ.out.call.cell 7
                  have zq8 := HZ.out.call.cell 8
                  have zq9 := HZ.out.call.cell 9
                  have zq10 := HZ.out.call.cell 10
                  have zq11 := HZ.out.call.cell 11
                  simp only [CaV.cells, List.getElem?_toArray, List.getElem?_cons_succ, List.getElem?_cons_zero] at zq2 zq3 zq4 zq5 zq6 zq7 zq8 zq9 zq10 zq11
                  have HT := Lib.hid (HZ.out.inv.fy.take HI.out.inn (by have := HI.out.body; omega) q'.now HQ2.out.1.now q'.r HQ2.out.1.r (by have := HQ2.out.2.1; omega) rfl)

                  clear zq0
                  go_wp2_with fail
                  refine HT.out.mono ?_
                  rintro e wy ⟨y2, ra2, rc2, rfl, p1, p2, p3, p4, p5⟩
                  have HF := Lib.hid (HZ.out.one HNM.out p1 p2 p3 p4 p5)
                  have hz2 := HZ.out.nx.below p4
                  clear c0 c1 c2 c3 c4 c5 c6 c7 p1 p2 p3 p4 p5
                  obtain ⟨c0, c1, c2, c3, c4, c5, c6, c7⟩ := hz2.c8
                  have f0 := hz2.fz
                  unfold put8n at HF
                  clear hz2 HT
                  go_upto_region 19 with fail
                  refine via (fun W => Mid x w W g h gc gw gn gt m q' y z u y2 ra2 rc2 (m.still (m.takeM q'.now q'.r))) HF.out (fun W1 hW1 => ?_)
                  have HM1 := Lib.hid hW1
                  clear c0 c1 c2 c3 c4 c5 c6 c7 f0 hW1 HF zq2 zq3 zq4 zq5 zq6 zq7 zq8 zq9 zq10 zq11
                  obtain ⟨c0, c1, c2, c3, c4, c5, c6, c7⟩ := HM1.out.inv.fz.c8
                  have zq2 := HM1.out.call.cell 2
                  have zq3 := HM1.out.call.cell 3
                  have zq4 := HM1.out.call.cell 4
                  have zq5 := HM1.out.call.cell 5
                  have zq6 := HM1.out.call.cell 6
                  have zq7 := HM1.out.call.cell 7
                  have zq8 := HM1.out.call.cell 8
                  have zq9 := HM1.out.call.cell 9
                  have zq10 := HM1.out.call.cell 10
                  have zq11 := HM1.out.call.cell 11
                  simp only [CaV.cells, List.getElem?_toArray, List.getElem?_cons_succ, List.getElem?_cons_zero] at zq2 zq3 zq4 zq5 zq6 zq7 zq8 zq9 zq10 zq11
                  have HQL1 := Lib.hid (show q'.r.ok W1 from (HQW.out.1.below HM1.out.inv.fy.bel).r)
                  have HT2 := Lib.hid (show Calls Tryz.prog 16 #[z.val, .int .u64 q'.now, q'.r.val] W1 fun e w' => FetPost (m.still (m.takeM q'.now q'.r)) W1 e w' from by have := dtake_any z q'.now q'.r W1 HM1.out.inv.fz.ok (by rw [HM1.out.inv.fz.m]; exact HI.out.inn) (by have h1 := HI.out.body; rw [← HM1.out.inv.fz.m] at h1; have h2 : z.body.length ≤ 5000 := h1; omega) HQ2.out.1.now HQL1.out (by have := HQ2.out.2.1; omega); rwa [HM1.out.inv.fz.m] at this)

                  go_wp2_with fail
                  refine HT2.out.mono ?_
                  rintro e wv ⟨z2, rb2, rcb2, rfl, p1, p2, p3, p4, p5⟩
                  have HE := Lib.hid (HM1.out.two HNM.out p1 p2 p3 p4 p5 (take_inv HI.out q'.now q'.r HQ2.out.2.1) (stays_take HI.out q'.now q'.r).one)
                  have hz2 := HM1.out.tx.below p4
                  clear c0 c1 c2 c3 c4 c5 c6 c7 p1 p2 p3 p4 p5
                  obtain ⟨c0, c1, c2, c3, c4, c5, c6, c7⟩ := hz2.c8
                  have f0 := hz2.fz
                  unfold put8n at HE
                  clear hz2 HT2
                  go_wp2_with fail
                  exact HKK26.out _ _ _ _ _ _ _ _ _ _ _ _ _ _ _ _ _ _ _ _ _ _ _ _ _ _ _ _ _ _ _ _ _ _ _ _ _ _ _ _ _ _ _ _ _ _ _ _ _ _ _ _ _ _ _ _ _ _ _ _ _ _ _ _ _ _ _ _ _ _ _ _ _ _ _ _ _ _ _ _ _ _ _ _ _ _ _ _ _ _ _ _ _ _ _ _ _ _ _ _ _ _ _ _ _ _ _ _ _ _ _ _ _ _ _ _ _ _ _ _ _ _ _ _ _ _ _ _ _ _ _ _ _ HE.out
          clear hK14
          by_cases hown : 0 < q.own
          · have hqe : q' = q.mine x.i n tag := by rw [hq', if_pos hown]
            have dk : decide (0 < q.own) = true := decide_eq_true hown
            have x5 := HX.out.1.cell 5
            have x7 := HX.out.1.cell 7
            have x8 := HX.out.1.cell 8
            have x9 := HX.out.1.cell 9
            have x12 := HX.out.1.cell 12
            have xf := HX.out.1.fz
            simp only [CaV.cells, List.getElem?_toArray, List.getElem?_cons_succ, List.getElem?_cons_zero] at x5 x7 x8 x9 x12
            clear hq' hown
            rw [dk]
            go_wp2_with fail
            refine wp_region_held_drew (S := fun W' => W'.cell? ⟨w.heap.size, 0, none⟩ = some (.int .u64 x.i)) (by kernel_rfl) HS0.out (fun hHeld => ?_)
            refine wpAnyH_take (i := 0) (oi := _) (v := ?v1) rfl (by kernel_rfl) (by kernel_rfl) (by kernel_rfl) (fun _ _ _ h => h) (Or.inl ⟨by rfl, ?h1⟩) hHeld ?r1
            case h1 => (intro w hSw; (try dsimp only at hSw); go_simp; try with_reducible rfl)
            try simp only [List.getElem_toArray, List.getElem_cons_succ, List.getElem_cons_zero, Act.put, List.setIfInBounds_toArray, List.set_cons_zero, List.set_cons_succ]
            refine wpAnyH_take (i := 1) (oi := _) (v := ?v2) rfl (by kernel_rfl) (by kernel_rfl) (by kernel_rfl) (fun _ _ _ h => h) (Or.inl ⟨by rfl, ?h2⟩) hHeld ?r2
            case h2 => (intro w hSw; (try dsimp only at hSw); go_simp; try with_reducible rfl)
            try simp only [List.getElem_toArray, List.getElem_cons_succ, List.getElem_cons_zero, Act.put, List.setIfInBounds_toArray, List.set_cons_zero, List.set_cons_succ]
            refine wpAnyH_take (i := 2) (oi := _) (v := ?v3) rfl (by kernel_rfl) (by kernel_rfl) (by kernel_rfl) (fun _ _ _ h => h) (Or.inl ⟨by rfl, ?h3⟩) hHeld ?r3
            case h3 => (intro w hSw; (try dsimp only at hSw); go_simp; try with_reducible rfl)
            try simp only [List.getElem_toArray, List.getElem_cons_succ, List.getElem_cons_zero, Act.put, List.setIfInBounds_toArray, List.set_cons_zero, List.set_cons_succ]
            refine wpAnyH_take (i := 3) (oi := _) (v := ?v4) rfl (by kernel_rfl) (by kernel_rfl) (by kernel_rfl) (fun _ _ _ h => h) (Or.inl ⟨by rfl, ?h4⟩) hHeld ?r4
            case h4 => (intro w hSw; (try dsimp only at hSw); go_simp; try with_reducible rfl)
            try simp only [List.getElem_toArray, List.getElem_cons_succ, List.getElem_cons_zero, Act.put, List.setIfInBounds_toArray, List.set_cons_zero, List.set_cons_succ]
            refine wpAnyH_take (i := 4) (oi := _) (v := ?v5) rfl (by kernel_rfl) (by kernel_rfl) (by kernel_rfl) (fun _ _ _ h => h) (Or.inl ⟨by rfl, ?h5⟩) hHeld ?r5
            case h5 => (intro w hSw; (try dsimp only at hSw); go_simp; try with_reducible rfl)
            try simp only [List.getElem_toArray, List.getElem_cons_succ, List.getElem_cons_zero, Act.put, List.setIfInBounds_toArray, List.set_cons_zero, List.set_cons_succ]
            refine wpAnyH_take (i := 5) (oi := _) (v := ?v6) rfl (by kernel_rfl) (by kernel_rfl) (by kernel_rfl) (fun _ _ _ h => h) (Or.inl ⟨by rfl, ?h6⟩) hHeld ?r6
            case h6 => (intro w hSw; (try dsimp only at hSw); go_simp; try with_reducible rfl)
            try simp only [List.getElem_toArray, List.getElem_cons_succ, List.getElem_cons_zero, Act.put, List.setIfInBounds_toArray, List.set_cons_zero, List.set_cons_succ]
            refine wpAnyH_take (i := 6) (oi := _) (v := ?v7) rfl (by kernel_rfl) (by kernel_rfl) (by kernel_rfl) (fun _ _ _ h => h) (Or.inl ⟨by rfl, ?h7⟩) hHeld ?r7
            case h7 => (intro w hSw; (try dsimp only at hSw); go_simp; try with_reducible rfl)
            try simp only [List.getElem_toArray, List.getElem_cons_succ, List.getElem_cons_zero, Act.put, List.setIfInBounds_toArray, List.set_cons_zero, List.set_cons_succ]
            refine wpAnyH_take (i := 7) (oi := _) (v := ?v8) rfl (by kernel_rfl) (by kernel_rfl) (by kernel_rfl) (fun _ _ _ h => h) (Or.inl ⟨by rfl, ?h8⟩) hHeld ?r8
            case h8 => (intro w hSw; (try dsimp only at hSw); go_simp; try with_reducible rfl)
            try simp only [List.getElem_toArray, List.getElem_cons_succ, List.getElem_cons_zero, Act.put, List.setIfInBounds_toArray, List.set_cons_zero, List.set_cons_succ]
            refine wpAnyH_ready (rs := [8]) (by kernel_rfl) (by simp) ?_
            refine AllReadyH.cons rfl (fun K hK => ?_) ?_
            · go_simp
              refine hK.out _ _ ?_ (fun hHeld => ?_)
              · (have hne := HNE.out; have hh := HS0.out; simp [World.cell?_setCell_other, hne, hh])
              clear hK K
              refine wpAnyH_take (i := 9) (oi := _) (v := ?v9) rfl (by kernel_rfl) (by kernel_rfl) (by kernel_rfl) (fun _ _ _ h => h) (Or.inl ⟨by rfl, ?h9⟩) hHeld ?r9
              case h9 => (intro w hSw; (try dsimp only at hSw); go_simp; try with_reducible rfl)
              try simp only [List.getElem_toArray, List.getElem_cons_succ, List.getElem_cons_zero, Act.put, List.setIfInBounds_toArray, List.set_cons_zero, List.set_cons_succ]
              refine wpAnyH_take (i := 10) (oi := _) (v := ?v10) rfl (by kernel_rfl) (by kernel_rfl) (by kernel_rfl) (fun _ _ _ h => h) (Or.inl ⟨by rfl, ?h10⟩) hHeld ?r10
              case h10 => (intro w hSw; (try dsimp only at hSw); go_simp; try with_reducible rfl)
              try simp only [List.getElem_toArray, List.getElem_cons_succ, List.getElem_cons_zero, Act.put, List.setIfInBounds_toArray, List.set_cons_zero, List.set_cons_succ]
              refine wpAnyH_ready (rs := [11]) (by kernel_rfl) (by simp) ?_
              refine AllReadyH.cons rfl (fun K hK => ?_) ?_
              · go_simp
                refine hK.out _ _ ?_ (fun hHeld => ?_)
                · (have hne := HNE.out; have hh := HS0.out; simp [World.cell?_setCell_other, hne, hh])
                clear hK K
                refine wpAnyH_take (i := 12) (oi := _) (v := ?v11) rfl (by kernel_rfl) (by kernel_rfl) (by kernel_rfl) (fun _ _ _ h => h) (Or.inl ⟨by rfl, ?h11⟩) hHeld ?r11
                case h11 => (intro w hSw; (try dsimp only at hSw); go_simp; try with_reducible rfl)
                try simp only [List.getElem_toArray, List.getElem_cons_succ, List.getElem_cons_zero, Act.put, List.setIfInBounds_toArray, List.set_cons_zero, List.set_cons_succ]
                refine wpAnyH_take (i := 13) (oi := _) (v := ?v12) rfl (by kernel_rfl) (by kernel_rfl) (by kernel_rfl) (fun _ _ _ h => h) (Or.inl ⟨by rfl, ?h12⟩) hHeld ?r12
                case h12 => (intro w hSw; (try dsimp only at hSw); go_simp; try with_reducible rfl)
                try simp only [List.getElem_toArray, List.getElem_cons_succ, List.getElem_cons_zero, Act.put, List.setIfInBounds_toArray, List.set_cons_zero, List.set_cons_succ]
                refine wpAnyH_ready (rs := [14]) (by kernel_rfl) (by simp) ?_
                refine AllReadyH.cons rfl (fun K hK => ?_) ?_
                · go_simp
                  refine hK.out _ _ ?_ (fun hHeld => ?_)
                  · (have hne := HNE.out; have hh := HS0.out; simp [World.cell?_setCell_other, hne, hh])
                  clear hK K
                  refine wpAnyH_take (i := 15) (oi := _) (v := ?v13) rfl (by kernel_rfl) (by kernel_rfl) (by kernel_rfl) (fun _ _ _ h => h) (Or.inl ⟨by rfl, ?h13⟩) hHeld ?r13
                  case h13 => (intro w hSw; (try dsimp only at hSw); go_simp; try with_reducible rfl)
                  try simp only [List.getElem_toArray, List.getElem_cons_succ, List.getElem_cons_zero, Act.put, List.setIfInBounds_toArray, List.set_cons_zero, List.set_cons_succ]
                  refine wpAnyH_take (i := 16) (oi := _) (v := ?v14) rfl (by kernel_rfl) (by kernel_rfl) (by kernel_rfl) (fun _ _ _ h => h) (Or.inl ⟨by rfl, ?h14⟩) hHeld ?r14
                  case h14 => (intro w hSw; (try dsimp only at hSw); go_simp; try with_reducible rfl)
                  try simp only [List.getElem_toArray, List.getElem_cons_succ, List.getElem_cons_zero, Act.put, List.setIfInBounds_toArray, List.set_cons_zero, List.set_cons_succ]
                  refine wpAnyH_ready (rs := [17]) (by kernel_rfl) (by simp) ?_
                  refine AllReadyH.cons rfl (fun K hK => ?_) ?_
                  · go_simp
                    refine hK.out _ _ ?_ (fun hHeld => ?_)
                    · (have hne := HNE.out; have hh := HS0.out; simp [World.cell?_setCell_other, hne, hh])
                    clear hK K
                    refine wpAnyH_take (i := 18) (oi := _) (v := ?v15) rfl (by kernel_rfl) (by kernel_rfl) (by kernel_rfl) (fun _ _ _ h => h) (Or.inl ⟨by rfl, ?h15⟩) hHeld ?r15
                    case h15 => (intro w hSw; (try dsimp only at hSw); go_simp; try with_reducible rfl)
                    try simp only [List.getElem_toArray, List.getElem_cons_succ, List.getElem_cons_zero, Act.put, List.setIfInBounds_toArray, List.set_cons_zero, List.set_cons_succ]
                    refine wpAnyH_take (i := 19) (oi := _) (v := ?v16) rfl (by kernel_rfl) (by kernel_rfl) (by kernel_rfl) (fun _ _ _ h => h) (Or.inl ⟨by rfl, ?h16⟩) hHeld ?r16
                    case h16 => (intro w hSw; (try dsimp only at hSw); go_simp; try with_reducible rfl)
                    try simp only [List.getElem_toArray, List.getElem_cons_succ, List.getElem_cons_zero, Act.put, List.setIfInBounds_toArray, List.set_cons_zero, List.set_cons_succ]
                    refine wpAnyH_ready (rs := [20]) (by kernel_rfl) (by simp) ?_
                    refine AllReadyH.cons rfl (fun K hK => ?_) ?_
                    · go_simp
                      refine hK.out _ _ ?_ (fun hHeld => ?_)
                      · (have hne := HNE.out; have hh := HS0.out; simp [World.cell?_setCell_other, hne, hh])
                      clear hK K
                      refine wpAnyH_done (by kernel_rfl) ?_ _
                      exact HKK14.out _ _ _ _ _ _ _ _ _ _ _ _ _ _ _ _ _ _ _ _ _ _ _ _ _ _ _ _ _ _ _ _ _ _ _ _ _ _ _ _ _ _ _ _ _ _ _ _ _ _ _ _ _ _ _ _ _ _ _ _ _ _ _ _ _ _ _ _ _ _ _ _ _ _ _ _ _ _ _ _ _ _ _ _ _ _ _ _ _ _ _ _ _ _ _ _ _ _ _ _ _ _ _ _ _ _ _ _ _ _ _ _ _ _ _ _ _ _ _ _ _ _ _ _ _ _ (by rw [hqe]; exact ((((HX.out.1.set 5 _).set 7 _).set 8 _).set 9 _).set 12 _) (own_below HX.out.2 (by omega))
                    exact AllReadyH.nil
                  exact AllReadyH.nil
                exact AllReadyH.nil
              exact AllReadyH.nil
            exact AllReadyH.nil
          · have hqe : q' = q := by rw [hq', if_neg hown]
            have dk : decide (0 < q.own) = false := decide_eq_false hown
            clear hq' hown
            rw [dk]
            go_wp2_with fail
            exact HKK14.out _ _ _ _ _ _ _ _ _ _ _ _ _ _ _ _ _ _ _ _ _ _ _ _ _ _ _ _ _ _ _ _ _ _ _ _ _ _ _ _ _ _ _ _ _ _ _ _ _ _ _ _ _ _ _ _ _ _ _ _ _ _ _ _ _ _ _ _ _ _ _ _ _ _ _ _ _ _ _ _ _ _ _ _ _ _ _ _ _ _ _ _ _ _ _ _ _ _ _ _ _ _ _ _ _ _ _ _ _ _ _ _ _ _ _ _ _ _ _ _ _ _ _ _ _ _ (by rw [hqe]; exact HX.out.1) HX.out.2
        · obtain rfl : i = N := by omega
          have HAW2 := Lib.hid (HAW.out wr)
          have HBW := Lib.hid HR.out.1.fy.bel
          go_wp2_with fail
          refine HAW2.out.mono ?_
          rintro e w6 ⟨rfl, hb6⟩
          have HB6 := Lib.hid (HBW.out.trans (hb6.mono HBW.out.size))
          clear hb6
          go_wp2
          go_ret
          exact ⟨rfl, HB6.out⟩
    · go_wp2_with fail
      refine (HAW.out _).mono ?_
      rintro e w6 ⟨rfl, hb6⟩
      have HB6 := Lib.hid (HP5.out.fy.bel.trans (hb6.mono HP5.out.fy.bel.size))
      clear hb6
      go_wp2
      go_ret
      exact ⟨rfl, HB6.out⟩
end Go.Proofs.YtpihogkhfmijcaaGreat
