/- ReaderRound. -/
import Derived.Test.YtpihogkhfmijcaaRoundM
import Derived.Test.YtpihogkhfmijcaaAwake
import Derived.Deep.CutBlock
import Derived.Deep.RegionHeldLaw
namespace Go.Proofs.Ytpihogkhfmijcaa
open Go.RowKit Go.Maps Go.Shelf
set_option linter.unusedSimpArgs false
theorem BoxC.ch1 {g b : Nat} {W W' : World} {T : TypeId} {cs : Array Value} (h : BoxC W b T cs) (hne : b ≠ g) (hc : Ch1 g W W') : BoxC W' b T cs := Chg.heap hc h hne
/-- boxes of unlike kinds are two -/
theorem BoxC.ne {w : World} {b b' : Nat} {T T' : TypeId} {cs cs' : Array Value} (h : BoxC w b T cs) (h' : BoxC w b' T' cs') (hT : T ≠ T') : b ≠ b' := fun e => by
  subst e
  have := h.symm.trans h'
  injection this with this
  injection this with _ e
  exact hT e
/-- a row of what is asked has a block of its own kind -/
theorem QsAt.off {w : World} {a : Option Addr} {n c : Nat} {L : List RqM} (h : QsAt w (.slice a n c) L) {b : Nat} {T : TypeId} {cs : Array Value} (hb : BoxC w b T cs) (hT : T ≠ 49) : ∀ k, ab a = some k → k ≠ b := by
  intro k hk e
  rcases h.1.2 with ⟨h2, -⟩ | ⟨g, cap, cur, hv, -, hg, -⟩
  · cases h2; cases hk
  · cases hv
    cases hk
    subst e
    have := hb.symm.trans hg
    injection this with this
    injection this with _ e
    exact hT e
/-- what the law holds: its fetch, what it asks, its ledger's block -/
structure RL (x : LgV) (w wr : World) (g : Nat) (y : FeV) (m : FeM) (ra : Option Addr) (rc : Nat) (qs : List RqM) : Prop where
  st : St w wr g y m
  sep : Sep y g
  rq : QsAt wr (.slice ra qs.length rc) qs
  rb : ∀ b, ab ra = some b → w.heap.size ≤ b
  box : BoxC wr w.heap.size 25 x.arr
section
variable {x : LgV} {w Z W1 W : World} {g : Nat} {y y2 : FeV} {m : FeM} {ra rb : Option Addr} {rc rcb : Nat} {qs : List RqM} {M : FeM × List RqM}
theorem RL.below (h : RL x w Z g y m ra rc qs) (hb : Below Z.heap.size Z W) : RL x w W g y m ra rc qs := ⟨h.st.below hb, h.sep, h.rq.below hb, h.rb, h.box.below hb⟩
/-- behind a call whose fetch is written in its place -/
theorem RL.next (h : RL x w Z g y m ra rc qs) (p1 : y2.m = M.1) (p2 : y2.ok W1) (p3 : QsAt W1 (.slice rb M.2.length rcb) M.2) (p4 : Below Z.heap.size Z W1) (p5 : ∀ b, y2.blk b ∨ ab rb = some b → Z.heap.size ≤ b) :
    RL x w (put8n W1 g y2) g y2 M.1 rb rcb M.2 ∧ Ch1 g Z (put8n W1 g y2) := by
  obtain ⟨s1, s2, s3⟩ := h.st.next (Below.refl _ _) p1 p2 p3 p4 p5
  exact ⟨⟨s1, Sep.of_new p5 h.st.box.lt, s2.1, fun b e => by have := p5 b (.inr e); have := h.st.bel.size; omega, h.box.ch1 (h.box.ne h.st.box (by decide)) s3⟩, s3⟩
/-- behind such a call, and one more to what is asked -/
theorem RL.app (h : RL x w Z g y m ra rc qs) (p1 : y2.m = M.1) (p2 : y2.ok W1) (p3 : QsAt W1 (.slice rb M.2.length rcb) M.2) (p4 : Below Z.heap.size Z W1) (p5 : ∀ b, y2.blk b ∨ ab rb = some b → Z.heap.size ≤ b) :
    OwnRow 49 10 RqM.cells w.heap.size (put8n W1 g y2) (.slice ra qs.length rc) qs ∧ RowAt (fun _ x => x.ok) 10 RqM.cells (put8n W1 g y2) (.slice rb M.2.length rcb) M.2 ∧ (∀ u ∈ M.2.flatMap RqM.cells, u.oneCell' = true) ∧ w.heap.size ≤ (put8n W1 g y2).heap.size ∧
    ∀ v' W, OwnRow 49 10 RqM.cells w.heap.size W v' (qs ++ M.2) → (put8n W1 g y2).grownBy W (Value.slice ra qs.length rc).ownBlock → ∃ ra' rc', v' = .slice ra' (qs ++ M.2).length rc' ∧ RL x w W g y2 M.1 ra' rc' (qs ++ M.2) ∧ ∀ b T cs, BoxC Z b T cs → T ≠ 49 → T ≠ 32 → BoxC W b T cs := by
  obtain ⟨h1, hc⟩ := h.next p1 p2 p3 p4 p5
  have hq : QsAt (put8n W1 g y2) (.slice ra qs.length rc) qs := h.rq.ch1 (h.rq.off h.st.box (by decide)) hc
  have hup : OwnRow 49 10 RqM.cells w.heap.size (put8n W1 g y2) (.slice ra qs.length rc) qs := by
    refine ⟨hq.1.1, ?_⟩
    rcases hq.1.2 with h2 | ⟨b, cap, cur, hv, -, hg, r⟩
    · exact .inl h2
    · cases hv
      exact .inr ⟨b, _, cur, rfl, h.rb b rfl, hg, r⟩
  have hsz : w.heap.size ≤ (put8n W1 g y2).heap.size := h1.st.bel.size
  refine ⟨hup, h1.rq.row, fun u hu => ?_, hsz, fun v' W hown hgr => ?_⟩
  · obtain ⟨q, hq, hu⟩ := List.mem_flatMap.1 hu
    exact rq_one q u hu
  · obtain ⟨ra', rc', rfl⟩ := OwnRow.form hown
    have hb : Below w.heap.size (put8n W1 g y2) W := (Below.refl _ _).grown hgr hsz (fun k e => by rw [ownBlock_ab] at e; exact h.rb k e)
    have hch : Chg (fun b => ab ra = some b) (put8n W1 g y2) W := (Chg.refl _ _).grown hgr (fun k e => .inl (by rw [ownBlock_ab] at e; exact e))
    have hbox : ∀ b T cs, BoxC (put8n W1 g y2) b T cs → T ≠ 49 → BoxC W b T cs := fun b T cs hb hT => Chg.heap hch hb (fun e => hq.off hb hT b e rfl)
    have hlt : ∀ k, ab ra = some k → k < Z.heap.size := fun k e => (OwnRow.ab h.rq.1 k e).2
    have hy : y2.ok W := ⟨h1.st.ok.nums, RowAt.frame h1.st.ok.st hch.size (fun b e hl => hch.block b hl (fun e2 => by have := p5 b (.inl (.inl e)); have := hlt b e2; omega)) (fun _ _ h => h), RowAt.frame h1.st.ok.bd hch.size (fun b e hl => hch.block b hl (fun e2 => by have := p5 b (.inl (.inr e)); have := hlt b e2; omega)) (fun _ _ h => h)⟩
    refine ⟨ra', rc', rfl, ⟨⟨hbox _ _ _ h1.st.box (by decide), hy, h1.st.m, h1.st.gl, h1.st.bel.trans hb⟩, h1.sep, ⟨OwnRow.base_le hown (Nat.zero_le _), fun q hq' => ?_⟩, fun b e => (OwnRow.ab hown b e).1, hbox _ _ _ h1.box (by decide)⟩, fun b T cs hb hT hT2 => hbox b T cs (hb.ch1 (hb.ne h.st.box hT2) hc) hT⟩
    rcases List.mem_append.1 hq' with h2 | h2
    · exact hq.2 q h2
    · exact p3.2 q h2
end
/-- how far the round has come: ahead of the tick number t -/
def Outer (x : LgV) (n : Int) (p : PL) (body : List Int) (w wr : World) (g gh : Nat) (y : FeV) (m : FeM) (ra : Option Addr) (rc : Nat) (qs : List RqM) (nw : Int) (t : Nat) : Prop :=
  (RL x w wr g y m ra rc qs ∧ BoxC wr gh 38 #[.int .i64 p.n, .int .u64 p.s]) ∧ Within n (setV x.fs x.W n) p body nw t 0 m qs ∧ qs.length ≤ 1 ∧ 0 ≤ nw ∧ nw ≤ 1152921504606846976 + (t : Int)
/-- within a tick, behind k answers -/
def Inner (x : LgV) (n : Int) (p : PL) (body : List Int) (w wr : World) (g gh : Nat) (y : FeV) (m : FeM) (ra : Option Addr) (rc : Nat) (qs : List RqM) (nw : Int) (t k : Nat) : Prop :=
  (RL x w wr g y m ra rc qs ∧ BoxC wr gh 38 #[.int .i64 p.n, .int .u64 p.s]) ∧ Within n (setV x.fs x.W n) p body nw t k m qs ∧ qs.length ≤ k + 1 ∧ (m.done = 1 → k = qs.length)
/-- how far the first ticks have come -/
def First (x : LgV) (n : Int) (w wr : World) (g : Nat) (y : FeV) (m : FeM) (ra : Option Addr) (rc : Nat) (qs : List RqM) (nw : Int) : Prop :=
  RL x w wr g y m ra rc qs ∧ Live n (setV x.fs x.W n) nw m ∧ (qs = [] ∨ qs = [m.rq]) ∧ 0 ≤ nw ∧ nw ≤ 1152921504606846976
set_option maxRecDepth 100000 in
set_option maxHeartbeats 16000000 in
theorem lround_any (x : LgV) (n tag now bits : Int) (a : Option Addr) (c : Nat) (L : List CaV) (ba : Option Addr) (bc : Nat) (body : List Int) (w : World) (hx : FsAt w (.slice x.a x.fs.length x.c) x.fs) (hi : u64ok x.i) (hn : u64ok n) (ht : u64ok tag) (hw : u64ok now) (hbi : i64ok bits) (hL : CasAt w (.slice a L.length c) L) (hbd : BsAt w (.slice ba body.length bc) body) :
    Calls Try.prog 3 #[x.val, .int .u64 n, .int .u64 tag, .int .u64 now, .slice a L.length c, .int .i64 bits, .slice ba body.length bc] w fun e w' => e = .returned (.bool true) ∧ Below w.heap.size w w' := by
  have HB := Lib.hid (Go.Joins.below_alloc1 w (.cells x.arr 25))
  have HH := Lib.hid (heavy_any x a c L _ (hx.below HB.out) (hL.below HB.out))
  have HAW := Lib.hid (fun W => awake_any W)
  have HNW := Lib.hid (fun (hlt : Light x L) W (hW : Below w.heap.size w W) => New_any x n tag now W (hx.below hW) (small_frags hlt.2.1) hi hn ht hw)
  have HLL := Lib.hid hL
  have HXS := Lib.hid (And.intro hx hbd)
  have HU := Lib.hid (And.intro hi (And.intro hn (And.intro ht (And.intro hw hbi))))
  have HBX := Lib.hid (fun Z (hZ : Below (w.alloc (.cells x.arr 25)).heap.size (w.alloc (.cells x.arr 25)) Z) => (BoxC.new w 25 x.arr).below hZ)
  obtain ⟨N, hN⟩ : ∃ N, L.length = N := ⟨_, rfl⟩
  obtain ⟨NB, hNB⟩ : ∃ NB, body.length = NB := ⟨_, rfl⟩
  have HN := Lib.hid hN
  have HNB := Lib.hid hNB
  rw [hN] at HH HLL ⊢
  rw [hNB] at HXS ⊢
  simp only [LgV.val, LgV.arr] at HH HNW ⊢
  simp only [LgV.arr] at HB HBX
  clear hx hi hn ht hw hL hN hNB hbi hbd
  go_enter Try.func3, Try.ntmps3
  go_wp2_with fail
  refine HH.out.mono ?_
  rintro e w1 ⟨R, rfl, hR, hb1⟩
  have HR := Lib.hid hR
  have HB1 := Lib.hid (And.intro (HBX.out w1 hb1) (HB.out.trans (hb1.mono HB.out.size)))
  clear hR hb1 HH HBX HB
  cases R with
  | true =>
    go_wp2_with fail
    refine (HAW.out _).mono ?_
    rintro e w2 ⟨rfl, hb2⟩
    have HB2 := Lib.hid (HB1.out.2.trans (hb2.mono HB1.out.2.size))
    clear hb2
    go_wp2
    go_ret
    exact ⟨rfl, HB2.out⟩
  | false =>
    have HLT := Lib.hid (HR.out rfl)
    have hN200 : N ≤ 200 := by have := HLT.out.1; have := HN.out; omega
    have HNE := Lib.hid (HNW.out HLT.out w1 HB1.out.2)
    clear HNW HR
    by_cases hbl : 5000 < NB
    · have g1 : decide ((5000 : Int) < (NB : Int)) = true := decide_eq_true (by omega)
      clear hbl
      go_wp2_with fail
      refine (HAW.out _).mono ?_
      rintro e w2 ⟨rfl, hb2⟩
      have HB2 := Lib.hid (HB1.out.2.trans (hb2.mono HB1.out.2.size))
      clear hb2
      go_wp2
      go_ret
      exact ⟨rfl, HB2.out⟩
    · have g1 : decide ((5000 : Int) < (NB : Int)) = false := decide_eq_false (by omega)
      have HBL := Lib.hid hbl
      clear hbl
      by_cases hnw : 1152921504606846976 < now
      · have g2 : decide ((1152921504606846976 : Int) < now) = true := decide_eq_true hnw
        clear hnw
        go_wp2_with fail
        refine (HAW.out _).mono ?_
        rintro e w2 ⟨rfl, hb2⟩
        have HB2 := Lib.hid (HB1.out.2.trans (hb2.mono HB1.out.2.size))
        clear hb2
        go_wp2
        go_ret
        exact ⟨rfl, HB2.out⟩
      · have g2 : decide ((1152921504606846976 : Int) < now) = false := decide_eq_false hnw
        have HNL := Lib.hid hnw
        clear hnw
        obtain ⟨b0, b1, b2, b3, b4, b5⟩ : w1.cell? ⟨w.heap.size, 0, none⟩ = some (.int .u64 x.i) ∧ w1.cell? ⟨w.heap.size, 1, none⟩ = some (.int .i64 x.W) ∧ w1.cell? ⟨w.heap.size, 2, none⟩ = some (.int .i64 x.A) ∧ w1.cell? ⟨w.heap.size, 3, none⟩ = some (.slice x.a x.fs.length x.c) ∧ w1.cell? ⟨w.heap.size, 4, none⟩ = some (.int .i64 x.cl) ∧ w1.cell? ⟨w.heap.size, 5, none⟩ = some (.int .u64 x.last) := ⟨HB1.out.1.cell 0, HB1.out.1.cell 1, HB1.out.1.cell 2, HB1.out.1.cell 3, HB1.out.1.cell 4, HB1.out.1.cell 5⟩
        go_wp2_with fail
        refine HNE.out.mono ?_
        rintro e w2 hq
        rcases hq with ⟨hok, y0, ra0, rc0, rfl, hm, hyo, hrq, hb2, hra⟩ | ⟨hbad, rfl, hb2⟩
        · obtain ⟨g, hg⟩ : ∃ g, w2.heap.size = g := ⟨_, rfl⟩
          have hS := St.new (w0 := w) (HB1.out.2.trans (hb2.mono HB1.out.2.size)) hyo hm
          have hBZ := ((HB1.out.1.below hb2).alloc (.cells y0.cs.toArray 32))
          have hQ0 := (QsAt.below hrq (Go.Joins.below_alloc1 w2 (.cells y0.cs.toArray 32)))
          rw [hg] at hS
          have hIn := new_inv (tag := tag) (now := now) hok
          have HF0 := Lib.hid (show First x n w (w2.alloc (.cells y0.cs.toArray 32)) g y0 (newM x n tag now).1 ra0 rc0 (newM x n tag now).2 now from
            ⟨⟨hS, Sep.of_ok hyo (by omega), hQ0, fun b e => by have := hra b e; have := HB1.out.2.size; omega, hBZ⟩, ⟨hIn, rfl, rfl, Int.le_refl _⟩, .inr rfl, HU.out.2.2.2.1.1, by have := HNL.out; omega⟩)
          have HOK := Lib.hid hok
          have HWG := Lib.hid (show w.heap.size < g by have := (HB1.out.1.below hb2).lt; omega)
          unfold FeV.cs at HF0
          clear hS hBZ hQ0 hok hm hyo hrq hb2 hra hIn b0 b1 b2 b3 b4 b5 HNE g1 g2
          go_wp2_with fail
          go_loopw [3, 16, 18] (fun vn vq vi wr => ∃ i : Nat, i ≤ N ∧ vi = .int .i64 (i : Nat) ∧ ∃ nw y m ra rc qs, vn = .int .u64 nw ∧ vq = .slice ra (List.length qs) rc ∧ Hid (First x n w wr g y m ra rc qs nw)) (fun _ _ vi _ => N - (intOf vi).toNat)
          case atStart => exact ⟨0, Nat.zero_le _, rfl, _, _, _, _, _, _, rfl, rfl, HF0⟩
          case round =>
            obtain ⟨i, hi, rfl, nw, y, m, ra, rc, qs, rfl, rfl, HR⟩ := hrel
            clear HF0
            by_cases hlt : i < N
            · have hltz : (i : Int) < (N : Int) := by omega
              obtain ⟨q, hq⟩ : ∃ q, L[i]? = some q := ⟨_, List.getElem?_eq_getElem (by rw [HN.out]; exact hlt)⟩
              obtain ⟨b, off, he, hbl, hqo, hc⟩ := RowAt.cell HLL.out hq
              cases he
              have HQO := Lib.hid hqo
              have HNE2 := Lib.hid (show b ≠ g by have := HR.out.1.st.gl; omega)
              have q0 := hc 0 (by omega) wr HR.out.1.st.bel
              have q2 := hc 2 (by omega) wr HR.out.1.st.bel
              simp only [CaV.cells, List.getElem?_cons_succ, List.getElem?_cons_zero, Nat.add_zero] at q0 q2
              obtain ⟨t5, ht5⟩ : ∃ t, q.what.tmod 5 = t := ⟨_, rfl⟩
              have hlo : -5 < t5 := by rw [← ht5]; exact Int.lt_tmod_of_pos _ (by decide)
              have hhi : t5 < 5 := by rw [← ht5]; exact Int.tmod_lt_of_pos _ (by decide)
              have e1 : IntKind.i64.wrap (t5 + 5) = t5 + 5 := wrap_small _ (by omega) (by omega)
              obtain ⟨kd, hkd⟩ : ∃ k, (t5 + 5).tmod 5 = k := ⟨_, rfl⟩
              have HSA := Lib.hid (show ∀ W, Below wr.heap.size wr W → W.cell? ⟨b, off + i * 18 + 2, none⟩ = some (.int .u64 q.now) from fun W hW => by
                have := hc 2 (by omega) W (HR.out.1.st.bel.trans (hW.mono HR.out.1.st.bel.size))
                simpa only [CaV.cells, List.getElem?_cons_succ, List.getElem?_cons_zero] using this)
              clear hc hqo hq hbl
              by_cases h3 : kd = 3
              · subst h3
                by_cases h60 : q.now < 1152921504606846976
                · have g3 : decide (q.now < 1152921504606846976) = true := decide_eq_true h60
                  have HN60 := Lib.hid h60
                  clear h60
                  obtain ⟨m2, qs2, hme, hl2, hq2⟩ := HR.out.2.1.tick q.now
                  have HTK := Lib.hid (And.intro hl2 hq2)
                  have hib := HR.out.2.1.inv
                  have hT : ∀ W, Below wr.heap.size wr W → Calls Try.prog 8 #[y.val, .int .u64 q.now] W fun e w' => FetPost (m2, qs2) W e w' := fun W hW => by
                    rw [← hme]
                    exact (HR.out.1.st.below hW).tick hib.inn (by have := hib.body; omega) q.now HQO.out.now rfl
                  have HT := Lib.hid hT
                  clear hT hib hme hl2 hq2
                  obtain ⟨c0, c1, c2, c3, c4, c5, c6, c7⟩ := HR.out.1.st.c8
                  go_wp2_with fail
                  have HS0 := Lib.hid (HSA.out wr (Below.refl _ _))
                  refine wp_region_held_drew (S := fun W' => W'.cell? ⟨b, off + i * 18 + 2, none⟩ = some (.int .u64 q.now)) (by kernel_rfl) (HSA.out wr.drew (Below.drew (Below.refl _ _))) (fun hHeld => ?_)
                  refine wpAnyH_take (i := 1) (oi := _) (v := ?v1) rfl (by kernel_rfl) (by kernel_rfl) (by kernel_rfl) (fun _ _ _ h => h) (Or.inl ⟨by rfl, ?h1⟩) hHeld ?r1
                  case h1 => (intro w hSw; (try dsimp only at hSw); go_simp; try with_reducible rfl)
                  try simp only [List.getElem_toArray, List.getElem_cons_succ, List.getElem_cons_zero, Act.put, List.setIfInBounds_toArray, List.set_cons_zero, List.set_cons_succ]
                  refine wpAnyH_take (i := 2) (oi := _) (v := ?v2) rfl (by kernel_rfl) (by kernel_rfl) (by kernel_rfl) (fun _ _ _ h => h) (Or.inl ⟨by rfl, ?h2⟩) hHeld ?r2
                  case h2 => (intro w hSw; (try dsimp only at hSw); go_simp; try with_reducible rfl)
                  try simp only [List.getElem_toArray, List.getElem_cons_succ, List.getElem_cons_zero, Act.put, List.setIfInBounds_toArray, List.set_cons_zero, List.set_cons_succ]
                  refine wpAnyH_take (i := 3) (oi := _) (v := ?v3) rfl (by kernel_rfl) (by kernel_rfl) (by kernel_rfl) (fun _ _ _ h => h) (Or.inl ⟨by rfl, ?h3⟩) hHeld ?r3
                  case h3 => (intro w hSw; (try dsimp only at hSw); go_simp; try with_reducible rfl)
                  try simp only [List.getElem_toArray, List.getElem_cons_succ, List.getElem_cons_zero, Act.put, List.setIfInBounds_toArray, List.set_cons_zero, List.set_cons_succ]
                  refine wpAnyH_take (i := 4) (oi := _) (v := ?v4) rfl (by kernel_rfl) (by kernel_rfl) (by kernel_rfl) (fun _ _ _ h => h) (Or.inl ⟨by rfl, ?h4⟩) hHeld ?r4
                  case h4 => (intro w hSw; (try dsimp only at hSw); go_simp; try with_reducible rfl)
                  try simp only [List.getElem_toArray, List.getElem_cons_succ, List.getElem_cons_zero, Act.put, List.setIfInBounds_toArray, List.set_cons_zero, List.set_cons_succ]
                  refine wpAnyH_take (i := 5) (oi := _) (v := ?v5) rfl (by kernel_rfl) (by kernel_rfl) (by kernel_rfl) (fun _ _ _ h => h) (Or.inl ⟨by rfl, ?h5⟩) hHeld ?r5
                  case h5 => (intro w hSw; (try dsimp only at hSw); go_simp; try with_reducible rfl)
                  try simp only [List.getElem_toArray, List.getElem_cons_succ, List.getElem_cons_zero, Act.put, List.setIfInBounds_toArray, List.set_cons_zero, List.set_cons_succ]
                  refine wpAnyH_ready (rs := [0]) (by kernel_rfl) (by simp) ?_
                  refine AllReadyH.cons rfl (fun K hK => ?_) ?_
                  · go_simp
                    refine hK.out _ _ ?_ (fun hHeld => ?_)
                    · exact HS0.out
                    clear hK K
                    refine wpAnyH_ready (rs := [6]) (by kernel_rfl) (by simp) ?_
                    refine AllReadyH.cons rfl (fun K hK => ?_) ?_
                    · go_simp
                      with_reducible refine Calls.mono (HT.out _ (by first | exact Below.refl _ _ | exact Below.drew (Below.refl _ _))) ?_
                      rintro e wy ⟨y2, rb, rcb, rfl, p1, p2, p3, p4, p5⟩
                      have HWY := Lib.hid (show Below wr.heap.size wr wy by first | exact p4 | exact (Below.drew (Below.refl _ _)).trans p4)
                      have hN := HR.out.1.next (M := (m2, qs2)) p1 p2 p3 HWY.out p5
                      have HN2 := Lib.hid hN
                      have hz2 := HR.out.1.st.below HWY.out
                      clear c0 c1 c2 c3 c4 c5 c6 c7 p1 p2 p3 p4 p5 hN
                      obtain ⟨c0, c1, c2, c3, c4, c5, c6, c7⟩ := hz2.c8
                      have f0 := hz2.fz
                      unfold put8n at HN2
                      clear hz2
                      have HS1 := Lib.hid (HSA.out wy HWY.out)
                      refine hK.out _ _ ?_ (fun hHeld => ?_)
                      · exact HS1.out
                      clear hK K
                      refine wpAnyH_take (i := 7) (oi := _) (v := ?v6) rfl (by kernel_rfl) (by kernel_rfl) (by kernel_rfl) (fun _ _ _ h => h) (Or.inl ⟨by rfl, ?h6⟩) hHeld ?r6
                      case h6 => (intro w hSw; (try dsimp only at hSw); go_simp; try with_reducible rfl)
                      try simp only [List.getElem_toArray, List.getElem_cons_succ, List.getElem_cons_zero, Act.put, List.setIfInBounds_toArray, List.set_cons_zero, List.set_cons_succ]
                      refine wpAnyH_take (i := 8) (oi := _) (v := ?v7) rfl (by kernel_rfl) (by kernel_rfl) (by kernel_rfl) (fun _ _ _ h => h) (Or.inl ⟨by rfl, ?h7⟩) hHeld ?r7
                      case h7 => (intro w hSw; (try dsimp only at hSw); go_simp; try with_reducible rfl)
                      try simp only [List.getElem_toArray, List.getElem_cons_succ, List.getElem_cons_zero, Act.put, List.setIfInBounds_toArray, List.set_cons_zero, List.set_cons_succ]
                      refine wpAnyH_take (i := 9) (oi := _) (v := ?v8) rfl (by kernel_rfl) (by kernel_rfl) (by kernel_rfl) (fun _ _ _ h => h) (Or.inl ⟨by rfl, ?h8⟩) hHeld ?r8
                      case h8 => (intro w hSw; (try dsimp only at hSw); go_simp; try with_reducible rfl)
                      try simp only [List.getElem_toArray, List.getElem_cons_succ, List.getElem_cons_zero, Act.put, List.setIfInBounds_toArray, List.set_cons_zero, List.set_cons_succ]
                      refine wpAnyH_ready (rs := [10]) (by kernel_rfl) (by simp) ?_
                      refine AllReadyH.cons rfl (fun K hK => ?_) ?_
                      · go_simp
                        refine hK.out _ _ ?_ (fun hHeld => ?_)
                        · (have hne := HNE2.out; have hh := HS1.out; simp [World.cell?_setCell_other, hne, hh])
                        clear hK K
                        refine wpAnyH_take (i := 11) (oi := _) (v := ?v9) rfl (by kernel_rfl) (by kernel_rfl) (by kernel_rfl) (fun _ _ _ h => h) (Or.inl ⟨by rfl, ?h9⟩) hHeld ?r9
                        case h9 => (intro w hSw; (try dsimp only at hSw); go_simp; try with_reducible rfl)
                        try simp only [List.getElem_toArray, List.getElem_cons_succ, List.getElem_cons_zero, Act.put, List.setIfInBounds_toArray, List.set_cons_zero, List.set_cons_succ]
                        refine wpAnyH_done (by kernel_rfl) ?_ _
                        have HU2 := Lib.hid (show First x n w _ g y2 m2 rb rcb qs2 (max nw q.now) from ⟨HN2.out.1, HTK.out.1, HTK.out.2, by have := HR.out.2.2.2.1; omega, by have := HR.out.2.2.2.2; have := HN60.out; omega⟩)
                        go_wp2_with fail
                        go_roundw
                        case rel => exact ⟨i + 1, by omega, by go_num, max nw q.now, y2, m2, rb, rcb, qs2, rfl, rfl, HU2⟩
                        case measure => simp [intOf]; omega
                      exact AllReadyH.nil
                    exact AllReadyH.nil
                  exact AllReadyH.nil
                · have g3 : decide (q.now < 1152921504606846976) = false := decide_eq_false h60
                  clear h60
                  go_wp2_with fail
                  go_roundw
                  case rel => exact ⟨i + 1, by omega, by go_num, nw, y, m, ra, rc, qs, rfl, rfl, HR⟩
                  case measure => simp [intOf]; omega
              · have d3 : (kd == 3) = false := by simpa using h3
                have d3' : decide (kd = 3) = false := decide_eq_false h3
                clear h3
                go_wp2_with fail
                go_roundw
                case rel => exact ⟨i + 1, by omega, by go_num, nw, y, m, ra, rc, qs, rfl, rfl, HR⟩
                case measure => simp [intOf]; omega
            · obtain rfl : i = N := by omega
              have hyset : y.set = setV x.fs x.W n := (congrArg FeM.set HR.out.1.st.m).trans HR.out.2.1.set
              have hlen := ledger_len HOK.out.1 HOK.out.2.1
              have hwb := HOK.out.1.2.1
              obtain ⟨K, hK⟩ : ∃ K, y.set.length = K := ⟨_, rfl⟩
              have hKW : (K : Int) = x.W := by rw [← hK, hyset, hlen]; omega
              have hK1 : 1 ≤ K ∧ K ≤ 5 := by omega
              have HK := Lib.hid (And.intro hK (And.intro hKW hK1))
              have HYS := Lib.hid hyset
              have l0 : ((K : Int) == 0) = false := by have := hK1; simp; omega
              have l0' : decide ((K : Int) = 0) = false := decide_eq_false (by omega)
              have l1 : ((K : Int) == x.W) = true := by simpa using hKW
              have l1' : decide ((K : Int) = x.W) = true := decide_eq_true hKW
              have l1'' : ((K : Int) != x.W) = false := by simp [bne, l1]
              have HS12 := Lib.hid (show ∀ W, Below wr.heap.size wr W → W.cell? ⟨g, 2, none⟩ = some (.slice y.sa K y.sc) ∧ W.cell? ⟨w.heap.size, 1, none⟩ = some (.int .i64 x.W) ∧ W.cell? ⟨w.heap.size, 3, none⟩ = some (.slice x.a x.fs.length x.c) from fun W hW => by
                obtain ⟨-, -, c2, -⟩ := (HR.out.1.st.below hW).c8
                rw [hK] at c2
                have hb := HR.out.1.box.below hW
                exact ⟨c2, hb.cell 1, hb.cell 3⟩)
              have hok0 := setV_ok (n := x.W) (k := n) (fs_ok HXS.out.1)
              have HSETV := Lib.hid hok0
              have HSET := Lib.hid (show ∀ W, Below wr.heap.size wr W → Calls Try.prog 10 #[.slice x.a x.fs.length x.c, .int .i64 x.W, .int .u64 n] W fun e w' => ∃ va vc, e = .returned (.slice va K vc) ∧ PsAt w' (.slice va K vc) (setV x.fs x.W n) ∧ Below W.heap.size W w' from fun W hW => by
                refine (rset_any (.slice x.a x.fs.length x.c) x.W n x.fs W (HXS.out.1.below (HR.out.1.st.bel.trans (hW.mono HR.out.1.st.bel.size))) (small_frags HLT.out.2.1) HU.out.2.1).mono ?_
                rintro e w4 ⟨v, rfl, ho4, hb4⟩
                obtain ⟨va, vc, rfl⟩ := OwnPs.form ho4 HSETV.out
                have hp := OwnPs.at ho4 HSETV.out
                rw [← HYS.out, HK.out.1] at hp ⊢
                exact ⟨va, vc, rfl, hp, hb4⟩)
              have HSAM := Lib.hid (show ∀ W va vc, Below wr.heap.size wr W → PsAt W (.slice va K vc) (setV x.fs x.W n) → Calls Try.prog 9 #[.slice y.sa K y.sc, .slice va K vc] W fun e w' => e = .returned (.bool true) ∧ Below W.heap.size W w' from fun W va vc hW hp => by
                have hs := (HR.out.1.st.below hW).ok.st
                rw [HK.out.1] at hs
                have := rsame_any _ _ y.set (setV x.fs x.W n) W hs hp
                rwa [decide_eq_true HYS.out] at this)
              clear hyset hlen hwb hK hKW hok0
              go_wp2_with fail
              go_region_held (fun W => W.cell? ⟨g, 2, none⟩ = some (.slice y.sa K y.sc) ∧ W.cell? ⟨w.heap.size, 1, none⟩ = some (.int .i64 x.W) ∧ W.cell? ⟨w.heap.size, 3, none⟩ = some (.slice x.a x.fs.length x.c)) ((refine HS12.out _ ?_; first | exact Below.drew (Below.refl _ _) | exact HB4.out | exact HB5.out)) (first
                | (go_at_call 10; refine (HSET.out _ (Below.drew (Below.refl _ _))).mono ?_; rintro e w4 ⟨va, vc, rfl, hp4, hb4⟩; have HB4 := Lib.hid (show Below wr.heap.size wr w4 from (Below.drew (Below.refl _ _)).trans hb4); have HP4 := Lib.hid hp4; clear hp4 hb4)
                | (go_at_call 9; refine (HSAM.out _ _ _ HB4.out HP4.out).mono ?_; rintro e w5 ⟨rfl, hb5⟩; have HB5 := Lib.hid (show Below wr.heap.size wr w5 from HB4.out.trans (hb5.mono HB4.out.size)); clear hb5))
              go_wp2_with fail
              have HR5 := Lib.hid (show First x n w w5 g y m ra rc qs nw from ⟨HR.out.1.below HB5.out, HR.out.2⟩)
              clear HR HS12 HSET HSAM HSETV HB4 HP4 HB5 l0' l1 l1' l1''
              obtain ⟨r1, hr1⟩ : ∃ r, bits.tmod (K : Int) = r := ⟨_, rfl⟩
              have hlo : -(K : Int) < r1 := by rw [← hr1]; exact Int.lt_tmod_of_pos _ (by omega)
              have hhi : r1 < (K : Int) := by rw [← hr1]; exact Int.tmod_lt_of_pos _ (by omega)
              have e1 : IntKind.i64.wrap (r1 + (K : Int)) = r1 + (K : Int) := wrap_small _ (by omega) (by omega)
              obtain ⟨kx, hkx⟩ : ∃ k : Nat, (r1 + (K : Int)).tmod (K : Int) = (k : Int) := ⟨((r1 + (K : Int)).tmod (K : Int)).toNat, by have := Int.tmod_nonneg (a := r1 + (K : Int)) (K : Int) (by omega); omega⟩
              have hkl : kx < K := by have := Int.tmod_lt_of_pos (r1 + (K : Int)) (b := (K : Int)) (by omega); omega
              obtain ⟨hp, hhp⟩ : ∃ p, y.set[kx]? = some p := ⟨_, List.getElem?_eq_getElem (by rw [HK.out.1]; exact hkl)⟩
              have hst := HR5.out.1.st.ok.st
              obtain ⟨bs, os, hsa, -, hpo, hcs⟩ := RowAt.cell hst hhp
              have HS14 := Lib.hid (show ∀ W, Below w5.heap.size w5 W → W.cell? ⟨g, 2, none⟩ = some (.slice (some ⟨bs, os, none⟩) K y.sc) ∧ W.cell? ⟨bs, os + kx * 2, none⟩ = some (.int .i64 hp.n) ∧ W.cell? ⟨bs, os + kx * 2 + 1, none⟩ = some (.int .u64 hp.s) from fun W hW => by
                obtain ⟨-, -, c2, -⟩ := (HR5.out.1.st.below hW).c8
                rw [HK.out.1, hsa] at c2
                exact ⟨c2, hcs 0 (by omega) W hW, hcs 1 (by omega) W hW⟩)
              have HPX := Lib.hid (show hp = (setV x.fs x.W n).getD kx default ∧ kx < (setV x.fs x.W n).length ∧ hp.ok from ⟨by rw [← HYS.out, List.getD_eq_getElem?_getD, hhp]; rfl, by rw [← HYS.out, HK.out.1]; exact hkl, hpo⟩)
              have hkz : (kx : Int) < (K : Int) := by omega
              clear hst hsa hcs hhp hpo
              rename_i K14 hK14
              have HKC14 := Lib.hid hK14
              clear hK14
              refine (show Hid (K14 ?t14 ?W14) → _ from fun hkey => ?reg14) ?key14
              case reg14 =>
                go_region_held (fun W => W.cell? ⟨g, 2, none⟩ = some (.slice (some ⟨bs, os, none⟩) K y.sc) ∧ W.cell? ⟨bs, os + kx * 2, none⟩ = some (.int .i64 hp.n) ∧ W.cell? ⟨bs, os + kx * 2 + 1, none⟩ = some (.int .u64 hp.s)) ((refine HS14.out _ ?_; first | exact Below.drew (Below.refl _ _) | exact (Below.drew (Below.refl _ _)).alloc (Nat.le_refl _) _ | exact (((Below.drew (Below.refl _ _)).alloc (Nat.le_refl _) _).setCell (p := ⟨w5.heap.size, 0, none⟩) (Nat.le_refl _) _).setCell (p := ⟨w5.heap.size, 1, none⟩) (Nat.le_refl _) _)) (fail)
                all_goals exact hkey.out
              case key14 =>
                refine HKC14.out _ _ ?_
                clear HKC14
                obtain ⟨gh, hgh⟩ : ∃ gh, w5.heap.size = gh := ⟨_, rfl⟩
                have hal := (Go.Joins.below_alloc1 w5 (.cells #[.int .i64 hp.n, .int .u64 hp.s] 38)).drew
                have hbox0 : BoxC (w5.alloc (.cells #[.int .i64 hp.n, .int .u64 hp.s] 38)).drew gh 38 #[.int .i64 hp.n, .int .u64 hp.s] := by rw [← hgh]; exact (BoxC.new w5 38 _).drew
                have hout : Outer x n hp body w (w5.alloc (.cells #[.int .i64 hp.n, .int .u64 hp.s] 38)).drew g gh y m ra rc qs nw 0 := by
                  refine ⟨⟨HR5.out.1.below hal, hbox0⟩, ?_, ?_, HR5.out.2.2.2.1, by have := HR5.out.2.2.2.2; push_cast; omega⟩
                  · rw [HPX.out.1]
                    exact HR5.out.2.1.start HR5.out.2.2.1 HPX.out.2.1 body
                  · rcases HR5.out.2.2.1 with h | h <;> rw [h] <;> simp
                rw [hgh]
                refine via (fun X => Outer x n hp body w X g gh y m ra rc qs nw 0) hout (fun X hX => ?_)
                have HO := Lib.hid hX
                have HKK := Lib.hid (And.intro HK.out.2 HYS.out)
                have HS := Lib.hid (show (setV x.fs x.W n).length = K from by rw [← HYS.out]; exact HK.out.1)
                clear hX hal hbox0 hout HR5 HS14 HPX HK HYS hgh hkx hkz hkl hlo hhi hr1 e1
                go_wp2_with fail
                go_loopw [3, 16, 20, 21, 22, 23, 24] (fun vn vq vt _ _ _ _ wr => ∃ t : Nat, t ≤ 3 * K + 1 ∧ vt = .int .i64 (t : Nat) ∧ ∃ nw y m ra rc qs, vn = .int .u64 nw ∧ vq = .slice ra (List.length qs) rc ∧ Hid (Outer x n hp body w wr g gh y m ra rc qs nw t)) (fun _ _ vt _ _ _ _ _ => 3 * K + 1 - (intOf vt).toNat)
                case atStart => exact ⟨0, Nat.zero_le _, rfl, _, _, _, _, _, _, rfl, rfl, HO⟩
                case round =>
                  obtain ⟨t, ht, rfl, nw, y, m, ra, rc, qs, rfl, rfl, HR⟩ := hrel
                  clear HO
                  have hset := HR.out.2.1.sets
                  have hym := HR.out.1.1.st.m
                  have hyl : y.set.length = K := by
                    have e1 : y.set = m.set := congrArg FeM.set hym
                    rw [e1, hset.2]
                    exact HS.out
                  have hyd : y.done = m.done := congrArg FeM.done hym
                  obtain ⟨c0, c1, c2, c3, c4, c5, c6, c7⟩ := HR.out.1.1.st.c8
                  rw [hyl] at c2
                  have e3 : IntKind.i64.wrap (3 * (K : Int)) = 3 * (K : Int) := wrap_small _ (by omega) (by omega)
                  have HYL := Lib.hid (And.intro hyl hyd)
                  by_cases hd : m.done = 1
                  · have d0 : (y.done == 0) = false := by rw [hyd, hd]; rfl
                    have d0' : decide (y.done = 0) = false := by rw [hyd, hd]; rfl
                    have d1 : (y.done == 1) = true := by rw [hyd, hd]; rfl
                    have d1' : decide (y.done = 1) = true := by rw [hyd, hd]; rfl
                    have hby : y.body = body := (congrArg FeM.body hym).trans (HR.out.2.1.got hd)
                    have HBY := Lib.hid hby
                    have s1 := bs_str HR.out.1.1.st.ok.bd
                    have s2 : (convert 27 9 (.slice ba NB bc)).run Try.prog wr = .ok (.string (strOfNums body)) wr := by
                      have h := HXS.out.2.below HR.out.1.1.st.bel
                      rw [← HNB.out] at h ⊢
                      exact bs_str h
                    rw [hby] at s1 c7
                    have d8 : ((strOfNums body).toList == (strOfNums body).toList) = true := by simp
                    have HAW2 := Lib.hid (HAW.out wr)
                    have HBW := Lib.hid HR.out.1.1.st.bel
                    clear hset hym hyl hyd hd hby
                    by_cases htk : t ≤ 3 * K
                    · have t1 : decide ((t : Int) ≤ 3 * (K : Int)) = true := decide_eq_true (by omega)
                      clear htk
                      go_wp2_with fail
                      refine HAW2.out.mono ?_
                      rintro e w3 ⟨rfl, hb3⟩
                      have HB3 := Lib.hid (HBW.out.trans (hb3.mono HBW.out.size))
                      clear hb3
                      go_wp2
                      go_ret
                      exact ⟨rfl, HB3.out⟩
                    · have t1 : decide ((t : Int) ≤ 3 * (K : Int)) = false := decide_eq_false (by omega)
                      clear htk
                      go_wp2_with fail
                      refine HAW2.out.mono ?_
                      rintro e w3 ⟨rfl, hb3⟩
                      have HB3 := Lib.hid (HBW.out.trans (hb3.mono HBW.out.size))
                      clear hb3
                      go_wp2
                      go_ret
                      exact ⟨rfl, HB3.out⟩
                  · have hd0 := (HR.out.2.1.more hd).1.done
                    have htl := (HR.out.2.1.more hd).2
                    rw [HS.out] at htl
                    have htl' : t ≤ 3 * K := by omega
                    have t1 : decide ((t : Int) ≤ 3 * (K : Int)) = true := decide_eq_true htl
                    have d0 : (y.done == 0) = true := by rw [hyd, hd0]; rfl
                    have d0' : decide (y.done = 0) = true := by rw [hyd, hd0]; rfl
                    have HTL := Lib.hid htl'
                    have HND := Lib.hid hd
                    clear hset hym hyl hyd hd hd0 htl' htl
                    go_wp2_with fail
                    obtain ⟨wo, rfl⟩ : ∃ wo : World, wo = wr := ⟨_, rfl⟩
                    have HIN := Lib.hid (show Inner x n hp body w wo g gh y m ra rc qs nw t 0 from ⟨HR.out.1, HR.out.2.1, by have := HR.out.2.2.1; omega, fun h => by have := (HR.out.2.1.more HND.out).1.done; omega⟩)
                    have HNW := Lib.hid HR.out.2.2.2
                    clear c0 c1 c2 c3 c4 c5 c6 c7 d0 d0' t1 HYL HR HND
                    go_loopw [16, 21, 22, 23, 24] (fun vq vk _ _ _ wr => ∃ k : Nat, k ≤ 5 ∧ vk = .int .i64 (k : Nat) ∧ ∃ y m ra rc qs, vq = .slice ra (List.length qs) rc ∧ Hid (Inner x n hp body w wr g gh y m ra rc qs nw t k)) (fun _ vk _ _ _ _ => 5 - (intOf vk).toNat)
                    case atStart => exact ⟨0, Nat.zero_le _, rfl, _, _, _, _, _, rfl, HIN⟩
                    case round =>
                      obtain ⟨k, hk, rfl, y, m, ra, rc, qs, rfl, HI⟩ := hrel
                      clear HIN
                      obtain ⟨LQ, hLQ⟩ : ∃ LQ, qs.length = LQ := ⟨_, rfl⟩
                      have HLQ := Lib.hid hLQ
                      rw [hLQ]
                      clear hLQ
                      obtain ⟨c0, c1, c2, c3, c4, c5, c6, c7⟩ := HI.out.1.1.st.c8
                      by_cases hkl : k < LQ
                      · have hnd : ¬ m.done = 1 := fun h => by have := HI.out.2.2.2 h; rw [HLQ.out] at this; omega
                        obtain ⟨hk1, hqk, hasked⟩ := HI.out.2.1.asked hnd (by rw [HLQ.out]; exact hkl)
                        obtain ⟨hlive, -⟩ := HI.out.2.1.more hnd
                        have hkK : k < 5 := by obtain ⟨d, -, h2, -⟩ := hasked; rw [hlive.set, HS.out] at h2; omega
                        have hkz : (k : Int) < (LQ : Int) := by omega
                        have d0 : (y.done == 0) = true := by rw [show y.done = m.done from congrArg FeM.done HI.out.1.1.st.m, hlive.done]; rfl
                        have d0' : decide (y.done = 0) = true := by rw [show y.done = m.done from congrArg FeM.done HI.out.1.1.st.m, hlive.done]; rfl
                        have hrq := HI.out.1.1.rq
                        obtain ⟨bq, oq, hra, -, hqok, hcq⟩ := RowAt.cell hrq.row hqk
                        cases hra
                        have HLV := Lib.hid (And.intro hlive (And.intro hasked (And.intro hk1 hqok)))
                        have hS21 : ∀ W, Below wr.heap.size wr W → (fun W => W.cell? ⟨bq, oq + k * 10, none⟩ = some (.int .i64 m.cur.n) ∧ W.cell? ⟨bq, oq + k * 10 + 1, none⟩ = some (.int .u64 m.cur.s) ∧ W.cell? ⟨bq, oq + k * 10 + 2, none⟩ = some (.int .i64 3) ∧ W.cell? ⟨bq, oq + k * 10 + 3, none⟩ = some (.int .u64 m.id) ∧ W.cell? ⟨bq, oq + k * 10 + 4, none⟩ = some (.int .u64 m.n) ∧ W.cell? ⟨bq, oq + k * 10 + 5, none⟩ = some (.int .u64 m.tag)) W := fun W hW =>
                          ⟨hcq 0 (by omega) W hW, hcq 1 (by omega) W hW, hcq 2 (by omega) W hW, hcq 3 (by omega) W hW, hcq 4 (by omega) W hW, hcq 5 (by omega) W hW⟩
                        have HS21 := Lib.hid hS21
                        clear hnd hqk hasked hlive hrq hqok hcq hS21 hk1
                        go_wp2_with fail
                        rename_i K21 hK21
                        have HKC21 := Lib.hid hK21
                        clear hK21 c0 c1 c2 c3 c4 c5 c6 c7 d0 d0'
                        refine (show Hid (K21 ?t21 ?W21) → _ from fun hkey => ?reg21) ?key21
                        case reg21 =>
                          go_region_held (fun W => W.cell? ⟨bq, oq + k * 10, none⟩ = some (.int .i64 m.cur.n) ∧ W.cell? ⟨bq, oq + k * 10 + 1, none⟩ = some (.int .u64 m.cur.s) ∧ W.cell? ⟨bq, oq + k * 10 + 2, none⟩ = some (.int .i64 3) ∧ W.cell? ⟨bq, oq + k * 10 + 3, none⟩ = some (.int .u64 m.id) ∧ W.cell? ⟨bq, oq + k * 10 + 4, none⟩ = some (.int .u64 m.n) ∧ W.cell? ⟨bq, oq + k * 10 + 5, none⟩ = some (.int .u64 m.tag)) ((refine HS21.out _ ?_; repeat' (first | exact Below.refl _ _ | exact Go.Joins.below_alloc1 _ _ | apply Below.drew | (refine Below.setCell ?_ (Nat.le_refl _) _) | (refine Below.alloc ?_ (Nat.le_refl _) _)))) (fail)
                          all_goals exact hkey.out
                        case key21 =>
                          refine HKC21.out _ _ ?_
                          clear HKC21
                          obtain ⟨gr, hgr⟩ : ∃ gr, wr.heap.size = gr := ⟨_, rfl⟩
                          have hal := (Go.Joins.below_alloc1 wr (.cells #[.int .i64 m.cur.n, .int .u64 m.cur.s, .int .i64 3, .int .i64 3, .int .u64 m.id, .int .u64 m.n, .int .u64 m.tag, .int .u64 0, .slice none 0 0] 40)).drew
                          have hbx : BoxC (wr.alloc (.cells #[.int .i64 m.cur.n, .int .u64 m.cur.s, .int .i64 3, .int .i64 3, .int .u64 m.id, .int .u64 m.n, .int .u64 m.tag, .int .u64 0, .slice none 0 0] 40)).drew gr 40 #[.int .i64 m.cur.n, .int .u64 m.cur.s, .int .i64 3, .int .i64 3, .int .u64 m.id, .int .u64 m.n, .int .u64 m.tag, .int .u64 0, .slice none 0 0] := by rw [← hgr]; exact (BoxC.new wr 40 _).drew
                          rw [hgr]
                          refine via (fun X => RL x w X g y m (some ⟨bq, oq, none⟩) rc qs ∧ BoxC X gh 38 #[.int .i64 hp.n, .int .u64 hp.s] ∧ BoxC X gr 40 #[.int .i64 m.cur.n, .int .u64 m.cur.s, .int .i64 3, .int .i64 3, .int .u64 m.id, .int .u64 m.n, .int .u64 m.tag, .int .u64 0, .slice none 0 0] ∧ Below wr.heap.size wr X) ⟨HI.out.1.1.below hal, HI.out.1.2.below hal, hbx, hal⟩ (fun X hX => ?_)
                          have HX := Lib.hid hX
                          obtain ⟨s0, s1, -, -, -, -⟩ := HS21.out X hX.2.2.2
                          have h0 := hX.2.1.cell 0
                          have h1 := hX.2.1.cell 1
                          simp only [List.getElem?_toArray, List.getElem?_cons_succ, List.getElem?_cons_zero] at h0 h1
                          have r3 := hX.2.2.1.cell 3
                          have r8 := hX.2.2.1.cell 8
                          simp only [List.getElem?_toArray, List.getElem?_cons_succ, List.getElem?_cons_zero] at r3 r8
                          have k1 := fun w => eql38 m.cur hp w
                          have kg := guard38
                          have HRB := Lib.hid (show gr ≠ gh ∧ gr ≠ g from ⟨(hX.2.2.1.ne hX.2.1 (by decide)), (hX.2.2.1.ne hX.1.st.box (by decide))⟩)
                          clear hX hal hbx HS21
                          have HGR := Lib.hid (And.intro (Nat.le_of_eq hgr) trivial)
                          clear hgr
                          have hn1 : g ≠ gr := fun e => HRB.out.2 e.symm
                          have hn2 := HRB.out.2
                          have f9 := HX.out.2.2.1.fz
                          obtain ⟨sv, hsv⟩ : ∃ s, Go.bits BinOp.and IntKind.i64 (bits / 256) 1 = s := ⟨_, rfl⟩
                          by_cases hcp : m.cur = hp
                          · rw [decide_eq_true hcp] at k1
                            dsimp only [PL.val] at k1
                            have HCP := Lib.hid hcp
                            clear hcp
                            by_cases hs1 : sv = 1
                            · have d1 : (sv == 1) = true := by simpa using hs1
                              have d1' : decide (sv = 1) = true := decide_eq_true hs1
                              clear hs1
                              go_wp2_with fail
                              go_quiet (fail)
                              go_upto_region 26 with fail
                              refine via (fun Z => BoxC Z gr 40 #[.int .i64 m.cur.n, .int .u64 m.cur.s, .int .i64 3, .int .i64 0, .int .u64 m.id, .int .u64 m.n, .int .u64 m.tag, .int .u64 0, .slice ba NB bc] ∧ Below wr.heap.size wr Z) ⟨((HX.out.2.2.1.below (drewN_below (Below.refl _ _) _)).set 3 (.int .i64 0)).set 8 (.slice ba NB bc), ((drewN_below HX.out.2.2.2 _).setCell (p := ⟨gr, 3, none⟩) HGR.out.1 _).setCell (p := ⟨gr, 8, none⟩) HGR.out.1 _⟩ (fun Z hZ => ?_)
                              have hRL := HI.out.1.1.below hZ.2
                              have hib := HLV.out.1.inv
                              have hT : Calls Try.prog 11 #[y.val, .int .u64 nw, .agg #[.int .i64 m.cur.n, .int .u64 m.cur.s, .int .i64 3, .int .i64 0, .int .u64 m.id, .int .u64 m.n, .int .u64 m.tag, .int .u64 0, .slice ba NB bc]] Z fun e w' => FetPost (({ m with done := 1, body := body } : FeM), ([] : List RqM)) Z e w' := by
                                have hr : RsV.ok Z (RsV.mk m.cur 3 0 m.id m.n m.tag 0 ba bc body) := ⟨HLV.out.2.2.2.1, (by have h := HXS.out.2.below (HI.out.1.1.st.bel.trans (hZ.2.mono HI.out.1.1.st.bel.size)); rw [← HNB.out] at h; exact h)⟩
                                have := hRL.st.take hib.inn (by have := hib.body; omega) nw (show u64ok nw by unfold u64ok; have := HNW.out; have := HTL.out; omega) (RsV.mk m.cur 3 0 m.id m.n m.tag 0 ba bc body) hr (by have := HBL.out; rw [← HNB.out] at this; show body.length ≤ 100000; omega) (take_ok hib HLV.out.1.done nw rfl ⟨rfl, rfl, rfl, rfl⟩ rfl)
                                simpa only [RsV.val, HNB.out, List.length_nil] using this
                              have HT := Lib.hid hT
                              have HRL := Lib.hid hRL
                              have HZ := Lib.hid hZ
                              have HTO : Hid (Took n (setV x.fs x.W n) hp body nw t k qs (({ m with done := 1, body := body } : FeM), ([] : List RqM))) := Took.ok HLV.out.1 HLV.out.2.2.1 (by have := HBL.out; rw [← HNB.out] at this; omega)
                              obtain ⟨c0, c1, c2, c3, c4, c5, c6, c7⟩ := hRL.st.c8
                              have r0 := hZ.1.cell 0
                              have r1 := hZ.1.cell 1
                              have r2 := hZ.1.cell 2
                              have r3 := hZ.1.cell 3
                              have r4 := hZ.1.cell 4
                              have r5 := hZ.1.cell 5
                              have r6 := hZ.1.cell 6
                              have r7 := hZ.1.cell 7
                              have r8 := hZ.1.cell 8
                              simp only [List.getElem?_toArray, List.getElem?_cons_succ, List.getElem?_cons_zero] at r0 r1 r2 r3 r4 r5 r6 r7 r8
                              clear hRL hib hT hZ
                              go_wp2_with fail
                              refine HT.out.mono ?_
                              rintro e wy ⟨y2, rb, rcb, rfl, p1, p2, p3, p4, p5⟩
                              have hal2 := Go.Joins.below_alloc1 wy (.cells y2.cs.toArray 32)
                              have HAPP := Lib.hid (HRL.out.app (M := (({ m with done := 1, body := body } : FeM), ([] : List RqM))) (W1 := wy.alloc (.cells y2.cs.toArray 32)) p1 (p2.below hal2) (QsAt.below p3 hal2) (p4.trans (hal2.mono p4.size)) p5)
                              have hz2 := HRL.out.st.below (p4.trans (hal2.mono p4.size))
                              have hnb : BoxC (wy.alloc (.cells y2.cs.toArray 32)) wy.heap.size 32 y2.cs.toArray := BoxC.new _ _ _
                              have hn3 : wy.heap.size ≠ g := fun e => by have := (HRL.out.st.below p4).box.lt; omega
                              have hn4 : g ≠ wy.heap.size := fun e => hn3 e.symm
                              clear c0 c1 c2 c3 c4 c5 c6 c7 p1 p2 p3 p4 p5 r0 r1 r2 r3 r4 r5 r6 r7 r8
                              obtain ⟨c0, c1, c2, c3, c4, c5, c6, c7⟩ := hz2.c8
                              obtain ⟨e0, e1, e2, e3, e4, e5, e6, e7⟩ := FeV.c8 hnb
                              have f0 := hz2.fz
                              unfold put8n FeV.cs at HAPP
                              unfold FeV.cs at c0 c1 c2 c3 c4 c5 c6 c7 f0 e0 e1 e2 e3 e4 e5 e6 e7
                              clear hz2 hal2 hnb HT
                              go_wp2_with (first | (at_builtin; refine wpList_append_rows rfl (.tmp 212) (.tmp 213) 33 49 10 112 (.agg #[.int .i64 0, .int .u64 0, .int .i64 0, .int .u64 0, .int .u64 0, .int .u64 0, .int .u64 0, .int .i64 0, .slice none 0 0, .slice none 0 0]) RqM.cells rfl Try.underlying33 info49 rfl (by decide) (by decide) (fun _ => rfl) w.heap.size _ _ qs ((({ m with done := 1, body := body } : FeM), ([] : List RqM))).2 rfl rfl (by rw [← HLQ.out]; exact HAPP.out.1) HAPP.out.2.1 HAPP.out.2.2.1 (by have := HTO.out.2.2.2; omega) HAPP.out.2.2.2.1 ?_; intro v' W3 hown hgr))
                              obtain ⟨ra', rc', rfl, hRL3, hbox3⟩ := HAPP.out.2.2.2.2 v' W3 hown hgr
                              have HIN3 := Lib.hid (show Inner x n hp body w W3 g gh y2 ((({ m with done := 1, body := body } : FeM), ([] : List RqM))).1 ra' rc' (qs ++ ((({ m with done := 1, body := body } : FeM), ([] : List RqM))).2) nw t (k + 1) from ⟨⟨hRL3, hbox3 _ _ _ (HI.out.1.2.below HZ.out.2) (by decide) (by decide)⟩, HTO.out.1, HTO.out.2.1, HTO.out.2.2.1⟩)
                              clear hown hgr hRL3 hbox3 HAPP
                              go_roundw
                              case rel => exact ⟨k + 1, by omega, by go_num, y2, _, ra', rc', _, rfl, HIN3⟩
                              case measure => simp [intOf]; omega
                            · have d1 : (sv == 1) = false := by simpa using hs1
                              have d1' : decide (sv = 1) = false := decide_eq_false hs1
                              clear hs1
                              go_wp2_with fail
                              go_quiet (fail)
                              go_upto_region 26 with fail
                              refine via (fun Z => BoxC Z gr 40 #[.int .i64 m.cur.n, .int .u64 m.cur.s, .int .i64 3, .int .i64 0, .int .u64 m.id, .int .u64 m.n, .int .u64 m.tag, .int .u64 0, .slice ba NB bc] ∧ Below wr.heap.size wr Z) ⟨((HX.out.2.2.1.below (drewN_below (Below.refl _ _) _)).set 3 (.int .i64 0)).set 8 (.slice ba NB bc), ((drewN_below HX.out.2.2.2 _).setCell (p := ⟨gr, 3, none⟩) HGR.out.1 _).setCell (p := ⟨gr, 8, none⟩) HGR.out.1 _⟩ (fun Z hZ => ?_)
                              have hRL := HI.out.1.1.below hZ.2
                              have hib := HLV.out.1.inv
                              have hT : Calls Try.prog 11 #[y.val, .int .u64 nw, .agg #[.int .i64 m.cur.n, .int .u64 m.cur.s, .int .i64 3, .int .i64 0, .int .u64 m.id, .int .u64 m.n, .int .u64 m.tag, .int .u64 0, .slice ba NB bc]] Z fun e w' => FetPost (({ m with done := 1, body := body } : FeM), ([] : List RqM)) Z e w' := by
                                have hr : RsV.ok Z (RsV.mk m.cur 3 0 m.id m.n m.tag 0 ba bc body) := ⟨HLV.out.2.2.2.1, (by have h := HXS.out.2.below (HI.out.1.1.st.bel.trans (hZ.2.mono HI.out.1.1.st.bel.size)); rw [← HNB.out] at h; exact h)⟩
                                have := hRL.st.take hib.inn (by have := hib.body; omega) nw (show u64ok nw by unfold u64ok; have := HNW.out; have := HTL.out; omega) (RsV.mk m.cur 3 0 m.id m.n m.tag 0 ba bc body) hr (by have := HBL.out; rw [← HNB.out] at this; show body.length ≤ 100000; omega) (take_ok hib HLV.out.1.done nw rfl ⟨rfl, rfl, rfl, rfl⟩ rfl)
                                simpa only [RsV.val, HNB.out, List.length_nil] using this
                              have HT := Lib.hid hT
                              have HRL := Lib.hid hRL
                              have HZ := Lib.hid hZ
                              have HTO : Hid (Took n (setV x.fs x.W n) hp body nw t k qs (({ m with done := 1, body := body } : FeM), ([] : List RqM))) := Took.ok HLV.out.1 HLV.out.2.2.1 (by have := HBL.out; rw [← HNB.out] at this; omega)
                              obtain ⟨c0, c1, c2, c3, c4, c5, c6, c7⟩ := hRL.st.c8
                              have r0 := hZ.1.cell 0
                              have r1 := hZ.1.cell 1
                              have r2 := hZ.1.cell 2
                              have r3 := hZ.1.cell 3
                              have r4 := hZ.1.cell 4
                              have r5 := hZ.1.cell 5
                              have r6 := hZ.1.cell 6
                              have r7 := hZ.1.cell 7
                              have r8 := hZ.1.cell 8
                              simp only [List.getElem?_toArray, List.getElem?_cons_succ, List.getElem?_cons_zero] at r0 r1 r2 r3 r4 r5 r6 r7 r8
                              clear hRL hib hT hZ
                              go_wp2_with fail
                              refine HT.out.mono ?_
                              rintro e wy ⟨y2, rb, rcb, rfl, p1, p2, p3, p4, p5⟩
                              have hal2 := Go.Joins.below_alloc1 wy (.cells y2.cs.toArray 32)
                              have HAPP := Lib.hid (HRL.out.app (M := (({ m with done := 1, body := body } : FeM), ([] : List RqM))) (W1 := wy.alloc (.cells y2.cs.toArray 32)) p1 (p2.below hal2) (QsAt.below p3 hal2) (p4.trans (hal2.mono p4.size)) p5)
                              have hz2 := HRL.out.st.below (p4.trans (hal2.mono p4.size))
                              have hnb : BoxC (wy.alloc (.cells y2.cs.toArray 32)) wy.heap.size 32 y2.cs.toArray := BoxC.new _ _ _
                              have hn3 : wy.heap.size ≠ g := fun e => by have := (HRL.out.st.below p4).box.lt; omega
                              have hn4 : g ≠ wy.heap.size := fun e => hn3 e.symm
                              clear c0 c1 c2 c3 c4 c5 c6 c7 p1 p2 p3 p4 p5 r0 r1 r2 r3 r4 r5 r6 r7 r8
                              obtain ⟨c0, c1, c2, c3, c4, c5, c6, c7⟩ := hz2.c8
                              obtain ⟨e0, e1, e2, e3, e4, e5, e6, e7⟩ := FeV.c8 hnb
                              have f0 := hz2.fz
                              unfold put8n FeV.cs at HAPP
                              unfold FeV.cs at c0 c1 c2 c3 c4 c5 c6 c7 f0 e0 e1 e2 e3 e4 e5 e6 e7
                              clear hz2 hal2 hnb HT
                              go_wp2_with (first | (at_builtin; refine wpList_append_rows rfl (.tmp 212) (.tmp 213) 33 49 10 112 (.agg #[.int .i64 0, .int .u64 0, .int .i64 0, .int .u64 0, .int .u64 0, .int .u64 0, .int .u64 0, .int .i64 0, .slice none 0 0, .slice none 0 0]) RqM.cells rfl Try.underlying33 info49 rfl (by decide) (by decide) (fun _ => rfl) w.heap.size _ _ qs ((({ m with done := 1, body := body } : FeM), ([] : List RqM))).2 rfl rfl (by rw [← HLQ.out]; exact HAPP.out.1) HAPP.out.2.1 HAPP.out.2.2.1 (by have := HTO.out.2.2.2; omega) HAPP.out.2.2.2.1 ?_; intro v' W3 hown hgr))
                              obtain ⟨ra', rc', rfl, hRL3, hbox3⟩ := HAPP.out.2.2.2.2 v' W3 hown hgr
                              have HIN3 := Lib.hid (show Inner x n hp body w W3 g gh y2 ((({ m with done := 1, body := body } : FeM), ([] : List RqM))).1 ra' rc' (qs ++ ((({ m with done := 1, body := body } : FeM), ([] : List RqM))).2) nw t (k + 1) from ⟨⟨hRL3, hbox3 _ _ _ (HI.out.1.2.below HZ.out.2) (by decide) (by decide)⟩, HTO.out.1, HTO.out.2.1, HTO.out.2.2.1⟩)
                              clear hown hgr hRL3 hbox3 HAPP
                              go_roundw
                              case rel => exact ⟨k + 1, by omega, by go_num, y2, _, ra', rc', _, rfl, HIN3⟩
                              case measure => simp [intOf]; omega
                          · rw [decide_eq_false hcp] at k1
                            dsimp only [PL.val] at k1
                            have HCP := Lib.hid hcp
                            clear hcp
                            by_cases hs1 : sv = 1
                            · have d1 : (sv == 1) = true := by simpa using hs1
                              have d1' : decide (sv = 1) = true := decide_eq_true hs1
                              have HIN2 := Lib.hid (show ∀ W, Below wr.heap.size wr W → Inner x n hp body w W g gh y m (some ⟨bq, oq, none⟩) rc qs nw t (k + 1) from fun W hW => ⟨⟨HI.out.1.1.below hW, HI.out.1.2.below hW⟩, .inr ⟨HLV.out.1, .inl ⟨HLV.out.2.2.1, HLV.out.2.1.waits HLV.out.1 HCP.out⟩⟩, by have := HLV.out.2.2.1; omega, fun h => by have := HLV.out.1.done; omega⟩)
                              clear hs1
                              go_wp2_with fail
                              go_quiet (fail)
                              go_wp2_with fail
                              go_roundw
                              case rel => exact ⟨k + 1, by omega, by go_num, y, m, some ⟨bq, oq, none⟩, rc, qs, by rw [HLQ.out], HIN2.out _ (drewN_below HX.out.2.2.2 _)⟩
                              case measure => simp [intOf]; omega
                            · have d1 : (sv == 1) = false := by simpa using hs1
                              have d1' : decide (sv = 1) = false := decide_eq_false hs1
                              clear hs1
                              go_wp2_with fail
                              go_quiet (fail)
                              go_upto_region 26 with fail
                              refine via (fun Z => BoxC Z gr 40 #[.int .i64 m.cur.n, .int .u64 m.cur.s, .int .i64 3, .int .i64 3, .int .u64 m.id, .int .u64 m.n, .int .u64 m.tag, .int .u64 0, .slice none 0 0] ∧ Below wr.heap.size wr Z) ⟨HX.out.2.2.1.below (drewN_below (Below.refl _ _) _), drewN_below HX.out.2.2.2 _⟩ (fun Z hZ => ?_)
                              have hRL := HI.out.1.1.below hZ.2
                              have hib := HLV.out.1.inv
                              have hT : Calls Try.prog 11 #[y.val, .int .u64 nw, .agg #[.int .i64 m.cur.n, .int .u64 m.cur.s, .int .i64 3, .int .i64 3, .int .u64 m.id, .int .u64 m.n, .int .u64 m.tag, .int .u64 0, .slice none 0 0]] Z fun e w' => FetPost (m.passM nw) Z e w' := by
                                have hr : RsV.ok Z (RsV.mk m.cur 3 3 m.id m.n m.tag 0 none 0 []) := ⟨HLV.out.2.2.2.1, RowAt.nil _⟩
                                have := hRL.st.take hib.inn (by have := hib.body; omega) nw (show u64ok nw by unfold u64ok; have := HNW.out; have := HTL.out; omega) (RsV.mk m.cur 3 3 m.id m.n m.tag 0 none 0 []) hr (by simp) (take_none HLV.out.1.done nw rfl ⟨rfl, rfl, rfl, rfl⟩ rfl)
                                simpa only [RsV.val, HNB.out, List.length_nil] using this
                              have HT := Lib.hid hT
                              have HRL := Lib.hid hRL
                              have HZ := Lib.hid hZ
                              have HTO : Hid (Took n (setV x.fs x.W n) hp body nw t k qs (m.passM nw)) := Took.pass HLV.out.1 HLV.out.2.1 HCP.out HLV.out.2.2.1
                              obtain ⟨c0, c1, c2, c3, c4, c5, c6, c7⟩ := hRL.st.c8
                              have r0 := hZ.1.cell 0
                              have r1 := hZ.1.cell 1
                              have r2 := hZ.1.cell 2
                              have r3 := hZ.1.cell 3
                              have r4 := hZ.1.cell 4
                              have r5 := hZ.1.cell 5
                              have r6 := hZ.1.cell 6
                              have r7 := hZ.1.cell 7
                              have r8 := hZ.1.cell 8
                              simp only [List.getElem?_toArray, List.getElem?_cons_succ, List.getElem?_cons_zero] at r0 r1 r2 r3 r4 r5 r6 r7 r8
                              clear hRL hib hT hZ
                              go_wp2_with fail
                              refine HT.out.mono ?_
                              rintro e wy ⟨y2, rb, rcb, rfl, p1, p2, p3, p4, p5⟩
                              have hal2 := Go.Joins.below_alloc1 wy (.cells y2.cs.toArray 32)
                              have HAPP := Lib.hid (HRL.out.app (M := (m.passM nw)) (W1 := wy.alloc (.cells y2.cs.toArray 32)) p1 (p2.below hal2) (QsAt.below p3 hal2) (p4.trans (hal2.mono p4.size)) p5)
                              have hz2 := HRL.out.st.below (p4.trans (hal2.mono p4.size))
                              have hnb : BoxC (wy.alloc (.cells y2.cs.toArray 32)) wy.heap.size 32 y2.cs.toArray := BoxC.new _ _ _
                              have hn3 : wy.heap.size ≠ g := fun e => by have := (HRL.out.st.below p4).box.lt; omega
                              have hn4 : g ≠ wy.heap.size := fun e => hn3 e.symm
                              clear c0 c1 c2 c3 c4 c5 c6 c7 p1 p2 p3 p4 p5 r0 r1 r2 r3 r4 r5 r6 r7 r8
                              obtain ⟨c0, c1, c2, c3, c4, c5, c6, c7⟩ := hz2.c8
                              obtain ⟨e0, e1, e2, e3, e4, e5, e6, e7⟩ := FeV.c8 hnb
                              have f0 := hz2.fz
                              unfold put8n FeV.cs at HAPP
                              unfold FeV.cs at c0 c1 c2 c3 c4 c5 c6 c7 f0 e0 e1 e2 e3 e4 e5 e6 e7
                              clear hz2 hal2 hnb HT
                              go_wp2_with (first | (at_builtin; refine wpList_append_rows rfl (.tmp 212) (.tmp 213) 33 49 10 112 (.agg #[.int .i64 0, .int .u64 0, .int .i64 0, .int .u64 0, .int .u64 0, .int .u64 0, .int .u64 0, .int .i64 0, .slice none 0 0, .slice none 0 0]) RqM.cells rfl Try.underlying33 info49 rfl (by decide) (by decide) (fun _ => rfl) w.heap.size _ _ qs ((m.passM nw)).2 rfl rfl (by rw [← HLQ.out]; exact HAPP.out.1) HAPP.out.2.1 HAPP.out.2.2.1 (by have := HTO.out.2.2.2; omega) HAPP.out.2.2.2.1 ?_; intro v' W3 hown hgr))
                              obtain ⟨ra', rc', rfl, hRL3, hbox3⟩ := HAPP.out.2.2.2.2 v' W3 hown hgr
                              have HIN3 := Lib.hid (show Inner x n hp body w W3 g gh y2 ((m.passM nw)).1 ra' rc' (qs ++ ((m.passM nw)).2) nw t (k + 1) from ⟨⟨hRL3, hbox3 _ _ _ (HI.out.1.2.below HZ.out.2) (by decide) (by decide)⟩, HTO.out.1, HTO.out.2.1, HTO.out.2.2.1⟩)
                              clear hown hgr hRL3 hbox3 HAPP
                              go_roundw
                              case rel => exact ⟨k + 1, by omega, by go_num, y2, _, ra', rc', _, rfl, HIN3⟩
                              case measure => simp [intOf]; omega
                      · have hkz : decide ((k : Int) < (LQ : Int)) = false := decide_eq_false (by omega)
                        have HX := Lib.hid (show m.done = 1 ∨ qs.length ≤ k from .inr (by rw [HLQ.out]; omega))
                        have hwn : IntKind.u64.wrap (nw + 1) = nw + 1 := by rw [wrapu]; have := HNW.out; omega
                        have hibd := HI.out.2.1.sets.1
                        have HTK := Lib.hid (fun W (hW : Below wr.heap.size wr W) => (HI.out.1.1.st.below hW).tick hibd.inn (by have := hibd.body; omega) (nw + 1) (show u64ok (nw + 1) by unfold u64ok; have := HNW.out; omega) rfl)
                        have HWT := Lib.hid (HI.out.2.1.tick HX.out)
                        clear hibd hkz
                        go_wp2_with fail
                        refine (HTK.out _ (Below.refl _ _)).mono ?_
                        rintro e wy ⟨y2, rb, rcb, rfl, p1, p2, p3, p4, p5⟩
                        have hN := HI.out.1.1.next (M := m.still (m.tickM (nw + 1))) p1 p2 p3 p4 p5
                        have HO2 := Lib.hid (show Outer x n hp body w _ g gh y2 (m.still (m.tickM (nw + 1))).1 rb rcb (m.still (m.tickM (nw + 1))).2 (nw + 1) (t + 1) from ⟨⟨hN.1, HI.out.1.2.ch1 (HI.out.1.2.ne HI.out.1.1.st.box (by decide)) hN.2⟩, HWT.out.1, HWT.out.2, by have := HNW.out; omega, by have := HNW.out; push_cast; omega⟩)
                        have hz2 := HI.out.1.1.st.below p4
                        clear c0 c1 c2 c3 c4 c5 c6 c7 p1 p2 p3 p4 p5 hN
                        obtain ⟨c0, c1, c2, c3, c4, c5, c6, c7⟩ := hz2.c8
                        have f0 := hz2.fz
                        unfold put8n at HO2
                        clear hz2 HTK HI
                        go_wp2_with fail
                        go_roundw
                        case rel => exact ⟨t + 1, by have := HTL.out; omega, by go_num, nw + 1, y2, _, rb, rcb, _, rfl, rfl, HO2⟩
                        case measure => have := HTL.out; simp [intOf]; omega
        · clear hbad b0 b1 b2 b3 b4 b5 HNE
          have HB2 := Lib.hid (HB1.out.2.trans (hb2.mono HB1.out.2.size))
          clear hb2
          go_wp2_with fail
          refine (HAW.out _).mono ?_
          rintro e w3 ⟨rfl, hb3⟩
          have HB3 := Lib.hid ((HB2.out.alloc HB2.out.size (.cells #[.int .u64 0, .int .u64 0, .slice none 0 0, .int .i64 0, .int .u64 0, .int .u64 0, .int .i64 0, .slice none 0 0] 32)).trans (hb3.mono (HB2.out.alloc HB2.out.size _).size))
          clear hb3
          go_wp2
          go_ret
          exact ⟨rfl, HB3.out⟩
end Go.Proofs.Ytpihogkhfmijcaa
