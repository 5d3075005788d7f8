/- The document's disk: Crash. -/
import Derived.Test.YticbfnflillokaaRowE
namespace Go.Proofs.Yticbfnflillokaa
open Go.RowKit
theorem BytesIn.parts {I : Nat → Prop} {w : World} {a : Option Addr} {L c : Nat} {l : List UInt8} (h : BytesIn I w (.slice a L c) l) (h0 : 0 < L) : L = l.length ∧ a ≠ none ∧ L ≤ c ∧ c ≠ 0 := by
  rcases h with ⟨e, rfl⟩ | ⟨ad, cap, e, hl, _⟩
  · injection e with e1 e2 e3; omega
  · injection e with e1 e2 e3
    subst e1 e2 e3
    exact ⟨rfl, by simp, hl.2, by omega⟩
theorem tear_other {o : Int} {n t b : Bs} {a : Option Addr} {c : Nat} (h : o ≠ 0) (torn : Int) (F : Fs) : (⟨o, n, t, b, a, c⟩ : CV).ch.tear torn F = F := by
  unfold CV.ch
  dsimp only
  rw [if_neg h]
  split
  · rfl
  · split <;> rfl
set_option maxRecDepth 100000 in
set_option maxHeartbeats 8000000 in
theorem rcrash_any {w : World} {R : Bks} {q N : Nat} {d : Dk} (h : RefAt w R q N d) (hN : N ≤ 400000) (keep torn : Int) :
    Calls Try.prog 50 #[.pointer (some ⟨q, 0, none⟩), .int .i64 keep, .int .i64 torn] w fun e w' => e = .returned (.int .i64 (d.crash keep torn).1) ∧ RDoes w R q (N + 1) (d.crash keep torn).2 w' := by
  have hA := h
  obtain ⟨hok, hlen, hs, la, wa, lc, wc, vs, cs, h⟩ := h
  have c4 := h.c4
  unfold Dk.crash
  cases hd : d.down
  case true =>
    rw [hd] at c4
    have HR : Hid (RDoes w R q (N + 1) d w) := RDoes.still hA (Nat.le_succ N) (Below.refl _ _)
    clear hA h hok hlen hs
    go_enter Try.func50, Try.ntmps50
    go_wp2
    go_ret
    exact ⟨rfl, HR.out⟩
  case false =>
  rw [hd] at c4
  have hqw := lt_of_block h.block
  have hcsl : cs.length = d.waits.length := by rw [← h.waitsAre, List.length_map]
  have HQR : Hid (q < w.heap.size ∧ ¬ R q) := ⟨hqw, h.qR⟩
  have HB0 : Hid (Crashing w w R q d wa cs.length wc (d.part keep torn 0)) := by
    refine ⟨vs, la, lc, ?_, h.last.wide fun k _ hk => .inl hk, by rw [part_zero]; exact h.lastIs, Chg.refl _ _⟩
    rw [h.block, hd]
  have HPB : Hid (∀ k, k ≤ cs.length → (d.part keep torn k).ok ∧ (d.part keep torn k).total ≤ 1000000 ∧ (d.part keep torn k).length ≤ 900000) := fun k hk => by
    obtain ⟨h1, h2, h3⟩ := part_bounds hok keep torn k (by omega)
    have := hok.cap
    exact ⟨h1, by omega, by omega⟩
  have HCELL : Hid (∀ wr, Chg (fun k => k = q) w wr → ∀ (k : Nat) x, cs[k]? = some x → ∃ b off, wa = some ⟨b, off, none⟩ ∧ wr.cell? ⟨b, off + k * 4, none⟩ = some (.int .i64 x.o) ∧ wr.cell? ⟨b, off + k * 4 + 1, none⟩ = some (.string ⟨x.n.toArray⟩) ∧ wr.cell? ⟨b, off + k * 4 + 2, none⟩ = some (.string ⟨x.t.toArray⟩) ∧ wr.cell? ⟨b, off + k * 4 + 3, none⟩ = some (.slice x.a x.b.length x.c)) := fun wr hc k x hx => by
    have hk : Keep R w wr := hc.keep fun k hk hR => h.qR (hk ▸ hR)
    obtain ⟨a, cap, e, _, hcc⟩ := (h.waits.keep hk fun _ h => h).at
    cases e
    obtain ⟨b, off, ha, _, _, hcell⟩ := hcc (by have := (List.getElem?_eq_some_iff.1 hx).1; omega)
    exact ⟨b, off, ha, hcell k x hx⟩
  have HBYT : Hid (∀ wr, Chg (fun k => k = q) w wr → ∀ x ∈ cs, BytesIn (fun k => R k ∨ w.heap.size ≤ k) wr x.u x.b ∧ x.ok) := fun wr hc x hx => by
    have hk : Keep R w wr := hc.keep fun k hk hR => h.qR (hk ▸ hR)
    have := (h.waits.keep hk fun _ h => h).2 x hx
    exact ⟨this.1.wide fun k _ hk => .inl hk, this.2⟩
  have HCH : Hid (∀ (k : Nat) x, cs[k]? = some x → d.waits[k]? = some x.ch) := fun k x hx => by rw [← h.waitsAre, List.getElem?_map, hx]; rfl
  have HPART : Hid ((∀ (k : Nat) x, cs[k]? = some x → (k : Int) < keep → d.part keep torn (k + 1) = x.ch.do (d.part keep torn k)) ∧ (∀ (k : Nat) x, cs[k]? = some x → ¬ (k : Int) < keep → (k : Int) = max keep 0 → d.part keep torn (k + 1) = x.ch.tear torn (d.part keep torn k)) ∧ (∀ k : Nat, k < cs.length → ¬ (k : Int) < keep → ¬ (k : Int) = max keep 0 → d.part keep torn (k + 1) = d.part keep torn k)) :=
    ⟨fun k x hx hk => part_keep d keep torn k _ (HCH.out k x hx) hk, fun k x hx hk he => part_torn d keep torn k _ (HCH.out k x hx) hk he, fun k hl hk he => part_past d keep torn k (by omega) hk he⟩
  have hll := left_length (d := d) keep torn
  have HEND : Hid (∀ wr, Crashing w wr R q d wa cs.length wc (d.part keep torn cs.length) → RDoes w R q (N + 1) { d with synced := d.left keep torn, seen := d.left keep torn, waits := [], down := true } ((wr.setCell ⟨q, 1, none⟩ (.slice none 0 0)).setCell ⟨q, 4, none⟩ (.bool true))) := fun wr hcr => by
    obtain ⟨us, a, c, h1, h2, h3, h4⟩ := hcr
    rw [hcsl, part_end] at h3
    have hc2 : Chg (fun k => k = q) wr ((wr.setCell ⟨q, 1, none⟩ (.slice none 0 0)).setCell ⟨q, 4, none⟩ (.bool true)) := (chg1 q 1 _ wr).trans (chg1 q 4 _ _)
    have hqR : ∀ k, (R k ∨ w.heap.size ≤ k) → k ≠ q := fun k hk e => by
      subst e
      rcases hk with hk | hk
      · exact h.qR hk
      · omega
    have hkeep : Keep (fun k => k ≠ q) wr ((wr.setCell ⟨q, 1, none⟩ (.slice none 0 0)).setCell ⟨q, 4, none⟩ (.bool true)) := hc2.keep fun k hk hn => hn hk
    have hokl : ({ d with synced := d.left keep torn, seen := d.left keep torn, waits := [], down := true } : Dk).ok := by
      obtain ⟨g1, g2⟩ := hok.left keep torn
      refine ⟨g1, rfl, fun i _ => ?_, hok.cap⟩
      rw [show (List.take i ([] : List Ch)) = [] by simp]
      exact g2
    refine ⟨fun k => (R k ∨ w.heap.size ≤ k) ∧ k < ((wr.setCell ⟨q, 1, none⟩ (.slice none 0 0)).setCell ⟨q, 4, none⟩ (.bool true)).heap.size, ⟨hokl, ?_, by show d.serial ≤ _; omega, a, none, c, 0, us, [], { block := ?_, last := (h2.keep hkeep hqR).wide fun k hk h => ⟨h, hk⟩, lastIs := h3, waits := ChsIn.nil _ _, waitsAre := rfl, qR := fun hx => hqR q hx.1 rfl, lt := fun k hk => hk.2 }⟩, fun k hk => hk.1, h4.trans hc2⟩
    · show (d.left keep torn).length + 0 ≤ N + 1
      omega
    · rw [Go.Joins.block_setCell (Go.Joins.block_setCell h1 (i := 1) (.slice none 0 0)) (i := 4)]; rfl
  have HSZ : Hid (∀ {k : Nat}, w.heap.size ≤ k → R k ∨ w.heap.size ≤ k) := fun hk => .inr hk
  have hcl4 : cs.length ≤ 400000 := by omega
  obtain ⟨K, hK⟩ : ∃ K, cs.length = K := ⟨_, rfl⟩
  rw [hK] at HB0 HPB HEND hcl4 HPART
  have HK := Lib.hid hK
  obtain ⟨M, hM⟩ : ∃ M, max keep 0 = M := ⟨_, rfl⟩
  rw [hM] at HPART
  have HMM := Lib.hid hM
  clear hA h hok hlen hs hqw hcsl hll hK hd
  go_enter Try.func50, Try.ntmps50
  go_wp2
  clear c4
  go_loopw [7] (fun i wr => ∃ k : Nat, k ≤ K ∧ i = .int .i64 (k : Nat) ∧ Hid (Crashing w wr R q d wa K wc (d.part keep torn k))) (fun i _ => K - (intOf i).toNat)
  case atStart => exact ⟨0, Nat.zero_le _, rfl, HB0.out⟩
  case round =>
    obtain ⟨k, hk, rfl, HI⟩ := hrel
    obtain ⟨us, ua, uc, hblk, hus, huF, hchg⟩ := HI.out
    have c1 : wr.cell? ⟨q, 1, none⟩ = some (.slice wa K wc) := by rw [Go.Joins.cell_of_block hblk]; rfl
    by_cases hlt : k < K
    · obtain ⟨x, hx⟩ : ∃ x, cs[k]? = some x := ⟨_, List.getElem?_eq_getElem (by rw [HK.out]; exact hlt)⟩
      obtain ⟨b, off, rfl, e0, e1, e2, e3⟩ := HCELL.out wr hchg k x hx
      have hbx := HBYT.out wr hchg x (List.mem_of_getElem? hx)
      have HPA : Hid ((k : Int) < keep → d.part keep torn (k + 1) = x.ch.do (d.part keep torn k)) := HPART.out.1 k x hx
      have HPT : Hid (¬ (k : Int) < keep → (k : Int) = M → d.part keep torn (k + 1) = x.ch.tear torn (d.part keep torn k)) := fun h1 => HPART.out.2.1 k x hx (by omega)
      have HPP : Hid (¬ (k : Int) < keep → ¬ (k : Int) = M → d.part keep torn (k + 1) = d.part keep torn k) := fun h1 => HPART.out.2.2 k hlt (by omega)
      obtain ⟨p1, p2, p3⟩ := HPB.out k hk
      obtain ⟨F, hF⟩ : ∃ F, d.part keep torn k = F := ⟨_, rfl⟩
      obtain ⟨F', hF'⟩ : ∃ F', d.part keep torn (k + 1) = F' := ⟨_, rfl⟩
      rw [hF] at HPA HPT HPP HI huF p1 p2 p3
      rw [hF'] at HPA HPT HPP
      have husl : us.length ≤ 900000 := by
        have : us.length = F.length := by rw [← huF, List.length_map]
        omega
      have hwsz := hchg.size
      obtain ⟨xo, xn, xt, xb, xa, xc⟩ := x
      dsimp only [CV.u] at e0 e1 e2 e3 hbx
      obtain ⟨W6, hW6⟩ : ∃ W6, W6 = wr.alloc (.cells #[.int .i64 xo, .string ⟨xn.toArray⟩, .string ⟨xt.toArray⟩, .slice xa xb.length xc] 84) := ⟨_, rfl⟩
      have hb6 : Below wr.heap.size wr W6 := by rw [hW6]; exact Go.Joins.below_alloc1 wr _
      have HX6 : Hid (∀ W, Below W6.heap.size W6 W → (W.cell? ⟨wr.heap.size, 0, none⟩ = some (.int .i64 xo) ∧ W.cell? ⟨wr.heap.size, 1, none⟩ = some (.string ⟨xn.toArray⟩) ∧ W.cell? ⟨wr.heap.size, 2, none⟩ = some (.string ⟨xt.toArray⟩) ∧ W.cell? ⟨wr.heap.size, 3, none⟩ = some (.slice xa xb.length xc)) ∧ W.frozen? ⟨wr.heap.size, 3, none⟩ = false) := fun W hb => by rw [hW6] at hb; exact box84 hb
      have HQ6 : Hid (∀ W, Below wr.heap.size wr W → W.cell? ⟨q, 0, none⟩ = some (.slice ua us.length uc) ∧ W.frozen? ⟨q, 0, none⟩ = false) := fun W hb => by
        have := (hb.block _ (lt_of_block hblk)).trans hblk
        exact ⟨by rw [Go.Joins.cell_of_block this]; rfl, by simp [World.frozen?, this]⟩
      have HB6 := Lib.hid hb6
      have HCR := HI
      -- Done of the change, with whatever bytes
      have HD : Hid (∀ W o (bb : Bs) a c, Below wr.heap.size wr W → BytesIn (fun k => R k ∨ w.heap.size ≤ k) W (.slice a bb.length c) bb → (⟨o, xn, xt, bb, a, c⟩ : CV).ok → Calls Try.prog 69 #[.slice ua us.length uc, .agg #[.int .i64 o, .string ⟨xn.toArray⟩, .string ⟨xt.toArray⟩, .slice a bb.length c]] W (GivesFs (fun k => R k ∨ w.heap.size ≤ k) W ((⟨o, xn, xt, bb, a, c⟩ : CV).ch.do F))) := fun W o bb a c hb hby hok => by
        have := done_any (.slice ua us.length uc) us ⟨o, xn, xt, bb, a, c⟩ W (hus.below hb) hby hok (fun k hk => .inr (by have := hb.size; omega)) husl (by rw [huF]; exact p1) (by rw [huF]; exact p2)
        rw [huF] at this
        exact this
      have HFIN : Hid (∀ w7 (vs7 : List FV) a7 c7, Below wr.heap.size wr w7 → FilesIn (fun k => R k ∨ w.heap.size ≤ k) w7 (.slice a7 vs7.length c7) vs7 → fsOf vs7 = F' → Crashing w (w7.setCell ⟨q, 0, none⟩ (.slice a7 vs7.length c7)) R q d (some ⟨b, off, none⟩) K wc F') := fun w7 vs7 a7 c7 hb hf hF7 => by
        have := Crashing.store HCR.out HQR.out.1 HQR.out.2 hb hf
        rw [hF7] at this
        exact this
      have HSTILL : Hid (∀ W, Below wr.heap.size wr W → F' = F → Crashing w W R q d (some ⟨b, off, none⟩) K wc F') := fun W hb e => by rw [e]; exact Crashing.box HCR.out hb
      have HBX := Lib.hid hbx
      obtain ⟨UL, hUL⟩ : ∃ UL, us.length = UL := ⟨_, rfl⟩
      rw [hUL] at HQ6 HD
      obtain ⟨XL, hXL⟩ : ∃ XL, xb.length = XL := ⟨_, rfl⟩
      rw [hXL] at e3 hW6 HX6 HBX
      have HXL := Lib.hid hXL
      obtain ⟨G0, hG0⟩ : ∃ G0, wr.heap.size = G0 := ⟨_, rfl⟩
      rw [hG0] at HX6
      have HWS := Lib.hid hwsz
      have HF'' := Lib.hid hF'
      have ho3 := hbx.2.1
      dsimp only at ho3
      clear hblk hus huF hchg hx p1 p2 p3 husl hwsz hb6 hbx hUL hXL HI hF hF'
      by_cases hkeep : (k : Int) < keep
      · have HEQ : Hid ((⟨xo, xn, xt, xb, xa, xc⟩ : CV).ch.do F = F') := (HPA.out hkeep).symm
        have HBD : Hid (Below wr.heap.size wr W6.drew) := HB6.out.drew
        have HDD : Hid (Calls Try.prog 69 #[.slice ua UL uc, .agg #[.int .i64 xo, .string ⟨xn.toArray⟩, .string ⟨xt.toArray⟩, .slice xa XL xc]] W6.drew (GivesFs (fun k => R k ∨ w.heap.size ≤ k) W6.drew ((⟨xo, xn, xt, xb, xa, xc⟩ : CV).ch.do F))) := by
          have := HD.out W6.drew xo xb xa xc HBD.out (by rw [HXL.out]; exact HBX.out.1.below HBD.out (Nat.le_refl _)) HBX.out.2
          rwa [HXL.out] at this
        go_wp2_with fail
        rw [← hW6]
        clear hW6 e0 e1 e2 e3 c1
        obtain ⟨⟨b0, b1, b2, b3⟩, _⟩ := HX6.out W6 (Below.refl _ _)
        obtain ⟨g0, g1⟩ := HQ6.out W6 HB6.out
        go_region_with (first
          | (go_at_call 69; refine HDD.out.mono ?_; rintro e w7 ⟨vs7, a7, c7, rfl, hf7, hF7, hb7⟩; have HB7 := Lib.hid ((HBD.out).trans (hb7.mono (HBD.out).size)); obtain ⟨g0, g1⟩ := HQ6.out w7 HB7.out; have HX := Lib.hid (HFIN.out w7 vs7 a7 c7 HB7.out hf7 (hF7.trans HEQ.out)); clear hf7 hF7 hb7))
        all_goals go_wp2
        all_goals go_roundw
        all_goals (first | exact ⟨k + 1, by omega, by go_num, by rw [HF''.out]; exact HX.out⟩ | (simp [intOf]; omega))
      · by_cases hkM : (k : Int) = M
        · have kM : ((k : Int) == M) = true := by simpa using hkM
          have HT := Lib.hid (HPT.out hkeep hkM)
          clear hkM
          by_cases ho0 : xo = 0
          · subst ho0
            by_cases ht : 0 < torn
            · by_cases hl : 0 < XL
              · obtain ⟨m, hm⟩ : ∃ m : Nat, min torn (XL : Int) = (m : Int) := ⟨(min torn (XL : Int)).toNat, by omega⟩
                have hm1 : m ≤ XL := by omega
                have hm2 : (min (max torn 0) (XL : Int)).toNat = m ∧ 0 < min (max torn 0) (XL : Int) := by omega
                obtain ⟨hp1, hp2, hp3, hp4⟩ := HBX.out.1.parts hl
                have hml : (xb.take m).length = m := by rw [List.length_take]; omega
                have HEQ : Hid ((⟨0, xn, xt, xb.take m, xa, xc⟩ : CV).ch.do F = F') := by
                  show F.put xn (((F.get xn).getD []) ++ xb.take m) = F'
                  rw [HT.out]
                  show _ = (if 0 < min (max torn 0) (xb.length : Int) then F.put xn (((F.get xn).getD []) ++ xb.take (min (max torn 0) (xb.length : Int)).toNat) else F)
                  rw [HXL.out, if_pos hm2.2, hm2.1]
                obtain ⟨W8, hW8⟩ : ∃ W8, W8 = wr.alloc (.cells #[.int .i64 0, .string ⟨xn.toArray⟩, .string ⟨xt.toArray⟩, .slice xa m xc] 84) := ⟨_, rfl⟩
                have HB8 : Hid (Below wr.heap.size wr W8) := by rw [hW8]; exact Go.Joins.below_alloc1 wr _
                have HX8 : Hid (W8.cell? ⟨G0, 0, none⟩ = some (.int .i64 0) ∧ W8.cell? ⟨G0, 1, none⟩ = some (.string ⟨xn.toArray⟩) ∧ W8.cell? ⟨G0, 2, none⟩ = some (.string ⟨xt.toArray⟩) ∧ W8.cell? ⟨G0, 3, none⟩ = some (.slice xa m xc)) := by
                  have := (box84 (w := wr) (o := 0) (n := xn) (t := xt) (a := xa) (L := m) (c := xc) (Below.refl _ _)).1
                  rw [← hW8, hG0] at this
                  exact this
                have HBD : Hid (Below wr.heap.size wr W8.drew) := HB8.out.drew
                have HDD : Hid (Calls Try.prog 69 #[.slice ua UL uc, .agg #[.int .i64 0, .string ⟨xn.toArray⟩, .string ⟨xt.toArray⟩, .slice xa m xc]] W8.drew (GivesFs (fun k => R k ∨ w.heap.size ≤ k) W8.drew ((⟨0, xn, xt, xb.take m, xa, xc⟩ : CV).ch.do F))) := by
                  have hby := (HBX.out.1.below HBD.out (Nat.le_refl _))
                  have := HD.out W8.drew 0 (xb.take m) xa xc HBD.out (by rw [hml]; exact BytesIn.take hby (by omega) hp2 (by omega)) ⟨⟨Int.le_refl _, by show (0 : Int) ≤ 3; decide⟩, (fun h => by cases h), by show (xb.take m).length ≤ 100000; rw [hml]; have := HBX.out.2.2.2; dsimp only at this; omega⟩
                  rwa [hml] at this
                have hxz : ¬ xc = 0 := hp4
                have hmz : m ≤ xc := by omega
                clear hm1 hm2 hml hp1 hp2 hp3 hp4 HT hW6
                go_wp2_with fail
                rw [← hW8]
                clear hW8 e0 e1 e2 e3 c1
                obtain ⟨b0, b1, b2, b3⟩ := HX8.out
                obtain ⟨g0, g1⟩ := HQ6.out W8 HB8.out
                go_region_with (first
                  | (go_at_call 69; refine HDD.out.mono ?_; rintro e w7 ⟨vs7, a7, c7, rfl, hf7, hF7, hb7⟩; have HB7 := Lib.hid ((HBD.out).trans (hb7.mono (HBD.out).size)); obtain ⟨g0, g1⟩ := HQ6.out w7 HB7.out; have HX := Lib.hid (HFIN.out w7 vs7 a7 c7 HB7.out hf7 (hF7.trans HEQ.out)); clear hf7 hF7 hb7))
                all_goals go_wp2
                all_goals go_roundw
                all_goals (first | exact ⟨k + 1, by omega, by go_num, by rw [HF''.out]; exact HX.out⟩ | (simp [intOf]; omega))
              · have HEQ : Hid (F' = F) := by show _ = _; rw [HT.out]; show (if 0 < min (max torn 0) (xb.length : Int) then _ else F) = F; rw [HXL.out, if_neg (by omega)]
                have hlz : ¬ 0 < (XL : Int) := by omega
                clear HX6 HQ6 HB6 HFIN HD hW6
                go_wp2
                go_roundw
                case rel => exact ⟨k + 1, by omega, by go_num, by rw [HF''.out]; exact HSTILL.out _ (Go.Joins.below_alloc1 wr _) HEQ.out⟩
                case measure => simp [intOf]; omega
            · have HEQ : Hid (F' = F) := by show _ = _; rw [HT.out]; show (if 0 < min (max torn 0) (xb.length : Int) then _ else F) = F; rw [if_neg (by omega)]
              clear HX6 HQ6 HB6 HFIN HD hW6
              go_wp2
              go_roundw
              case rel => exact ⟨k + 1, by omega, by go_num, by rw [HF''.out]; exact HSTILL.out _ (Go.Joins.below_alloc1 wr _) HEQ.out⟩
              case measure => simp [intOf]; omega
          · have HEQ : Hid (F' = F) := by show _ = _; rw [HT.out]; exact tear_other ho0 torn F
            have hoz : (xo == 0) = false := by simpa using ho0
            clear HX6 HQ6 HB6 HFIN HD hW6
            go_wp2
            go_roundw
            case rel => exact ⟨k + 1, by omega, by go_num, by rw [HF''.out]; exact HSTILL.out _ (Go.Joins.below_alloc1 wr _) HEQ.out⟩
            case measure => simp [intOf]; omega
        · have HEQ : Hid (F' = F) := HPP.out hkeep hkM
          have kM : ((k : Int) == M) = false := by simpa using hkM
          clear HX6 HQ6 HB6 HFIN HD hW6
          go_wp2
          go_roundw
          case rel => exact ⟨k + 1, by omega, by go_num, by rw [HF''.out]; exact HSTILL.out _ (Go.Joins.below_alloc1 wr _) HEQ.out⟩
          case measure => simp [intOf]; omega
    · obtain rfl : k = K := by omega
      have c0 := hblk
      have d1 : wr.frozen? ⟨q, 1, none⟩ = false := by simp [World.frozen?, hblk]
      have d4 : wr.frozen? ⟨q, 4, none⟩ = false := by simp [World.frozen?, hblk]
      have g4 : wr.cell? ⟨q, 4, none⟩ = some (.bool false) := by rw [Go.Joins.cell_of_block hblk]; rfl
      have HR := Lib.hid (HEND.out wr HI.out)
      clear hblk hus huF hchg c0
      go_wp2
      go_ret
      exact ⟨rfl, HR.out⟩
end Go.Proofs.Yticbfnflillokaa
