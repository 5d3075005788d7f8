/- Crash. -/
import Derived.Test.YticbfnflillokaaOps6
namespace Go.Proofs.Yticbfnflillokaa
open Go.RowKit Go.Maps Go.WideMaps
/-- how many of what waits a crash keeps -/
def Dk.keeps (d : Dk) (keep : Int) : Nat := (min (max keep 0) (d.waits.length : Nat)).toNat
/-- the files that last behind a crash -/
def Dk.left (d : Dk) (keep torn : Int) : Fs := match d.waits[d.keeps keep]? with
  | some c => c.tear torn (doAll (d.waits.take (d.keeps keep)) d.synced)
  | none => doAll (d.waits.take (d.keeps keep)) d.synced
def Dk.crash (d : Dk) (keep torn : Int) : Int × Dk := if d.down then (6, d) else (0, { d with synced := d.left keep torn, seen := d.left keep torn, waits := [], down := true })
theorem tear_total (c : Ch) (K : Int) {F : Fs} (hF : F.ok) : (c.tear K F).total ≤ F.total ∨ (c.tear K F).total ≤ (c.do F).total := by
  cases c with
  | app n t =>
    simp only [Ch.tear]
    split
    · right
      have h1 := Fs.total_put hF n ((F.get n).getD [] ++ t.take (min (max K 0) t.length).toNat)
      have h2 := Fs.total_put hF n ((F.get n).getD [] ++ t)
      rw [List.length_append] at h1 h2
      have h3 : (t.take (min (max K 0) t.length).toNat).length ≤ t.length := by rw [List.length_take]; omega
      show (F.put n ((F.get n).getD [] ++ t.take (min (max K 0) t.length).toNat)).total ≤ (F.put n ((F.get n).getD [] ++ t)).total
      omega
    · exact .inl (Nat.le_refl _)
  | put n t => exact .inl (Nat.le_refl _)
  | ren n m => exact .inl (Nat.le_refl _)
  | rem n => exact .inl (Nat.le_refl _)
theorem Dk.keeps_le (d : Dk) (keep : Int) : d.keeps keep ≤ d.waits.length := by unfold Dk.keeps; omega
theorem Dk.ok.left {d : Dk} (h : d.ok) (keep torn : Int) : (d.left keep torn).ok ∧ (d.left keep torn).total ≤ d.cap := by
  have hk := d.keeps_le keep
  have h1 := h.fits _ hk
  have hF : Fs.ok (doAll (d.waits.take (d.keeps keep)) d.synced) := doAll_ok _ h.rises
  unfold Dk.left
  cases hc : d.waits[d.keeps keep]? with
  | none => exact ⟨hF, h1⟩
  | some c =>
    have hlt := (List.getElem?_eq_some_iff.1 hc).1
    have h2 := h.fits (d.keeps keep + 1) hlt
    rw [List.take_add_one, hc] at h2
    have h2 : (c.do (doAll (d.waits.take (d.keeps keep)) d.synced)).total ≤ d.cap := by rw [← doAll_snoc]; exact h2
    refine ⟨c.ok_tear torn hF, ?_⟩
    show (c.tear torn (doAll (d.waits.take (d.keeps keep)) d.synced)).total ≤ d.cap
    rcases tear_total c torn hF with h3 | h3 <;> omega
/-- the last steps of a crash -/
def W4 (w3 : World) (p b T : Nat) : World := (((w3.setCell ⟨p, 5, none⟩ (.map (some b))).setCell ⟨p, 6, none⟩ (.int .i64 (T : Nat))).setCell ⟨p, 7, none⟩ (.slice none 0 0)).setCell ⟨p, 4, none⟩ (.bool true)
theorem crash_tail {w2 : World} {O2 I : Nat → Prop} {p n1 n2 : Nat} {d2 : Dk} {m1 m2 : Nat} {wv : Value} {vs : List (Value × Value)} {S1 S2 : Nat → Prop} (h : DiskP w2 O2 I p n1 n2 d2 m1 m2 wv vs S1 S2) (hn : n1 ≤ 1000000) (ht : d2.synced.total ≤ 1000000) :
    Calls Try.prog 36 #[.pointer (some ⟨p, 0, none⟩)] w2 fun e w3 => ∃ b', e = .returned (.agg #[.map (some b'), .int .i64 (d2.synced.total : Nat)]) ∧ w3.heap[p]? = some (.cells (dcells p m1 m2 wv d2) 47 (0, 0)) ∧
      ∃ O3, DiskRaw (W4 w3 p b' d2.synced.total) O3 I p n1 n1 { d2 with seen := d2.synced, waits := [], down := true } ∧ (∀ k, O3 k → O2 k ∨ w2.heap.size ≤ k) ∧ Chg O2 w2 (W4 w3 p b' d2.synced.total) := by
  refine (clone_sh p 0 m1 n1 S1 d2.synced w2 ⟨_, 47, h.block, rfl, rfl⟩ h.one hn ht).mono ?_
  rintro e w3 ⟨b', S3, rfl, hs3, hge, hb⟩
  have hblk : w3.heap[p]? = some (.cells (dcells p m1 m2 wv d2) 47 (0, 0)) := by rw [hb.block p (h.lt p (.inl h.op))]; exact h.block
  have hc3 : Chg (fun i => i = p) w3 (W4 w3 p b' d2.synced.total) := ((((Chg.refl (fun i => i = p) w3).setCell (p := ⟨p, 5, none⟩) (.inl rfl) _).setCell (p := ⟨p, 6, none⟩) (.inl rfl) _).setCell (p := ⟨p, 7, none⟩) (.inl rfl) _).setCell (p := ⟨p, 4, none⟩) (.inl rfl) _
  have hc2 : Chg (fun i => i = p) w2 (W4 w3 p b' d2.synced.total) := Chg.behind hb hc3
  have hb4 := Go.Joins.block_setCell (i := 4) (Go.Joins.block_setCell (i := 7) (Go.Joins.block_setCell (i := 6) (Go.Joins.block_setCell (i := 5) hblk (.map (some b'))) (.int .i64 (d2.synced.total : Nat))) (.slice none 0 0)) (.bool true)
  have hpl := h.lt p (.inl h.op)
  have hfin := h.clear (d' := { d2 with seen := d2.synced, waits := [], down := true }) (S2' := S3) (m2' := b') (n2' := n1) hc2 rfl rfl (hs3.chg hc3 fun k hk hS => by have := hge k hS; omega) (.inl hge) hb4
  refine ⟨b', rfl, hblk, _, ⟨_, _, _, _, _, _, hfin⟩, fun k hk => ?_, hc2.mono fun k hk => .inl (by rw [hk]; exact h.op)⟩
  rcases hk with hk | hk
  · exact .inl hk
  · exact .inr (hge k hk)
theorem neq_nil (w : World) : (binOp .neq 73 .nilFunc .nilFunc).run Try.prog w = .ok (.bool false) w := by
  have h : ∀ d : Nat, (Op.equalIn (d + 1) 73 .nilFunc .nilFunc).run Try.prog w = .ok true w := fun d => by
    simp [Op.equalIn, run_underlying Try.underlying73]
  simp only [binOp]
  simp [Op.equal, Op.maxDepth, h 9999]
theorem neq_func (f : Fn) (a b : Array Value) (w : World) : (binOp .neq 73 (.func f a b) .nilFunc).run Try.prog w = .ok (.bool true) w := by
  have h : ∀ d : Nat, (Op.equalIn (d + 1) 73 (.func f a b) .nilFunc).run Try.prog w = .ok false w := fun d => by
    simp [Op.equalIn, run_underlying Try.underlying73]
  simp only [binOp]
  simp [Op.equal, Op.maxDepth, h 9999]
set_option maxRecDepth 100000 in
set_option maxHeartbeats 1000000 in
theorem crash_any {w : World} {O I : Nat → Prop} {p N : Nat} {d : Dk} (h : DiskAt w O I p N d) (hN : N ≤ 400000) (keep torn : Int) :
    Calls Try.prog 23 #[.pointer (some ⟨p, 0, none⟩), .int .i64 keep, .int .i64 torn] w (Does w O I p (N + 1) (d.crash keep torn).1 (d.crash keep torn).2) := by
  have hA := h
  obtain ⟨n1, n2, hr, hok, hn1, hn2, hser⟩ := h
  have HD := Lib.hid (down_yes p d.down w hr.c8 hr.c4)
  unfold Dk.crash
  cases hd : d.down
  · rw [hd] at HD
    rw [if_neg (by simp)]
    obtain ⟨m1, m2, wv, vs, S1, S2, hP⟩ := hr
    obtain ⟨wa, wc, rfl⟩ := hP.row.form
    have hcap := hok.cap
    have hkl := d.keeps_le keep
    have hleft := hok.left keep torn
    have HW := Lib.hid (within_any keep (d.waits.length : Nat) w (by omega))
    have HC := Lib.hid (commit_any w O I p n1 n2 d m1 m2 _ vs S1 S2 hP (d.keeps keep) hkl (by omega) (by omega) fun i hi => by have := hok.fits i (by omega); omega)
    have hmin : min (max keep 0) ((d.waits.length : Nat) : Int) = ((d.keeps keep : Nat) : Int) := by unfold Dk.keeps; omega
    rw [hmin] at HW
    have c7 := hP.c7
    have hl := hP.len
    -- behind all
    have HTAIL : Hid (∀ w2 O2 S' n1', DiskP w2 O2 I p n1' n2 { d with synced := d.left keep torn } m1 m2 (.slice wa vs.length wc) vs S' S2 → n1' ≤ N → (∀ k, O2 k → O k ∨ w.heap.size ≤ k) → Chg O w w2 → w.heap.size ≤ w2.heap.size →
        Calls Try.prog 36 #[.pointer (some ⟨p, 0, none⟩)] w2 fun e w3 => ∃ b', e = .returned (.agg #[.map (some b'), .int .i64 ((d.left keep torn).total : Nat)]) ∧ w3.heap[p]? = some (.cells (dcells p m1 m2 (.slice wa vs.length wc) { d with synced := d.left keep torn }) 47 (0, 0)) ∧
          Does w O I p (N + 1) 0 { d with synced := d.left keep torn, seen := d.left keep torn, waits := [], down := true } (.returned (.int .i64 0)) (W4 w3 p b' (d.left keep torn).total)) := fun w2 O2 S' n1' hd2 hn1' hO2 hc2 hs2 => by
      refine (crash_tail hd2 (by omega) (by have := hleft.2; show (d.left keep torn).total ≤ 1000000; omega)).mono ?_
      rintro e w3 ⟨b', rfl, hblk, O3, hraw, hO3, hc3⟩
      refine ⟨b', rfl, hblk, rfl, O3, I, ⟨n1', n1', hraw, ⟨hleft.1, rfl, fun i _ => by rw [show ([] : List Ch).take i = [] by simp]; exact hleft.2, hok.cap⟩, by show n1' + 0 ≤ N + 1; omega, by omega, by show d.serial ≤ N + 1 + 1; omega⟩, hc2.then hc3 hO2, fun k hk => ?_, fun _ h => .inl h⟩
      rcases hO3 k hk with h' | h'
      · exact hO2 k h'
      · exact .inr (by omega)
    -- behind the commit
    have HMID : Hid (∀ w1, Committing w w1 p n1 d m1 m2 (.slice wa vs.length wc) S1 (d.keeps keep) → ∃ O1 S', DiskP w1 O1 I p (n1 + d.keeps keep) n2 { d with synced := doAll (d.waits.take (d.keeps keep)) d.synced } m1 m2 (.slice wa vs.length wc) vs S' S2 ∧ (∀ k, O1 k → O k ∨ w.heap.size ≤ k) ∧ Chg O w w1) := fun w1 hc => by
      obtain ⟨S', hP1, hsub, hch⟩ := Committing.disk hP hc
      refine ⟨_, S', hP1, fun k hk => ?_, hch.mono fun k hk => .inl ?_⟩
      · rcases hk with hk | hk
        · exact .inl hk
        · rcases hsub k hk with h' | h'
          · exact .inl (hP.o1 k h')
          · exact .inr h'
      · rcases hk with hk | hk
        · exact hP.o1 k hk
        · rw [hk]; exact hP.op
    have hlk : n1 + d.keeps keep ≤ N := by omega
    by_cases hlt : d.keeps keep < d.waits.length
    · obtain ⟨c, hcj⟩ : ∃ c, d.waits[d.keeps keep]? = some c := ⟨_, List.getElem?_eq_getElem hlt⟩
      obtain ⟨v, hv⟩ : ∃ v, vs[d.keeps keep]? = some v := ⟨_, List.getElem?_eq_getElem (by omega)⟩
      have hlf : d.left keep torn = c.tear torn (doAll (d.waits.take (d.keeps keep)) d.synced) := by unfold Dk.left; rw [hcj]
      have hch := (hP.chs _ c v hcj hv).2
      obtain ⟨g, hg⟩ : ∃ g, wa = some ⟨g, 0, none⟩ := by
        rcases hP.row.2 with ⟨e, h0⟩ | ⟨g, cap, cur, e, _⟩
        · have := hP.len; omega
        · injection e with e _ _; exact ⟨g, e⟩
      subst hg
      have hcaps : vs.length ≤ wc ∧ wc ≤ maxLen := by
        rcases hP.row.2 with ⟨e, _⟩ | ⟨g, cap, cur, e, _, _, h1, h2, _⟩
        · injection e with e _ _; cases e
        · injection e with _ _ e; subst e; exact ⟨h1, h2⟩
      rw [maxLen_eq] at hcaps
      have HT2 : Hid (∀ w1, Committing w w1 p n1 d m1 m2 (.slice (some ⟨g, 0, none⟩) vs.length wc) S1 (d.keeps keep) → w1.cell? ⟨p, 7, none⟩ = some (.slice (some ⟨g, 0, none⟩) vs.length wc) ∧ w1.cell? ⟨g, d.keeps keep * 2 + 1, none⟩ = some v.2) := fun w1 hc => by
        obtain ⟨O1, S', h1, h2, h3⟩ := HMID.out w1 hc
        refine ⟨h1.c7, ?_⟩
        rw [World.ownsRow.cellAt h1.row (d.keeps keep * 2 + 1) (by omega), chc_at vs (d.keeps keep) 1 (by omega), hv]
        rfl
      rcases hch with ⟨hnil, hsame⟩ | hfun
      · have HT3 : Hid (∀ w1, Committing w w1 p n1 d m1 m2 (.slice (some ⟨g, 0, none⟩) vs.length wc) S1 (d.keeps keep) → Calls Try.prog 36 #[.pointer (some ⟨p, 0, none⟩)] w1 fun e w3 => ∃ b', e = .returned (.agg #[.map (some b'), .int .i64 ((d.left keep torn).total : Nat)]) ∧ w3.heap[p]? = some (.cells (dcells p m1 m2 (.slice (some ⟨g, 0, none⟩) vs.length wc) { d with synced := d.left keep torn }) 47 (0, 0)) ∧
          Does w O I p (N + 1) 0 { d with synced := d.left keep torn, seen := d.left keep torn, waits := [], down := true } (.returned (.int .i64 0)) (W4 w3 p b' (d.left keep torn).total)) := fun w1 hc => by
          obtain ⟨O1, S', h1, h2, h3⟩ := HMID.out w1 hc
          refine HTAIL.out w1 O1 S' _ ?_ hlk h2 h3 h3.size
          rw [hlf, hsame]; exact h1
        rw [hnil] at HT2
        obtain ⟨J, hJ⟩ : ∃ J, d.keeps keep = J := ⟨_, rfl⟩
        rw [hJ] at HW HC HT2 HT3 hlt
        rw [hl] at c7 HC HT2 HT3 hcaps
        obtain ⟨L, hL⟩ : ∃ L, d.waits.length = L := ⟨_, rfl⟩
        rw [hL] at c7 HC HW HT2 HT3 hlt hcaps
        obtain ⟨T, hT⟩ : ∃ T, (d.left keep torn).total = T := ⟨_, rfl⟩
        rw [hT] at HT3
        have hc1 := hcaps.1
        have hc2 := hcaps.2
        clear hA hP HMID HTAIL hleft hlf hl hkl hmin hL hT hd hcj hv hsame hnil hJ hcaps hlk hok hn1
        have kn := neq_nil
        have kf := neq_func
        go_enter Try.func23, Try.ntmps23
        go_wp2_with (first | (go_at_call 31; refine HD.out.mono ?_; rintro e w1 ⟨rfl, rfl⟩) | (go_at_call 46; refine HW.out.mono ?_; rintro e w1 ⟨rfl, rfl⟩))
        refine HC.out.mono ?_
        rintro e w1 ⟨rfl, hc⟩
        have d7 := (HT2.out w1 hc).1
        have d8 := (HT2.out w1 hc).2
        have HX := Lib.hid (HT3.out w1 hc)
        clear hc
        go_wp2_with fail
        refine HX.out.mono ?_
        rintro e w3 ⟨b', rfl, hblk, hdoes⟩
        have HY := Lib.hid hdoes
        have q4 : w3.cell? ⟨p, 4, none⟩ = some (.bool d.down) := by rw [Go.Joins.cell_of_block hblk]; rfl
        have q5 : w3.cell? ⟨p, 5, none⟩ = some (.map (some m2)) := by rw [Go.Joins.cell_of_block hblk]; rfl
        have q6 : w3.cell? ⟨p, 6, none⟩ = some (.int .i64 (d.seen.total : Nat)) := by rw [Go.Joins.cell_of_block hblk]; rfl
        have q7 : w3.cell? ⟨p, 7, none⟩ = some (.slice (some ⟨g, 0, none⟩) L wc) := by rw [Go.Joins.cell_of_block hblk]; rfl
        have qf : ∀ i, w3.frozen? ⟨p, i, none⟩ = false := fun i => by simp [World.frozen?, hblk]
        clear hblk hdoes
        go_wp2
        go_ret
        exact HY.out
      · obtain ⟨f, lb, hvf, heg, hdo⟩ := hfun torn
        have HT3 : Hid (∀ w1, Committing w w1 p n1 d m1 m2 (.slice (some ⟨g, 0, none⟩) vs.length wc) S1 (d.keeps keep) → Calls Try.prog f (#[.pointer (some ⟨p, 0, none⟩)] ++ #[.int .i64 torn] ++ lb) w1.drew fun e w2 => e = .returned (.tuple #[]) ∧ Calls Try.prog 36 #[.pointer (some ⟨p, 0, none⟩)] w2 fun e w3 => ∃ b', e = .returned (.agg #[.map (some b'), .int .i64 ((d.left keep torn).total : Nat)]) ∧ w3.heap[p]? = some (.cells (dcells p m1 m2 (.slice (some ⟨g, 0, none⟩) vs.length wc) { d with synced := d.left keep torn }) 47 (0, 0)) ∧
          Does w O I p (N + 1) 0 { d with synced := d.left keep torn, seen := d.left keep torn, waits := [], down := true } (.returned (.int .i64 0)) (W4 w3 p b' (d.left keep torn).total)) := fun w1 hc => by
          obtain ⟨O1, S', h1, h2, h3⟩ := HMID.out w1 hc
          have hA1 : Chg (fun _ => False) w1 w1.drew := (Chg.refl _ w1).drew
          have h1' := h1.chg hA1 fun _ h => h.elim
          have h3' : Chg O w w1.drew := h3.drew
          have hfit := hok.fits _ hkl
          refine (hdo w1.drew (h3'.keep hP.di) p 0 m1 (n1 + d.keeps keep) S' (doAll (d.waits.take (d.keeps keep)) d.synced) ⟨_, 47, h1'.block, rfl, rfl⟩ h1'.one (fun k hk => ?_) (fun hS => (h1.d1 p hS).2.2 rfl) (by omega) (by omega)).mono ?_
          · rcases hk with hk | hk
            · exact h1.di k (h1.o1 k hk)
            · rw [hk]; exact h1.di p h1.op
          rintro e w2 ⟨rfl, S'', hs, hsub, hch2, hcell⟩
          have hd2 := h1'.put1 hs hsub hch2 (hcell _ _ h1'.block)
          rw [← hlf] at hd2
          refine ⟨rfl, HTAIL.out w2 _ S'' _ hd2 (by omega) (fun k hk => ?_) (h3'.then hch2 fun k hk => ?_) (Nat.le_trans h3'.size hch2.size)⟩
          · rcases hk with hk | hk
            · exact h2 k hk
            · rcases hsub k hk with h' | h'
              · exact h2 k (h1.o1 k h')
              · exact .inr (Nat.le_trans h3'.size h')
          · rcases hk with hk | hk
            · exact h2 k (h1.o1 k hk)
            · rw [hk]; exact .inl hP.op
        rw [hvf] at HT2
        unfold Enters at heg
        obtain ⟨J, hJ⟩ : ∃ J, d.keeps keep = J := ⟨_, rfl⟩
        rw [hJ] at HW HC HT2 HT3 hlt
        rw [hl] at c7 HC HT2 HT3 hcaps
        obtain ⟨L, hL⟩ : ∃ L, d.waits.length = L := ⟨_, rfl⟩
        rw [hL] at c7 HC HW HT2 HT3 hlt hcaps
        obtain ⟨T, hT⟩ : ∃ T, (d.left keep torn).total = T := ⟨_, rfl⟩
        rw [hT] at HT3
        have hc1 := hcaps.1
        have hc2 := hcaps.2
        clear hA hP HMID HTAIL hleft hlf hl hkl hmin hL hT hd hcj hv hfun hvf hdo hJ hcaps hlk hok hn1
        have kn := neq_nil
        have kf := neq_func
        go_enter Try.func23, Try.ntmps23
        go_wp2_with (first | (go_at_call 31; refine HD.out.mono ?_; rintro e w1 ⟨rfl, rfl⟩) | (go_at_call 46; refine HW.out.mono ?_; rintro e w1 ⟨rfl, rfl⟩))
        refine HC.out.mono ?_
        rintro e w1 ⟨rfl, hc⟩
        have d7 := (HT2.out w1 hc).1
        have d8 := (HT2.out w1 hc).2
        have HDO := Lib.hid (HT3.out w1 hc)
        clear hc
        go_wp2_with fail
        go_still_tail 13, (by kernel_rfl)
        change wpList _ _ _ _ _ w1.drew
        go_wp2_with fail
        refine HDO.out.mono ?_
        rintro e w2 ⟨rfl, hcl⟩
        have HX := Lib.hid hcl
        clear hcl
        go_wp2_with fail
        refine HX.out.mono ?_
        rintro e w3 ⟨b', rfl, hblk, hdoes⟩
        have HY := Lib.hid hdoes
        have q4 : w3.cell? ⟨p, 4, none⟩ = some (.bool d.down) := by rw [Go.Joins.cell_of_block hblk]; rfl
        have q5 : w3.cell? ⟨p, 5, none⟩ = some (.map (some m2)) := by rw [Go.Joins.cell_of_block hblk]; rfl
        have q6 : w3.cell? ⟨p, 6, none⟩ = some (.int .i64 (d.seen.total : Nat)) := by rw [Go.Joins.cell_of_block hblk]; rfl
        have q7 : w3.cell? ⟨p, 7, none⟩ = some (.slice (some ⟨g, 0, none⟩) L wc) := by rw [Go.Joins.cell_of_block hblk]; rfl
        have qf : ∀ i, w3.frozen? ⟨p, i, none⟩ = false := fun i => by simp [World.frozen?, hblk]
        clear hblk hdoes
        go_wp2
        go_ret
        exact HY.out
    · have hnone : d.waits[d.keeps keep]? = none := List.getElem?_eq_none (by omega)
      have hlf : d.left keep torn = doAll (d.waits.take (d.keeps keep)) d.synced := by unfold Dk.left; rw [hnone]
      have HT2 : Hid (∀ w1, Committing w w1 p n1 d m1 m2 (.slice wa vs.length wc) S1 (d.keeps keep) → w1.cell? ⟨p, 7, none⟩ = some (.slice wa vs.length wc) ∧ Calls Try.prog 36 #[.pointer (some ⟨p, 0, none⟩)] w1 fun e w3 => ∃ b', e = .returned (.agg #[.map (some b'), .int .i64 ((d.left keep torn).total : Nat)]) ∧ w3.heap[p]? = some (.cells (dcells p m1 m2 (.slice wa vs.length wc) { d with synced := d.left keep torn }) 47 (0, 0)) ∧
          Does w O I p (N + 1) 0 { d with synced := d.left keep torn, seen := d.left keep torn, waits := [], down := true } (.returned (.int .i64 0)) (W4 w3 p b' (d.left keep torn).total)) := fun w1 hc => by
        obtain ⟨O1, S', h1, h2, h3⟩ := HMID.out w1 hc
        refine ⟨h1.c7, HTAIL.out w1 O1 S' _ ?_ hlk h2 h3 h3.size⟩
        rw [hlf]; exact h1
      have hkeq : d.keeps keep = d.waits.length := by omega
      rw [hkeq] at HW HC HT2
      rw [hl] at c7 HC HT2
      obtain ⟨L, hL⟩ : ∃ L, d.waits.length = L := ⟨_, rfl⟩
      rw [hL] at c7 HC HW HT2
      obtain ⟨T, hT⟩ : ∃ T, (d.left keep torn).total = T := ⟨_, rfl⟩
      rw [hT] at HT2
      clear hA hP HMID HTAIL hleft hlf hnone hkeq hl hlt hkl hmin hL hT hd
      go_enter Try.func23, Try.ntmps23
      go_wp2_with (first | (go_at_call 31; refine HD.out.mono ?_; rintro e w1 ⟨rfl, rfl⟩) | (go_at_call 46; refine HW.out.mono ?_; rintro e w1 ⟨rfl, rfl⟩))
      refine HC.out.mono ?_
      rintro e w1 ⟨rfl, hc⟩
      have d7 := (HT2.out w1 hc).1
      have HX := Lib.hid (HT2.out w1 hc).2
      clear hc
      go_wp2_with fail
      refine HX.out.mono ?_
      rintro e w3 ⟨b', rfl, hblk, hdoes⟩
      have HY := Lib.hid hdoes
      have q4 : w3.cell? ⟨p, 4, none⟩ = some (.bool d.down) := by rw [Go.Joins.cell_of_block hblk]; rfl
      have q5 : w3.cell? ⟨p, 5, none⟩ = some (.map (some m2)) := by rw [Go.Joins.cell_of_block hblk]; rfl
      have q6 : w3.cell? ⟨p, 6, none⟩ = some (.int .i64 (d.seen.total : Nat)) := by rw [Go.Joins.cell_of_block hblk]; rfl
      have q7 : w3.cell? ⟨p, 7, none⟩ = some (.slice wa L wc) := by rw [Go.Joins.cell_of_block hblk]; rfl
      have qf : ∀ i, w3.frozen? ⟨p, i, none⟩ = false := fun i => by simp [World.frozen?, hblk]
      clear hblk hdoes
      go_wp2
      go_ret
      exact HY.out
  · rw [hd] at HD
    have HST : Hid (Does w O I p (N + 1) 6 d (.returned (.int .i64 6)) w) := Does.still hA 6 (Below.refl _ _)
    rw [if_pos rfl]
    clear hr hA hd
    go_enter Try.func23, Try.ntmps23
    go_wp2_with (go_at_call 31; refine HD.out.mono ?_; rintro e w1 ⟨rfl, rfl⟩)
    go_ret
    exact HST.out
end Go.Proofs.Yticbfnflillokaa
