/- A disk in memory; commit. -/
import Derived.Test.YticbfnflillokaaCopy
import Derived.Laws.EntriesVeiled
namespace Go.Proofs.Yticbfnflillokaa
open Go.RowKit Go.Maps Go.WideMaps
/-- W has w's blocks I as they were -/
def Keep (I : Nat → Prop) (w W : World) : Prop := w.heap.size ≤ W.heap.size ∧ ∀ k, I k → k < w.heap.size → W.heap[k]? = w.heap[k]?
theorem Keep.refl (I : Nat → Prop) (w : World) : Keep I w w := ⟨Nat.le_refl _, fun _ _ _ => rfl⟩
theorem Keep.trans {I : Nat → Prop} {a b c : World} (h : Keep I a b) (k : Keep I b c) : Keep I a c := ⟨Nat.le_trans h.1 k.1, fun i hi hl => (k.2 i hi (Nat.lt_of_lt_of_le hl h.1)).trans (h.2 i hi hl)⟩
theorem Chg.keep {S I : Nat → Prop} {w W : World} (h : Chg S w W) (hd : ∀ k, S k → ¬ I k) : Keep I w W := ⟨h.size, fun k hI hl => h.block k hl fun hS => hd k hS hI⟩
def Enters (f : Nat) : Prop := ∀ args w, (callFunc f args).run Try.prog w = .ok (.enter f args) w
/-- v is a function that makes a shelf's files F into F' F -/
def DoesAt (w : World) (I : Nat → Prop) (v : Value) (F' : Fs → Fs) (more : Array Value) : Prop :=
  ∃ f lb, v = .func (.func f) #[] lb ∧ Enters f ∧ ∀ W, Keep I w W → ∀ p o bm n S F, ShP W p o bm F.total → ShelfOf W S bm n F → (∀ k, (S k ∨ k = p) → ¬ I k) → ¬ S p → n ≤ 1000000 → F.total ≤ 100000 →
    Calls Try.prog f (#[.pointer (some ⟨p, o, none⟩)] ++ more ++ lb) W (ShPost W S p o bm (n + 1) (F' F))
theorem DoesAt.keep {w w' : World} {I : Nat → Prop} {v : Value} {F' : Fs → Fs} {more : Array Value} (h : DoesAt w I v F' more) (hk : Keep I w w') : DoesAt w' I v F' more := by
  obtain ⟨f, lb, e, he, h⟩ := h
  exact ⟨f, lb, e, he, fun W hW => h W (hk.trans hW)⟩
theorem DoesAt.wide {w : World} {I J : Nat → Prop} {v : Value} {F' : Fs → Fs} {more : Array Value} (h : DoesAt w I v F' more) (hk : ∀ k, I k → J k) : DoesAt w J v F' more := by
  obtain ⟨f, lb, e, he, h⟩ := h
  exact ⟨f, lb, e, he, fun W hW p o bm n S F h1 h2 h3 => h W ⟨hW.1, fun k hI => hW.2 k (hk k hI)⟩ p o bm n S F h1 h2 fun k hk' hI => h3 k hk' (hk k hI)⟩
/-- v is the change c, as it waits -/
def ChAt (w : World) (I : Nat → Prop) (c : Ch) (v : Value × Value) : Prop :=
  DoesAt w I v.1 c.do #[] ∧ ((v.2 = .nilFunc ∧ ∀ K F, c.tear K F = F) ∨ ∀ K : Int, DoesAt w I v.2 (c.tear K) #[.int .i64 K])
theorem ChAt.keep {w w' : World} {I : Nat → Prop} {c : Ch} {v : Value × Value} (h : ChAt w I c v) (hk : Keep I w w') : ChAt w' I c v :=
  ⟨h.1.keep hk, h.2.imp id fun h K => (h K).keep hk⟩
theorem ChAt.wide {w : World} {I J : Nat → Prop} {c : Ch} {v : Value × Value} (h : ChAt w I c v) (hk : ∀ k, I k → J k) : ChAt w J c v :=
  ⟨h.1.wide hk, h.2.imp id fun h K => (h K).wide hk⟩
def chc (v : Value × Value) : List Value := [v.1, v.2]
theorem chc_length (vs : List (Value × Value)) : (vs.flatMap chc).length = vs.length * 2 := by
  induction vs with
  | nil => rfl
  | cons p ps ih => rw [List.flatMap_cons, List.length_append, ih]; simp [chc]; omega
theorem chc_at : ∀ (vs : List (Value × Value)) (i r : Nat), r < 2 → (vs.flatMap chc)[i * 2 + r]? = (vs[i]?).bind fun p => (chc p)[r]?
  | [], i, r, _ => by simp
  | p :: ps, i, r, hr => by
    rw [List.flatMap_cons]
    have hl : (chc p).length = 2 := rfl
    cases i with
    | zero => rw [List.getElem?_append_left (by omega)]; simp
    | succ i =>
      rw [List.getElem?_append_right (by omega), hl, show (i + 1) * 2 + r - 2 = i * 2 + r by omega, chc_at ps i r hr]
      simp
def OwnChs (w : World) (v : Value) (vs : List (Value × Value)) : Prop := w.ownsRow 0 75 2 v vs.length (vs.flatMap chc)
theorem OwnChs.chg {w w' : World} {v : Value} {vs : List (Value × Value)} {S : Nat → Prop} (h : OwnChs w v vs) (hc : Chg S w w') (hS : ∀ k, v.ownBlock = some k → ¬ S k) : OwnChs w' v vs := by
  refine ⟨h.1, ?_⟩
  rcases h.2 with h2 | ⟨g, cap, cur, rfl, hbg, hg, r⟩
  · exact .inl h2
  · exact .inr ⟨g, cap, cur, rfl, hbg, hc.heap hg (hS g rfl), r⟩
/-- the disk d at block p -/
structure DiskP (w : World) (O I : Nat → Prop) (p n1 n2 : Nat) (d : Dk) (m1 m2 : Nat) (wv : Value) (vs : List (Value × Value)) (S1 S2 : Nat → Prop) : Prop where
  block : w.heap[p]? = some (.cells #[.map (some m1), .int .i64 (d.synced.total : Nat), .int .i64 (d.cap : Nat), .int .u64 (d.serial : Nat), .bool d.down, .map (some m2), .int .i64 (d.seen.total : Nat), wv, .pointer (some ⟨p, 0, none⟩)] 47 (0, 0))
  one : ShelfOf w S1 m1 n1 d.synced
  two : ShelfOf w S2 m2 n2 d.seen
  row : OwnChs w wv vs
  len : vs.length = d.waits.length
  chs : ∀ (j : Nat) c v, d.waits[j]? = some c → vs[j]? = some v → ChAt w I c v
  o1 : ∀ k, S1 k → O k
  o2 : ∀ k, S2 k → O k
  ow : ∀ k, wv.ownBlock = some k → O k
  op : O p
  d1 : ∀ k, S1 k → ¬ S2 k ∧ wv.ownBlock ≠ some k ∧ k ≠ p
  d2 : ∀ k, S2 k → wv.ownBlock ≠ some k ∧ k ≠ p
  dw : wv.ownBlock ≠ some p
  di : ∀ k, O k → ¬ I k
  lt : ∀ k, O k ∨ I k → k < w.heap.size
def DiskRaw (w : World) (O I : Nat → Prop) (p n1 n2 : Nat) (d : Dk) : Prop := ∃ m1 m2 wv vs S1 S2, DiskP w O I p n1 n2 d m1 m2 wv vs S1 S2
theorem DiskP.chg {w w' : World} {O I : Nat → Prop} {p n1 n2 : Nat} {d : Dk} {m1 m2 : Nat} {wv : Value} {vs : List (Value × Value)} {S1 S2 C : Nat → Prop} (h : DiskP w O I p n1 n2 d m1 m2 wv vs S1 S2) (hc : Chg C w w') (hd : ∀ k, C k → ¬ O k ∧ ¬ I k) : DiskP w' O I p n1 n2 d m1 m2 wv vs S1 S2 where
  block := hc.heap h.block fun hC => (hd p hC).1 h.op
  one := h.one.chg hc fun k hC hS => (hd k hC).1 (h.o1 k hS)
  two := h.two.chg hc fun k hC hS => (hd k hC).1 (h.o2 k hS)
  row := h.row.chg hc fun k hk hC => (hd k hC).1 (h.ow k hk)
  len := h.len
  chs := fun j c v hj hv => (h.chs j c v hj hv).keep (hc.keep fun k hC => (hd k hC).2)
  o1 := h.o1
  o2 := h.o2
  ow := h.ow
  op := h.op
  d1 := h.d1
  d2 := h.d2
  dw := h.dw
  di := h.di
  lt := fun k hk => Nat.lt_of_lt_of_le (h.lt k hk) hc.size
theorem DiskRaw.chg {w w' : World} {O I : Nat → Prop} {p n1 n2 : Nat} {d : Dk} {C : Nat → Prop} (h : DiskRaw w O I p n1 n2 d) (hc : Chg C w w') (hd : ∀ k, C k → ¬ O k ∧ ¬ I k) : DiskRaw w' O I p n1 n2 d := by
  obtain ⟨m1, m2, wv, vs, S1, S2, h⟩ := h
  exact ⟨m1, m2, wv, vs, S1, S2, h.chg hc hd⟩
/-- a commit under way: j changes are done -/
def Committing (w wr : World) (p n1 : Nat) (d : Dk) (m1 m2 : Nat) (wv : Value) (S1 : Nat → Prop) (j : Nat) : Prop :=
  ∃ S', ShelfOf wr S' m1 (n1 + j) (doAll (d.waits.take j) d.synced) ∧ (∀ k, S' k → S1 k ∨ w.heap.size ≤ k) ∧ Chg (fun k => S1 k ∨ k = p) w wr ∧
    wr.heap[p]? = some (.cells #[.map (some m1), .int .i64 ((doAll (d.waits.take j) d.synced).total : Nat), .int .i64 (d.cap : Nat), .int .u64 (d.serial : Nat), .bool d.down, .map (some m2), .int .i64 (d.seen.total : Nat), wv, .pointer (some ⟨p, 0, none⟩)] 47 (0, 0))
set_option maxRecDepth 100000 in
set_option maxHeartbeats 1000000 in
theorem commit_any (w : World) (O I : Nat → Prop) (p n1 n2 : Nat) (d : Dk) (m1 m2 : Nat) (wv : Value) (vs : List (Value × Value)) (S1 S2 : Nat → Prop) (h : DiskP w O I p n1 n2 d m1 m2 wv vs S1 S2) (n : Nat) (hn : n ≤ d.waits.length) (hw : d.waits.length ≤ 500000) (hn1 : n1 ≤ 500000)
    (ht : ∀ i, i ≤ n → (doAll (d.waits.take i) d.synced).total ≤ 100000) :
    Calls Try.prog 63 #[.pointer (some ⟨p, 0, none⟩), .int .i64 (n : Nat)] w fun e w' => e = .returned (.tuple #[]) ∧ Committing w w' p n1 d m1 m2 wv S1 n := by
  have hc7 : w.cell? ⟨p, 7, none⟩ = some wv := by rw [Go.Joins.cell_of_block h.block]; rfl
  have HH := Lib.hid h
  have HT := Lib.hid ht
  rcases h.row.2 with ⟨rfl, h0⟩ | ⟨g, cap, cur, rfl, hbg, hg, hnc, hcm, hcs, htake⟩
  · have hn0 : n = 0 := by have := h.len; omega
    subst hn0
    have HX : Hid (Committing w w p n1 d m1 m2 (.slice none 0 0) S1 0) := ⟨S1, h.one, fun _ h => .inl h, Chg.refl _ _, h.block⟩
    clear h ht
    go_enter Try.func63, Try.ntmps63
    go_wp2
    go_loopw [13] (fun i wr => i = .int .i64 0 ∧ wr = w) (fun _ _ => 0)
    case atStart => exact ⟨rfl, rfl⟩
    case round =>
      obtain ⟨rfl, rfl⟩ := hrel
      go_wp2
      exact bodyPost_end (results_none rfl _ _ _) rfl ⟨rfl, HX.out⟩
  · obtain ⟨K, hK⟩ : ∃ K, vs.length = K := ⟨_, rfl⟩
    have hKW := h.len
    have HL : Hid (K = d.waits.length) := hK.symm.trans hKW
    rw [hK] at hc7 hnc ⊢
    rw [← hKW, hK] at hn hw
    have HK := Lib.hid hK
    have HX : Hid (Committing w w p n1 d m1 m2 (.slice (some ⟨g, 0, none⟩) K cap) S1 0) := by
      rw [← hK]
      exact ⟨S1, h.one, fun _ h => .inl h, Chg.refl _ _, h.block⟩
    have hncap : n ≤ cap := by omega
    rw [maxLen_eq] at hcm
    clear h ht hbg hg hcs htake hK hKW
    go_enter Try.func63, Try.ntmps63
    go_wp2
    go_loopw [13] (fun i wr => ∃ j : Nat, j ≤ n ∧ i = .int .i64 (j : Nat) ∧ Hid (Committing w wr p n1 d m1 m2 (.slice (some ⟨g, 0, none⟩) K cap) S1 j)) (fun i _ => n - (intOf i).toNat)
    case atStart => exact ⟨0, Nat.zero_le _, rfl, HX.out⟩
    case round =>
      obtain ⟨j, hj, rfl, HR⟩ := hrel
      clear HX
      by_cases hlt : j < n
      · obtain ⟨S', hs', hsub, hc, hblk⟩ := HR.out
        obtain ⟨v, hv⟩ : ∃ v, vs[j]? = some v := ⟨_, List.getElem?_eq_getElem (by rw [HK.out]; omega)⟩
        obtain ⟨c, hcj⟩ : ∃ c, d.waits[j]? = some c := ⟨_, List.getElem?_eq_getElem (by have := HL.out; omega)⟩
        have hP := HH.out
        rw [HK.out] at hP
        have hrow : OwnChs wr (.slice (some ⟨g, 0, none⟩) K cap) vs := hP.row.chg hc fun k hk hC => by
          rcases hC with hC | hC
          · exact (hP.d1 k hC).2.1 hk
          · exact hP.dw (by rw [← hC]; exact hk)
        have hcell : ∀ r, r < 2 → wr.cell? ⟨g, j * 2 + r, none⟩ = (chc v)[r]? := fun r hr => by
          have hrow2 : wr.ownsRow 0 75 2 (.slice (some ⟨g, 0, none⟩) K cap) K (vs.flatMap chc) := by have := hrow; unfold OwnChs at this; rwa [HK.out] at this
          rw [World.ownsRow.cellAt hrow2 (j * 2 + r) (by omega), chc_at vs j r hr, hv]; rfl
        have e0 : wr.cell? ⟨g, j * 2, none⟩ = some v.1 := hcell 0 (by omega)
        have e1 : wr.cell? ⟨g, j * 2 + 1, none⟩ = some v.2 := hcell 1 (by omega)
        obtain ⟨f, lb, hvf, heg, hdo⟩ := (hP.chs j c v hcj hv).1
        have hA : Chg (fun _ => False) wr (wr.alloc (.cells #[v.1, v.2] 75)).drew := ((Chg.refl _ wr).alloc _).drew
        have hcA : Chg (fun k => S1 k ∨ k = p) w (wr.alloc (.cells #[v.1, v.2] 75)).drew := hc.then hA fun _ h => h.elim
        have HD : Hid (Calls Try.prog f (#[.pointer (some ⟨p, 0, none⟩)] ++ #[] ++ lb) (wr.alloc (.cells #[v.1, v.2] 75)).drew (ShPost (wr.alloc (.cells #[v.1, v.2] 75)).drew S' p 0 m1 (n1 + j + 1) (c.do (doAll (d.waits.take j) d.synced)))) := by
          refine hdo _ (hcA.keep fun k hC => ?_) p 0 m1 (n1 + j) S' _ ⟨_, 47, hA.heap hblk id, rfl, rfl⟩ (hs'.chg hA fun _ h => h.elim) (fun k hk hI => ?_) (fun hS => ?_) (by omega) (HT.out j hj)
          · rcases hC with hC | hC
            · exact hP.di k (hP.o1 k hC)
            · rw [hC]; exact hP.di p hP.op
          · rcases hk with hk | hk
            · rcases hsub k hk with h1 | h1
              · exact hP.di k (hP.o1 k h1) hI
              · have := hP.lt k (.inr hI); omega
            · rw [hk] at hI; exact hP.di p hP.op hI
          · rcases hsub p hS with h1 | h1
            · exact (hP.d1 p h1).2.2 rfl
            · have := hP.lt p (.inl hP.op); omega
        have HN : Hid (∀ w2 S2', ShelfOf w2 S2' m1 (n1 + j + 1) (c.do (doAll (d.waits.take j) d.synced)) → (∀ k, S2' k → S' k ∨ (wr.alloc (.cells #[v.1, v.2] 75)).drew.heap.size ≤ k) → Chg (fun k => S' k ∨ k = p) (wr.alloc (.cells #[v.1, v.2] 75)).drew w2 → CellSet (wr.alloc (.cells #[v.1, v.2] 75)).drew w2 p (0 + 1) (.int .i64 ((c.do (doAll (d.waits.take j) d.synced)).total : Nat)) →
            Committing w w2 p n1 d m1 m2 (.slice (some ⟨g, 0, none⟩) K cap) S1 (j + 1)) := by
          intro w2 S2' h1 h2 h3 h4
          have htk : doAll (d.waits.take (j + 1)) d.synced = c.do (doAll (d.waits.take j) d.synced) := by
            rw [List.take_add_one, hcj]; exact doAll_snoc _ _ _
          have hsz := hcA.size
          refine ⟨S2', by rw [htk]; exact h1, fun k hk => ?_, hcA.then h3 fun k hk => ?_, by rw [htk]; exact h4 _ _ (hA.heap hblk id)⟩
          · rcases h2 k hk with h | h
            · exact hsub k h
            · exact .inr (by omega)
          · rcases hk with h | h
            · rcases hsub k h with h' | h'
              · exact .inl (.inl h')
              · exact .inr h'
            · exact .inl (.inr h)
        obtain ⟨v1, v2⟩ := v
        have hv2 : v2 = .nilFunc ∨ ∃ f2 lb2, v2 = .func (.func f2) #[] lb2 := by
          rcases (hP.chs j c _ hcj hv).2 with h | h
          · exact .inl h.1
          · obtain ⟨f2, lb2, h, _⟩ := h 0; exact .inr ⟨f2, lb2, h⟩
        dsimp only at *
        subst hvf
        have d0 := HR.out
        clear hs' hsub hc hblk hv hcj hP hrow hcell hdo hA hcA d0
        unfold Enters at heg
        rcases hv2 with rfl | ⟨f2, lb2, rfl⟩
        · have q0 : (wr.alloc (.cells #[.func (.func f) #[] lb, .nilFunc] 75)).cell? ⟨wr.heap.size, 0, none⟩ = some (.func (.func f) #[] lb) := by rw [World.cell?_alloc_new]; rfl
          go_wp2_with fail
          generalize wr.alloc (.cells #[.func (.func f) #[] lb, .nilFunc] 75) = wa at q0 HD HN ⊢
          go_still_tail 6, (by kernel_rfl)
          change wpList _ _ _ _ _ wa.drew
          go_wp2_with fail
          refine HD.out.mono ?_
          rintro e w2 ⟨rfl, S2', hq1, hq2, hq3, hq4⟩
          have HE := Lib.hid (HN.out w2 S2' hq1 hq2 hq3 hq4)
          clear hq1 hq2 hq3 hq4 HN
          go_wp2
          go_roundw
          case rel => exact ⟨j + 1, by omega, by go_num, HE.out⟩
          case measure => simp [intOf]; omega
        · have q0 : (wr.alloc (.cells #[.func (.func f) #[] lb, .func (.func f2) #[] lb2] 75)).cell? ⟨wr.heap.size, 0, none⟩ = some (.func (.func f) #[] lb) := by rw [World.cell?_alloc_new]; rfl
          go_wp2_with fail
          generalize wr.alloc (.cells #[.func (.func f) #[] lb, .func (.func f2) #[] lb2] 75) = wa at q0 HD HN ⊢
          go_still_tail 6, (by kernel_rfl)
          change wpList _ _ _ _ _ wa.drew
          go_wp2_with fail
          refine HD.out.mono ?_
          rintro e w2 ⟨rfl, S2', hq1, hq2, hq3, hq4⟩
          have HE := Lib.hid (HN.out w2 S2' hq1 hq2 hq3 hq4)
          clear hq1 hq2 hq3 hq4 HN
          go_wp2
          go_roundw
          case rel => exact ⟨j + 1, by omega, by go_num, HE.out⟩
          case measure => simp [intOf]; omega
      · obtain rfl : j = n := by omega
        go_wp2
        exact bodyPost_end (results_none rfl _ _ _) rfl ⟨rfl, HR.out⟩
end Go.Proofs.Yticbfnflillokaa
