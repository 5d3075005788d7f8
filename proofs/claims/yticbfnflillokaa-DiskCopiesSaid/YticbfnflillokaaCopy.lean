/- shelf.clone. -/
import Derived.Test.YticbfnflillokaaRange
namespace Go.Proofs.Yticbfnflillokaa
open Go.RowKit Go.Maps Go.WideMaps
theorem total_sub : ∀ {F G : Fs}, F.ok → G.ok → (∀ k l, G.get k = some l → F.get k = some l) → G.total ≤ F.total
  | [], G, _, hG, h => by
    have : G = [] := Fs.ext hG Fs.ok_nil fun n => by
      cases hg : G.get n with
      | none => rfl
      | some l => have := h n l hg; simp [Fs.get] at this
    rw [this]; exact Nat.le_refl _
  | (k, b) :: r, G, hF, hG, h => by
    obtain ⟨h1, h2⟩ := List.pairwise_cons.1 hF
    have ih := total_sub (F := r) (G := G.del k) h2 (Fs.ok_del hG k) fun x l hx => by
      rw [Fs.get_del] at hx
      by_cases e : x = k
      · rw [if_pos e] at hx; cases hx
      · rw [if_neg e] at hx
        have := h x l hx
        simpa [Fs.get, e] using this
    have ht := Fs.total_del hG k
    have hs : G.size k ≤ b.length := by
      unfold Fs.size
      cases hg : G.get k with
      | none => exact Nat.zero_le _
      | some l =>
        have := h k l hg
        simp [Fs.get] at this
        rw [this]; exact Nat.le_refl _
    show G.total ≤ b.length + Fs.total r
    omega
/-- a clone under way: g holds the new shelf, r goes over the old one -/
def Cloning (w wr : World) (g r bm n : Nat) (M : Bs → Option Sl) (F : Fs) (cnt : Nat) : Prop :=
  ∃ L S b' n' G, RRange wr bm r n M L cnt ∧ ShelfOf wr S b' n' G ∧ wr.heap[g]? = some (.cells #[.map (some b'), .int .i64 (G.total : Nat)] 41 (0, 0)) ∧ (∀ k, S k → w.heap.size < k ∧ k ≠ g ∧ k ≠ r) ∧ (∀ k, G.get k = if (M k).isSome && !L k then F.get k else none) ∧ n' + cnt ≤ n ∧ Below w.heap.size w wr ∧
    (w.heap.size < g ∧ w.heap.size < r ∧ g ≠ r) ∧ wr.heap[w.heap.size]? = some (.cells #[.map none, .int .i64 0] 41 (0, 0))
set_option maxRecDepth 100000 in
set_option maxHeartbeats 1000000 in
theorem clone_sh (p o bm n : Nat) (S : Nat → Prop) (F : Fs) (w : World) (hsh : ShP w p o bm F.total) (h : ShelfOf w S bm n F) (hn : n ≤ 1000000) (ht : F.total ≤ 1000000) :
    Calls Try.prog 36 #[.pointer (some ⟨p, o, none⟩)] w fun e w' => ∃ b' S', e = .returned (.agg #[.map (some b'), .int .i64 (F.total : Nat)]) ∧ ShelfOf w' S' b' n F ∧ (∀ k, S' k → w.heap.size ≤ k) ∧ Below w.heap.size w w' := by
  obtain ⟨M, hM, hok, hbm, hS, h0, h1, h2⟩ := h
  have HM := Lib.hid hM
  have HSH := Lib.hid hsh
  have HF : Hid ((∀ k, F.get k = none → M k = none) ∧ (∀ k l, F.get k = some l → isName k = true ∧ ∃ s, M k = some s ∧ OwnBytes 0 w (slv s) l ∧ ∀ b, (slv s).ownBlock = some b → S b)) := ⟨h0, h1⟩
  clear hM hsh h0 h1 h2
  go_enter Try.func36, Try.ntmps36
  go_wp2_with fail
  refine (emptyShelf_any _).mono ?_
  rintro e w1 ⟨b1, rfl, hlt1, hge1, hmap1, hb1⟩
  have hB1 : Below w.heap.size w w1 := (Go.Joins.below_alloc1 w _).trans (hb1.mono (by rw [World.size_alloc]; omega))
  have hC1 : Chg (fun _ => False) w w1 := Chg.of_below hB1 (Nat.le_refl _)
  have hg0 : w1.heap[w.heap.size]? = some (.cells #[.map none, .int .i64 0] 41 (0, 0)) := by
    rw [hb1.block _ (by rw [World.size_alloc]; omega), heap_alloc_new]
  have c0 : ∀ o1, (w1.alloc o1).cell? ⟨p, o, none⟩ = some (.map (some bm)) := fun o1 => ((HSH.out.chg hC1 id).chg (S := fun _ => False) ((Chg.refl _ w1).alloc o1) id).c0
  rw [World.size_alloc] at hge1
  have HB1 : Hid (Below w.heap.size w w1 ∧ w1.heap[b1]? = some (.map #[] 0) ∧ RMap w1 bm n M) := ⟨hB1, hmap1, HM.out.chg hC1 id⟩
  have HG0 := Lib.hid hg0
  have hs1 := hB1.size
  have hsz0 := lt_of_block hg0
  clear hB1 hC1 hg0 hmap1 hb1
  go_wp2_with (at_range; refine wpList_range_files rfl _ rfl bm n M rfl (HB1.out.2.2.chg (S := fun _ => False) ((Chg.refl _ w1).alloc _) id) ?_; intro w2 cnt2 hcnt2 hr2 hc2 hs2)
  have hgg : (w1.alloc (.cells #[.map (some b1), .int .i64 0] 41)).heap[w1.heap.size]? = some (.cells #[.map (some b1), .int .i64 0] 41 (0, 0)) := heap_alloc_new _ _
  have hAA : Chg (fun _ => False) w1 (w1.alloc (.cells #[.map (some b1), .int .i64 0] 41)) := (Chg.refl _ w1).alloc _
  have hC2 : Chg (fun _ => False) w1 w2 := hAA.trans hc2
  have hsz2 : w2.heap.size = w1.heap.size + 2 := by rw [hs2, World.size_alloc]
  have HR0 : Hid (Cloning w w2 w1.heap.size (w1.heap.size + 1) bm n M F cnt2) := by
    refine ⟨fun k => (M k).isSome, fun k => k = b1, b1, 0, [], ?_, (ShelfOf.empty HB1.out.2.1).chg hC2 (fun _ h => h.elim), hc2.heap hgg id, fun k hk => by omega, fun k => ?_, by omega, HB1.out.1.trans (hC2.below (B := w.heap.size) hs1 fun _ h => h.elim), by omega, hC2.heap HG0.out id⟩
    · rw [World.size_alloc] at hr2; exact hr2
    · show Fs.get [] k = if (M k).isSome && !(M k).isSome then F.get k else none
      cases (M k).isSome <;> rfl
  clear hr2 hc2 hs2 hgg hAA hC2 c0
  obtain ⟨g, hg⟩ : ∃ g, w1.heap.size = g := ⟨_, rfl⟩
  have e1 : (w1.alloc (.cells #[.map (some b1), .int .i64 0] 41)).heap.size = g + 1 := by rw [World.size_alloc, hg]
  rw [hg] at HR0
  go_frame
  rw [e1, hg]
  clear hs1 hge1 hlt1 hsz0 hsz2 hcnt2 HB1 HG0 e1 hg hS hbm
  go_loopw [4] (fun _ wr => ∃ cnt, Hid (Cloning w wr g (g + 1) bm n M F cnt)) (fun _ wr => wr.rangeLeft bm (g + 1))
  case atStart => exact ⟨cnt2, HR0.out⟩
  case round =>
    obtain ⟨cnt, HR⟩ := hrel
    clear HR0
    obtain ⟨L, S', b', n', G, hr, hsf, hsp, hSb, hG, hnn, hbw, hord, hcs⟩ := HR.out
    have c0 : wr.cell? ⟨g, 0, none⟩ = some (.map (some b')) := by rw [Go.Joins.cell_of_block hsp]; rfl
    have c1 : wr.cell? ⟨g, 1, none⟩ = some (.int .i64 (G.total : Nat)) := by rw [Go.Joins.cell_of_block hsp]; rfl
    have d0 : wr.cell? ⟨w.heap.size, 0, none⟩ = some (.map none) := by rw [Go.Joins.cell_of_block hcs]; rfl
    have d1 : wr.cell? ⟨w.heap.size, 1, none⟩ = some (.int .i64 0) := by rw [Go.Joins.cell_of_block hcs]; rfl
    have fz : ∀ i, wr.frozen? ⟨w.heap.size, i, none⟩ = false := fun i => by simp [World.frozen?, hcs]
    have HALL : Hid (RRange wr bm (g + 1) n M L cnt ∧ ShelfOf wr S' b' n' G ∧ wr.heap[g]? = some (.cells #[.map (some b'), .int .i64 (G.total : Nat)] 41 (0, 0)) ∧ (∀ k, S' k → w.heap.size < k ∧ k ≠ g ∧ k ≠ g + 1) ∧ (∀ k, G.get k = if (M k).isSome && !L k then F.get k else none) ∧ n' + cnt ≤ n ∧ Below w.heap.size w wr ∧
      (w.heap.size < g ∧ w.heap.size < g + 1 ∧ g ≠ g + 1) ∧ wr.heap[w.heap.size]? = some (.cells #[.map none, .int .i64 0] 41 (0, 0))) := ⟨hr, hsf, hsp, hSb, hG, hnn, hbw, hord, hcs⟩
    clear hr hsf hsp hSb hG hnn hbw hord hcs HR
    go_wp2_with (at_next; refine wpList_next_files rfl _ rfl bm (g + 1) n cnt M L rfl HALL.out.1 ?_ ?_)
    · intro hdone
      have hd := Lib.hid hdone
      clear hdone
      go_wp2
      obtain ⟨hr, hsf, hsp, hSb, hG, hnn, hbw, hord, hcs⟩ := HALL.out
      have hGF : G = F := Fs.ext hsf.ok hok fun k => by
        rw [hG k, hd.out k]
        cases hm : M k with
        | some s => rfl
        | none =>
          cases hf : F.get k with
          | none => rfl
          | some l => obtain ⟨_, s, hs, _⟩ := HF.out.2 k l hf; rw [hm] at hs; cases hs
      subst hGF
      have hc : Chg (fun i => i = w.heap.size) wr ((wr.setCell ⟨w.heap.size, 0, none⟩ (.map (some b'))).setCell ⟨w.heap.size, 1, none⟩ (.int .i64 (G.total : Nat))) :=
        ((Chg.refl (fun i => i = w.heap.size) wr).setCell (p := ⟨w.heap.size, 0, none⟩) (.inl rfl) _).setCell (p := ⟨w.heap.size, 1, none⟩) (.inl rfl) _
      have hfin := Go.Joins.block_setCell (i := 1) (Go.Joins.block_setCell (i := 0) hcs (.map (some b'))) (.int .i64 (G.total : Nat))
      refine bodyPost_ret (results_cell_row rfl _ _ w.heap.size 41 _ (0, 0) _ rfl hfin Try.underlying41 rfl (by kernel_rfl)) rfl ?_
      exact ⟨b', S', rfl, (hsf.chg hc fun k hk hS => by have := (hSb k hS).1; omega).mono (by omega), fun k hk => by have := (hSb k hk).1; omega, hbw.trans (hc.below (B := w.heap.size) hbw.size fun k hk => by omega)⟩
    · intro k ad len cap w3 cnt3 hLk hMk hr3 hlt3 hc3 hs3 hen
      obtain ⟨hr, hsf, hsp, hSb, hG, hnn, hbw, hord, hcs⟩ := HALL.out
      obtain ⟨l, hl⟩ := get_of HF.out.1 hMk
      obtain ⟨hnk, s0, hs0, ho0, _⟩ := HF.out.2 k l hl
      rw [hMk] at hs0
      cases hs0
      have hgr : g + 1 < wr.heap.size := hr.lt
      have hbw3 : Below w.heap.size w w3 := hbw.trans (hc3.below (B := w.heap.size) hbw.size fun i hi => by omega)
      have hsf3 := hsf.chg hc3 fun i hi hS => (hSb i hS).2.2 hi
      have hsp3 := hc3.heap hsp (fun h => by omega)
      have hcs3 := hc3.heap hcs (fun h => by omega)
      have hsub : G.total ≤ F.total := total_sub hok hsf.ok fun x y hx => by
        rw [hG x] at hx
        split at hx
        · exact hx
        · cases hx
      have hll : l.length ≤ 1000000 := by
        have := Fs.size_le hok k
        unfold Fs.size at this
        rw [hl] at this
        exact Nat.le_trans this ht
      have HC : Hid (Calls Try.prog 41 #[.slice ad len cap] w3 (Gives w3 l)) := clone_any _ l w3 (ho0.at.below hbw3 (Nat.le_refl _)) (by omega)
      have HSET : Hid (∀ w4 v, OwnBytes w3.heap.size w4 v l → Below w3.heap.size w3 w4 → ∃ s : Sl, v = slv s ∧ Calls Try.prog 58 #[.pointer (some ⟨g, 0, none⟩), .string ⟨k.toArray⟩, slv s] w4 (ShPost w3 S' g 0 b' (n' + 1) (G.put k l))) := by
        intro w4 v ho hb
        obtain ⟨a, c, rfl⟩ := ho.form
        exact ⟨(a, _, c), rfl, set_sh g 0 b' n' k l (a, _, c) S' G ⟨_, 41, hsp3, rfl, rfl⟩ hsf3 (fun h => (hSb g h).2.1 rfl) (by omega) hnk (by omega) hll ho hb⟩
      have HK : Hid (∀ w5 S5, ShelfOf w5 S5 b' (n' + 1) (G.put k l) → (∀ i, S5 i → S' i ∨ w3.heap.size ≤ i) → Chg (fun i => S' i ∨ i = g) w3 w5 → CellSet w3 w5 g (0 + 1) (.int .i64 ((G.put k l).total : Nat)) → Cloning w w5 g (g + 1) bm n M F cnt3) := by
        intro w5 S5 h1 h2 h3 h4
        have hne : g + 1 ≠ bm := fun e => by
          obtain ⟨D, left, _, hrr, _⟩ := hr; exact hrr.ne e
        have hbmlt : bm < w.heap.size := HM.out.lt
        refine ⟨fun x => L x && !decide (x = k), S5, b', n' + 1, G.put k l, hr3.chg h3 (fun h => ?_) (fun h => ?_), h1, h4 _ _ hsp3, fun i hi => ?_, fun x => ?_, by omega, hbw3.trans (h3.below (B := w.heap.size) hbw3.size fun i hi => ?_), hord, h3.heap hcs3 (fun h => ?_)⟩
        · rcases h with h | h
          · have := (hSb _ h).1; omega
          · omega
        · rcases h with h | h
          · exact (hSb _ h).2.2 rfl
          · omega
        · rcases h2 i hi with h | h
          · exact hSb i h
          · omega
        · rw [Fs.get_put]
          by_cases e : x = k
          · subst e
            rw [if_pos rfl, hMk, hl]; simp
          · rw [if_neg e, hG x]; simp [e]
        · rcases hi with h | h
          · have := (hSb _ h).1; omega
          · omega
        · rcases h with h | h
          · have := (hSb _ h).1; omega
          · omega
      have hme := hr.left_eq
      clear hr hsf hsp hSb hG hnn hbw hord hcs HALL hl hnk ho0 hr3 hc3 hbw3 hsf3 hsp3 hcs3 hsub hll hMk c0 c1 d0 d1 fz
      go_wp2_with (first | (go_at_call 41; refine HC.out.mono ?_; rintro e w4 ⟨v4, rfl, ho4, hb4⟩; obtain ⟨s4, hs4, hc4⟩ := HSET.out w4 v4 ho4 hb4; subst hs4; have HX := Lib.hid hc4; clear ho4 hb4 hc4) | (go_at_call 58; refine HX.out.mono ?_; rintro e w5 ⟨rfl, S5, hq1, hq2, hq3, hq4⟩; have HD := Lib.hid (HK.out w5 S5 hq1 hq2 hq3 hq4); clear hq1 hq2 hq3 hq4))
      go_roundw
      case rel => exact ⟨cnt3, HD.out⟩
      case measure =>
        obtain ⟨_, _, _, _, _, hr5, _⟩ := HD.out
        rw [hr5.left_eq, hme]; exact hlt3
end Go.Proofs.Yticbfnflillokaa
