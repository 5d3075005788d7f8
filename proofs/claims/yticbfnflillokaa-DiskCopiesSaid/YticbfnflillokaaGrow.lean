/- shelf.grow, and what a change's closures do to a shelf. -/
import Derived.Test.YticbfnflillokaaFiles
namespace Go.Proofs.Yticbfnflillokaa
open Go.RowKit Go.Maps Go.WideMaps
theorem OwnBytes.sl {base : Nat} {w : World} {s : Sl} {l : Bs} (h : OwnBytes base w (slv s) l) : s.2.1 = l.length := by
  obtain ⟨a, c, h⟩ := h.form
  unfold slv at h
  injection h
theorem ownBlock_slv {s : Sl} {k : Nat} (h : (slv s).ownBlock = some k) : ∃ o sp n c, s = (some ⟨k, o, sp⟩, n, c) := by
  obtain ⟨a, n, c⟩ := s
  cases a with
  | none => simp [slv, Value.ownBlock] at h
  | some a =>
    obtain ⟨b, o, sp⟩ := a
    simp [slv, Value.ownBlock] at h
    subst h
    exact ⟨o, sp, n, c, rfl⟩
theorem OwnBytes.cells {base : Nat} {w : World} {v : Value} {l : Bs} (h : OwnBytes base w v l) {k : Nat} (hk : v.ownBlock = some k) : ∃ cs t f, w.heap[k]? = some (.cells cs t f) := by
  rcases h.2 with ⟨rfl, _⟩ | ⟨g, cap, cur, rfl, _, hg, _⟩
  · simp [Value.ownBlock] at hk
  · simp [Value.ownBlock] at hk
    subst hk
    exact ⟨_, _, _, hg⟩
set_option maxRecDepth 100000 in
theorem grow_any (p o bm n T T' base : Nat) (M : Bs → Option Sl) (k : Bs) (L l : Bs) (u : Value) (w : World) (hsh : ShP w p o bm T)
    (hM : RMap w bm n M) (hn : n ≤ 1000000) (hp : p ≠ bm) (hk : keyOf Try.prog 9 (.string ⟨k.toArray⟩) = some (.string k))
    (hown : OwnBytes base w (slv ((M k).getD noSl)) L) (hpo : (slv ((M k).getD noSl)).ownBlock ≠ some p) (hu : BytesAt w u l) (hbase : base ≤ w.heap.size) (hT : T' = T + l.length) (h1 : T ≤ 1000000) (h2 : L.length ≤ T) (h3 : l.length ≤ 1000000 - T) :
    Calls Try.prog 44 #[.pointer (some ⟨p, o, none⟩), .string ⟨k.toArray⟩, u] w fun e w' => e = .returned (.tuple #[]) ∧ ∃ s', RMap w' bm (n + 1) (upd M k (some s')) ∧ OwnBytes base w' (slv s') (L ++ l) ∧ Placed w (slv ((M k).getD noSl)) (slv s') ∧
      Chg (fun i => (i = bm ∨ i = p) ∨ (slv ((M k).getD noSl)).ownBlock = some i) w w' ∧ CellSet w w' p (o + 1) (.int .i64 (T' : Nat)) := by
  have c0 := hsh.c0
  have hl := hM.look hk
  have hlen : lenOf M k = L.length := hown.sl
  obtain ⟨s, hs⟩ : ∃ s, s = (M k).getD noSl := ⟨_, rfl⟩
  rw [← hs] at hl hown hpo ⊢
  have HK := Lib.hid hk
  have HSH := Lib.hid hsh
  have HM := Lib.hid hM
  have HO := Lib.hid hown
  have HU := Lib.hid hu
  have HPO := Lib.hid hpo
  have hbm : (slv s).ownBlock ≠ some bm := fun h => by
    obtain ⟨cs, t, f, hc⟩ := hown.cells h
    exact hM.notCells hc
  have HBM := Lib.hid hbm
  have HSET : Hid (∀ w1 s1, OwnBytes base w1 (slv s1) (L ++ l) → w.grownBy w1 (slv s).ownBlock → Placed w (slv s) (slv s1) → Calls Try.prog 58 #[.pointer (some ⟨p, o, none⟩), .string ⟨k.toArray⟩, slv s1] w1 fun e w' => e = .returned (.tuple #[]) ∧ ∃ s', RMap w' bm (n + 1) (upd M k (some s')) ∧ OwnBytes base w' (slv s') (L ++ l) ∧ Placed w (slv s) (slv s') ∧
      Chg (fun i => (i = bm ∨ i = p) ∨ (slv s).ownBlock = some i) w w' ∧ CellSet w w' p (o + 1) (.int .i64 (T' : Nat))) := by
    intro w1 s1 ho hg hpl
    have hc1 : Chg (fun i => (slv s).ownBlock = some i) w w1 := (Chg.refl _ _).grown hg fun i hi => .inl hi
    have hl1 : s1.2.1 = (L ++ l).length := ho.sl
    rw [List.length_append] at hl1
    have hlt := HM.out.lt
    have hltp := HSH.out.lt
    refine (set_any p o bm n T T' M k s1 w1 (HSH.out.chg hc1 HPO.out) (HM.out.chg hc1 HBM.out) hn hp HK.out (by omega) h1 (by omega) (by omega)).mono ?_
    rintro e w' ⟨rfl, hm', hc', hs'⟩
    refine ⟨rfl, s1, hm', ho.chg hc' fun i hi => ?_, hpl, ?_, CellSet.chg hc1 HPO.out hs'⟩
    · rintro (rfl | rfl)
      · rcases hpl with h | h
        · exact HBM.out (h.symm.trans hi)
        · have := h _ hi; omega
      · rcases hpl with h | h
        · exact HPO.out (h.symm.trans hi)
        · have := h _ hi; omega
    · exact (hc1.mono (S' := fun i => (i = bm ∨ i = p) ∨ (slv s).ownBlock = some i) fun i hi => .inl (.inr hi)).then hc' fun i hi => .inl (.inl hi)
  obtain ⟨a, Ls, c⟩ := s
  have HF : Hid (∀ v' : Value, (∃ w1, OwnBytes base w1 v' (L ++ l)) → ∃ s1 : Sl, v' = slv s1) := fun v' ⟨w1, h⟩ => by
    obtain ⟨a, c, rfl⟩ := h.form
    exact ⟨(a, _, c), rfl⟩
  unfold slv at hl
  dsimp only at hl
  have hsm : L.length + l.length ≤ 175921860444160 := by omega
  clear hsh hM hown hpo hu hs hlen hbm hk
  go_enter Try.func44, Try.ntmps44
  go_wp2_with (at_builtin; refine wpList_append_place rfl _ _ rfl base (slv (a, Ls, c)) u L l rfl rfl HO.out HU.out hsm hbase ?_; intro v2 w2 hown2 hgrow2 hpl2; obtain ⟨s2, hs2⟩ := HF.out v2 ⟨w2, hown2⟩; subst hs2; have HC2 := Lib.hid (HSET.out w2 s2 hown2 hgrow2 hpl2); clear hown2 hgrow2 hpl2)
  refine HC2.out.mono ?_
  rintro e w3 ⟨rfl, hpost⟩
  have HR := Lib.hid hpost
  clear hpost
  go_wp2
  exact bodyPost_end (results_none rfl _ _ _) rfl ⟨rfl, HR.out⟩
/-- the files of a shelf: its map is block bm; the blocks S are its own -/
def ShelfOf (w : World) (S : Nat → Prop) (bm n : Nat) (F : Fs) : Prop :=
  ∃ M, RMap w bm n M ∧ F.ok ∧ S bm ∧ (∀ k, S k → k < w.heap.size) ∧ (∀ k, F.get k = none → M k = none) ∧ (∀ k l, F.get k = some l → isName k = true ∧ ∃ s, M k = some s ∧ OwnBytes 0 w (slv s) l ∧ ∀ b, (slv s).ownBlock = some b → S b) ∧
    ∀ k k' s s', k ≠ k' → M k = some s → M k' = some s' → ∀ b, (slv s).ownBlock = some b → (slv s').ownBlock ≠ some b
theorem ShelfOf.lt {w : World} {S : Nat → Prop} {bm n : Nat} {F : Fs} (h : ShelfOf w S bm n F) : ∀ k, S k → k < w.heap.size := by obtain ⟨M, _, _, _, h, _⟩ := h; exact h
theorem ShelfOf.ok {w : World} {S : Nat → Prop} {bm n : Nat} {F : Fs} (h : ShelfOf w S bm n F) : F.ok := by obtain ⟨M, _, h, _⟩ := h; exact h
theorem ShelfOf.own {w : World} {S : Nat → Prop} {bm n : Nat} {F : Fs} (h : ShelfOf w S bm n F) : S bm := by obtain ⟨M, _, _, h, _⟩ := h; exact h
theorem ShelfOf.chg {w w' : World} {S C : Nat → Prop} {bm n : Nat} {F : Fs} (h : ShelfOf w S bm n F) (hc : Chg C w w') (hd : ∀ k, C k → ¬ S k) : ShelfOf w' S bm n F := by
  obtain ⟨M, hM, hok, hb, hS, h0, h1, h2⟩ := h
  refine ⟨M, hM.chg hc (fun h => hd _ h hb), hok, hb, fun k hk => Nat.lt_of_lt_of_le (hS k hk) hc.size, h0, fun k l hl => ?_, h2⟩
  obtain ⟨hn, s, hs, ho, hb⟩ := h1 k l hl
  exact ⟨hn, s, hs, ho.chg hc (fun i hi hC => hd i hC (hb i hi)), hb⟩
theorem ShelfOf.mono {w : World} {S : Nat → Prop} {bm n n' : Nat} {F : Fs} (h : ShelfOf w S bm n F) (hn : n ≤ n') : ShelfOf w S bm n' F := by
  obtain ⟨M, hM, r⟩ := h; exact ⟨M, hM.mono hn, r⟩
theorem ShelfOf.empty {w : World} {bm : Nat} (h : w.heap[bm]? = some (.map #[] 0)) : ShelfOf w (fun k => k = bm) bm 0 [] := by
  have hlt := lt_of_block h
  refine ⟨fun _ => none, ⟨.map [], ⟨#[], 0, h, ⟨by simp, MapKept.stamped_empty 0, by simp⟩, Nat.le_refl _, rfl⟩, fun k => ⟨fun _ => rfl, fun s h => by cases h⟩⟩, Fs.ok_nil, rfl, fun k hk => by rw [hk]; exact hlt, fun _ _ => rfl, fun k l h => by simp [Fs.get] at h, fun _ _ _ _ _ h => by cases h⟩
/-- what a change of a shelf leaves -/
def ShPost (w : World) (S : Nat → Prop) (p o bm n : Nat) (F : Fs) (e : Ending) (w' : World) : Prop :=
  e = .returned (.tuple #[]) ∧ ∃ S', ShelfOf w' S' bm n F ∧ (∀ k, S' k → S k ∨ w.heap.size ≤ k) ∧ Chg (fun i => S i ∨ i = p) w w' ∧ CellSet w w' p (o + 1) (.int .i64 (F.total : Nat))
theorem lenOf_eq {w : World} {F : Fs} {M : Bs → Option Sl} {S : Nat → Prop} (h0 : ∀ k, F.get k = none → M k = none) (h1 : ∀ k l, F.get k = some l → isName k = true ∧ ∃ s, M k = some s ∧ OwnBytes 0 w (slv s) l ∧ ∀ b, (slv s).ownBlock = some b → S b) (k : Bs) : lenOf M k = F.size k := by
  unfold lenOf Fs.size
  cases h : F.get k with
  | none => rw [h0 k h]; rfl
  | some l =>
    obtain ⟨_, s, hs, ho, _⟩ := h1 k l h
    rw [hs]
    exact ho.sl
theorem own_of {w : World} {F : Fs} {M : Bs → Option Sl} {S : Nat → Prop} (h0 : ∀ k, F.get k = none → M k = none) (h1 : ∀ k l, F.get k = some l → isName k = true ∧ ∃ s, M k = some s ∧ OwnBytes 0 w (slv s) l ∧ ∀ b, (slv s).ownBlock = some b → S b) (k : Bs) : OwnBytes 0 w (slv ((M k).getD noSl)) ((F.get k).getD []) ∧ ∀ b, (slv ((M k).getD noSl)).ownBlock = some b → S b ∧ ∃ s, M k = some s ∧ (M k).getD noSl = s := by
  cases h : F.get k with
  | none => rw [h0 k h]; exact ⟨OwnBytes.nil _ _, fun b hb => by simp [slv, Value.ownBlock] at hb⟩
  | some l =>
    obtain ⟨_, s, hs, ho, hb⟩ := h1 k l h
    rw [hs]
    exact ⟨ho, fun b h => ⟨hb b h, s, rfl, rfl⟩⟩
theorem get_of {F : Fs} {M : Bs → Option Sl} (h0 : ∀ k, F.get k = none → M k = none) {k : Bs} {s : Sl} (h : M k = some s) : ∃ l, F.get k = some l := by
  cases hF : F.get k with
  | none => rw [h0 k hF] at h; cases h
  | some l => exact ⟨l, rfl⟩
/-- a shelf behind a store of a file -/
theorem ShelfOf.stored0 {w w' : World} {S C : Nat → Prop} {bm n' : Nat} {F : Fs} {M : Bs → Option Sl} {k l : Bs} {s' : Sl} (hM0 : ∀ cs t f, w.heap[bm]? ≠ some (.cells cs t f)) (hn : isName k = true) (hok : F.ok) (hb : S bm) (hS : ∀ k, S k → k < w.heap.size)
    (h0 : ∀ k, F.get k = none → M k = none) (h1 : ∀ k l, F.get k = some l → isName k = true ∧ ∃ s, M k = some s ∧ OwnBytes 0 w (slv s) l ∧ ∀ b, (slv s).ownBlock = some b → S b)
    (h2 : ∀ k k' s s', k ≠ k' → M k = some s → M k' = some s' → ∀ b, (slv s).ownBlock = some b → (slv s').ownBlock ≠ some b)
    (hM : RMap w' bm n' (upd M k (some s'))) (ho : OwnBytes 0 w' (slv s') l) (hsb : ∀ b, (slv s').ownBlock = some b → S b ∨ w.heap.size ≤ b) (hfar : ∀ k' s, k' ≠ k → M k' = some s → ∀ b, (slv s).ownBlock = some b → (slv s').ownBlock ≠ some b)
    (hc : Chg C w w') (hC : ∀ i, C i → S i → i = bm ∨ ∃ s, M k = some s ∧ (slv s).ownBlock = some i) : ∃ S', ShelfOf w' S' bm n' (F.put k l) ∧ (∀ k, S' k → S k ∨ w.heap.size ≤ k) := by
  have hin : ∀ k' s, M k' = some s → ∀ b, (slv s).ownBlock = some b → S b ∧ b ≠ bm := fun k' s hs b hbb => by
    obtain ⟨l, hl⟩ := get_of h0 hs
    obtain ⟨_, s2, hs2, ho2, hb2⟩ := h1 k' l hl
    rw [hs] at hs2; cases hs2
    refine ⟨hb2 b hbb, fun e => ?_⟩
    subst e
    obtain ⟨cs, t, f, hcc⟩ := ho2.cells hbb
    exact hM0 _ _ _ hcc
  refine ⟨fun i => S i ∨ (slv s').ownBlock = some i, ⟨_, hM, Fs.ok_put hok _ _, .inl hb, fun i hi => ?_, fun k' hk' => ?_, fun k' l' hl' => ?_, fun a b sa sb hab ha hb i hi => ?_⟩, fun i hi => ?_⟩
  · rcases hi with hi | hi
    · exact Nat.lt_of_lt_of_le (hS i hi) hc.size
    · exact (ho.lt i hi).2
  · rw [Fs.get_put] at hk'
    by_cases e : k' = k
    · rw [if_pos e] at hk'; cases hk'
    · rw [if_neg e] at hk'
      rw [upd_other e]; exact h0 k' hk'
  · rw [Fs.get_put] at hl'
    by_cases e : k' = k
    · rw [if_pos e] at hl'; cases hl'
      subst e
      exact ⟨hn, s', if_pos rfl, ho, fun b hb => .inr hb⟩
    · rw [if_neg e] at hl'
      obtain ⟨hn', s, hs, ho2, hb2⟩ := h1 k' l' hl'
      refine ⟨hn', s, by rw [upd_other e]; exact hs, ho2.chg hc fun i hi hCi => ?_, fun b hb => .inl (hb2 b hb)⟩
      rcases hC i hCi (hb2 i hi) with he | ⟨s3, hs3, hb3⟩
      · exact (hin k' s hs i hi).2 he
      · exact h2 k' k s s3 e hs hs3 i hi hb3
  · by_cases ea : a = k
    · subst ea
      have : b ≠ a := fun e => hab e.symm
      rw [upd_other this] at hb
      have ha : some s' = some sa := by rw [← ha]; exact (if_pos rfl).symm
      cases ha
      exact fun h => hfar b sb this hb i h hi
    · rw [upd_other ea] at ha
      by_cases eb : b = k
      · subst eb
        have hb : some s' = some sb := by rw [← hb]; exact (if_pos rfl).symm
        cases hb
        exact hfar a sa ea ha i hi
      · rw [upd_other eb] at hb
        exact h2 a b sa sb hab ha hb i hi
  · rcases hi with hi | hi
    · exact .inl hi
    · exact hsb i hi
/-- .. the new slice lies where the old one lay, or in a new block -/
theorem ShelfOf.stored {w w' : World} {S C : Nat → Prop} {bm n n' : Nat} {F : Fs} {M : Bs → Option Sl} {k l : Bs} {s' : Sl} (hM0 : RMap w bm n M) (hn : isName k = true) (hok : F.ok) (hb : S bm) (hS : ∀ k, S k → k < w.heap.size)
    (h0 : ∀ k, F.get k = none → M k = none) (h1 : ∀ k l, F.get k = some l → isName k = true ∧ ∃ s, M k = some s ∧ OwnBytes 0 w (slv s) l ∧ ∀ b, (slv s).ownBlock = some b → S b)
    (h2 : ∀ k k' s s', k ≠ k' → M k = some s → M k' = some s' → ∀ b, (slv s).ownBlock = some b → (slv s').ownBlock ≠ some b)
    (hM : RMap w' bm n' (upd M k (some s'))) (ho : OwnBytes 0 w' (slv s') l) (hp : (∃ s, M k = some s ∧ (slv s').ownBlock = (slv s).ownBlock) ∨ ∀ b, (slv s').ownBlock = some b → w.heap.size ≤ b)
    (hc : Chg C w w') (hC : ∀ i, C i → S i → i = bm ∨ ∃ s, M k = some s ∧ (slv s).ownBlock = some i) : ∃ S', ShelfOf w' S' bm n' (F.put k l) ∧ (∀ k, S' k → S k ∨ w.heap.size ≤ k) := by
  have hin : ∀ k' s, M k' = some s → ∀ b, (slv s).ownBlock = some b → S b := fun k' s hs b hbb => by
    obtain ⟨l, hl⟩ := get_of h0 hs
    obtain ⟨_, s2, hs2, ho2, hb2⟩ := h1 k' l hl
    rw [hs] at hs2; cases hs2
    exact hb2 b hbb
  refine ShelfOf.stored0 (fun cs t f h => hM0.notCells h) hn hok hb hS h0 h1 h2 hM ho (fun b hb => ?_) (fun k' s hne hs b hb he => ?_) hc hC
  · rcases hp with ⟨s, hs, he⟩ | hp
    · exact .inl (hin k s hs b (he.symm.trans hb))
    · exact .inr (hp b hb)
  · rcases hp with ⟨s2, hs2, he2⟩ | hp
    · exact h2 k' k s s2 hne hs hs2 b hb (he2.symm.trans he)
    · have := hp b he
      have := hS b (hin k' s hs b hb)
      omega
theorem upd_none {M : Bs → Option Sl} {k x : Bs} {s : Sl} (h : upd M k none x = some s) : x ≠ k ∧ M x = some s := by
  by_cases e : x = k
  · rw [show upd M k none x = none from if_pos e] at h; cases h
  · rw [upd_other e] at h; exact ⟨e, h⟩
theorem Fs.put_del {F : Fs} (hF : F.ok) {k m b : Bs} (h : k ≠ m) : (F.put m b).del k = (F.del k).put m b :=
  Fs.ext (Fs.ok_del (Fs.ok_put hF _ _) _) (Fs.ok_put (Fs.ok_del hF _) _ _) fun x => by
    rw [Fs.get_del, Fs.get_put, Fs.get_put, Fs.get_del]
    by_cases e : x = k
    · rw [if_pos e, if_neg (fun h' => h (e.symm.trans h')), if_pos e]
    · rw [if_neg e, if_neg e]
/-- .. behind a file that got another name -/
theorem ShelfOf.moved {w w' : World} {S C : Nat → Prop} {bm n n' : Nat} {F : Fs} {M : Bs → Option Sl} {k m : Bs} (hne : k ≠ m) (hM0 : RMap w bm n M) (hn : isName m = true) (hok : F.ok) (hb : S bm) (hS : ∀ k, S k → k < w.heap.size)
    (h0 : ∀ k, F.get k = none → M k = none) (h1 : ∀ k l, F.get k = some l → isName k = true ∧ ∃ s, M k = some s ∧ OwnBytes 0 w (slv s) l ∧ ∀ b, (slv s).ownBlock = some b → S b)
    (h2 : ∀ k k' s s', k ≠ k' → M k = some s → M k' = some s' → ∀ b, (slv s).ownBlock = some b → (slv s').ownBlock ≠ some b)
    (hM : RMap w' bm n' (upd (upd M m (some ((M k).getD noSl))) k none))
    (hc : Chg C w w') (hC : ∀ i, C i → S i → i = bm) : ∃ S', ShelfOf w' S' bm n' ((F.put m ((F.get k).getD [])).del k) ∧ (∀ k, S' k → S k ∨ w.heap.size ≤ k) := by
  have e : upd (upd M m (some ((M k).getD noSl))) k none = upd (upd M k none) m (some ((M k).getD noSl)) := by
    funext x
    unfold upd
    by_cases e : x = k
    · rw [if_pos e, if_neg (fun h' => hne (e.symm.trans h')), if_pos e]
    · rw [if_neg e, if_neg e]
  rw [e] at hM
  rw [Fs.put_del hok hne]
  have hown := own_of h0 h1 k
  have hnb : ∀ b, (slv ((M k).getD noSl)).ownBlock = some b → b ≠ bm := fun b hbb e => by
    subst e
    obtain ⟨cs, t, f, hcc⟩ := hown.1.cells hbb
    exact hM0.notCells hcc
  refine ShelfOf.stored0 (C := C) (fun cs t f h => hM0.notCells h) hn (Fs.ok_del hok k) hb hS (fun x hx => ?_) (fun x l hx => ?_) (fun a b sa sb hab ha hb => h2 a b sa sb hab (upd_none ha).2 (upd_none hb).2) hM (hown.1.chg hc fun i hi hCi => hnb i hi (hC i hCi (hown.2 i hi).1)) (fun b hb => .inl (hown.2 b hb).1) (fun x s hx hs b hb he => ?_) hc (fun i hi hs => .inl (hC i hi hs))
  · rw [Fs.get_del] at hx
    by_cases e : x = k
    · exact if_pos e
    · rw [if_neg e] at hx; rw [upd_other e]; exact h0 x hx
  · rw [Fs.get_del] at hx
    by_cases e : x = k
    · rw [if_pos e] at hx; cases hx
    · rw [if_neg e] at hx; rw [upd_other e]; exact h1 x l hx
  · obtain ⟨_, s2, hs2, he2⟩ := hown.2 b he
    rw [he2] at he
    exact h2 x k s s2 (upd_none hs).1 (upd_none hs).2 hs2 b hb he
/-- .. behind a file that goes -/
theorem ShelfOf.struck {w w' : World} {S C : Nat → Prop} {bm n : Nat} {F : Fs} {M : Bs → Option Sl} {k : Bs} (hM0 : RMap w bm n M) (hok : F.ok) (hb : S bm) (hS : ∀ k, S k → k < w.heap.size)
    (h0 : ∀ k, F.get k = none → M k = none) (h1 : ∀ k l, F.get k = some l → isName k = true ∧ ∃ s, M k = some s ∧ OwnBytes 0 w (slv s) l ∧ ∀ b, (slv s).ownBlock = some b → S b)
    (h2 : ∀ k k' s s', k ≠ k' → M k = some s → M k' = some s' → ∀ b, (slv s).ownBlock = some b → (slv s').ownBlock ≠ some b)
    (hM : RMap w' bm n (upd M k none)) (hc : Chg C w w') (hC : ∀ i, C i → S i → i = bm) : ShelfOf w' S bm n (F.del k) := by
  refine ⟨_, hM, Fs.ok_del hok _, hb, fun i hi => Nat.lt_of_lt_of_le (hS i hi) hc.size, fun k' hk' => ?_, fun k' l' hl' => ?_, fun a b sa sb hab ha hb => ?_⟩
  · rw [Fs.get_del] at hk'
    by_cases e : k' = k
    · exact if_pos e
    · rw [if_neg e] at hk'
      rw [upd_other e]; exact h0 k' hk'
  · rw [Fs.get_del] at hl'
    by_cases e : k' = k
    · rw [if_pos e] at hl'; cases hl'
    · rw [if_neg e] at hl'
      obtain ⟨hn', s, hs, ho2, hb2⟩ := h1 k' l' hl'
      refine ⟨hn', s, by rw [upd_other e]; exact hs, ho2.chg hc fun i hi hCi => ?_, hb2⟩
      have := hC i hCi (hb2 i hi)
      subst this
      obtain ⟨cs, t, f, hcc⟩ := ho2.cells hi
      exact hM0.notCells hcc
  · have h3 : ∀ x s, upd M k none x = some s → x ≠ k ∧ M x = some s := fun x s h => by
      by_cases e : x = k
      · rw [show upd M k none x = none from if_pos e] at h; cases h
      · rw [upd_other e] at h; exact ⟨e, h⟩
    exact h2 a b sa sb hab (h3 a sa ha).2 (h3 b sb hb).2
end Go.Proofs.Yticbfnflillokaa
