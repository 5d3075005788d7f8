/- A range over a function that hands out rows of its own making: what they read as is told to the loop's body. -/
import Derived.Test.YtnfjhpdpeihheaaSet
namespace Go.Proofs.Ytnfjhpdpeihheaa
open Go.RowKit Go.Maps Go.Shelf
/-- N rounds; in round k the values v are handed out, of which T k v holds in the world of that moment -/
def Told (F : Fence) (n : Nat) (P : Program) (g : Nat) (lb : Array Value) (T : Nat → Array Value → World → Prop) (N : Nat) (w : World) : Prop :=
  ∀ (l : Nat) (J Jx : Nat → World → Prop) (W : World), Below w.heap.size w W → (∀ k A B, J k A → Below A.heap.size A B → J k B) →
    (∀ k v W1, J k W1 → k < N → T k v W1 → YieldAt F (n - 1) P l v W1 fun e W' => (e = .returned (.bool true) ∧ J (k + 1) W' ∧ Below w.heap.size W1 W') ∨ (e = .returned (.bool false) ∧ Jx (k + 1) W')) →
    J 0 W → CallsIn F n P g (#[.func (.yield l) #[] #[]] ++ lb) W fun e W' => (∃ v, e = .returned v) ∧ (J N W' ∨ ∃ k, k ≤ N ∧ Jx k W')
/-- how a round may end -/
def toldPost (B : Nat) (I Ix : Nat → World → Prop) (k : Nat) (W : World) : Exit → Act → World → Prop
  | .normal, _, W' => (KeepsFrom B W W' ∧ Below B W W') ∧ I k W'
  | .ret, _, W' => KeepsFrom B W W' ∧ Ix k W'
  | _, _, _ => False
theorem keeps_of_below {B : Nat} {A C : World} (h : Below A.heap.size A C) : KeepsFrom B A C := ⟨h.size, fun k _ _ hk _ => (h.block k (Array.getElem?_eq_some_iff.1 hk).1).trans hk⟩
section
variable {F : Fence} {n : Nat} {P : Program}
theorem wpIn_rangeFunc_told {g : Operand} {ps : Array Tmp} {assign body : Code} {Q : Exit → Act → World → Prop} {a : Act} {w : World}
    (hro : F.round = none) (h1 : 1 ≤ n) {gf : Nat} {lb : Array Value} (hg : a.eval g = .func (.func gf) #[] lb) (hFg : F.fn gf) (eg : ∀ args w, (callFunc gf args).run P w = .ok (.enter gf args) w)
    {T : Nat → Array Value → World → Prop} {N : Nat} (hseq : Told F (n - 1) P gf lb T N w) (hps : ∀ k v W, T k v W → v.size = ps.size)
    (hT : ∀ k v W l o o', T k v W → w.heap.size ≤ l → W.heap[l]? = some o → o.isCells = false → T k v (W.putObj l o'))
    (I Ix : Nat → World → Prop) (hI : ∀ k A B, I k A → Below A.heap.size A B → I k B)
    (hP : ∀ k A l o o', I k A → w.heap.size ≤ l → A.heap[l]? = some o → o.isCells = false → I k (A.putObj l o'))
    (hPx : ∀ k A l o o', Ix k A → w.heap.size ≤ l → A.heap[l]? = some o → o.isCells = false → Ix k (A.putObj l o'))
    (h0 : I 0 w) (a₁ : Array Value → Act)
    (hassign : ∀ (l k : Nat) (v : Array Value) (W W' : World) (K : Act → World → Prop), T k v W' → K (a₁ v) W → assign.wpIn (F.inRound l) (n - 1 - 1) P (Exit.then K (fun _ _ _ => False)) { tmps := (ps.zip v).foldl (fun t (p, v) => t.setIfInBounds p v) a.tmps, defers := [] } W)
    (hbody : ∀ (l k : Nat) (v : Array Value) (W : World), w.heap.size ≤ l → I k W → T k v W → k < N → body.wpIn (F.inRound l) (n - 1 - 1) P (toldPost w.heap.size I Ix (k + 1) W) (a₁ v) W)
    (hdone : ∀ (D : Nat) (W : World), w.heap.size ≤ D → I N W → W.heap[D]? = some (.deferred (some [])) → Q .normal { a with defers := { target := .collected D, args := #[] } :: a.defers } W)
    (hstop : ∀ (D k : Nat) (W : World), w.heap.size ≤ D → k ≤ N → Ix k W → W.heap[D]? = some (.deferred (some [])) → Code.ret.wpIn F n P Q { a with defers := { target := .collected D, args := #[] } :: a.defers } W) :
    (Code.rangeFunc g ps assign body).wpIn F n P Q a w := by
  refine wpIn_rangeFunc ?_
  intro fn hfn
  rw [hro]
  obtain ⟨rec, hrec⟩ : ∃ rec : LoopState → Option Code → Loop, rec = fun st pe => { state := st, pending := pe, fn, tmps := a.tmps, params := ps, assign, body, defers := w.heap.size } := ⟨_, rfl⟩
  obtain ⟨W1, hW1⟩ : ∃ W1, (w.alloc (.deferred (some []))).alloc (.loop (rec .ready none)) = W1 := ⟨_, rfl⟩
  have hwW : Below w.heap.size w W1 := by rw [← hW1]; exact Go.Joins.below_alloc2 w _ _
  have rL : W1.heap[w.heap.size + 1]? = some (.loop (rec .ready none)) := by
    rw [← hW1]
    have := World.alloc_heap_new (w.alloc (.deferred (some []))) (.loop (rec .ready none))
    rwa [World.size_alloc] at this
  have rD : W1.heap[w.heap.size]? = some (.deferred (some [])) := by
    rw [← hW1]
    exact (Below.heap_alloc _ _ _ (by simp [World.size_alloc])).trans (World.alloc_heap_new w _)
  refine ⟨w.heap.size + 1, [{ target := .collected w.heap.size, args := #[] }], W1, { target := .fn (.func gf) lb, args := #[.func (.yield (w.heap.size + 1)) #[] #[]] }, W1, gf, #[.func (.yield (w.heap.size + 1)) #[] #[]] ++ lb, W1, ?_, ?_, ?_, ?_, fun _ => h1, ?_⟩
  · rw [← hW1, hrec]; exact run_enterLoop_outer _ _ _ _ _
  · simp only [resolve, hg]
    simp [go_sem]
  · intro f' hf'
    simp [Target.leads] at hf'
    subst hf'
    exact hFg
  · simp [invoke, go_sem, eg]
  · have hbel : ∀ (k : Nat) (A B : World) (o : Obj), A.heap[k]? = some o → Below A.heap.size A B → B.heap[k]? = some o := fun k A B o hk hb => (hb.block k (Array.getElem?_eq_some_iff.1 hk).1).trans hk
    refine (hseq (w.heap.size + 1)
      (fun k W => I k W ∧ W.heap[w.heap.size + 1]? = some (.loop (rec .ready none)) ∧ W.heap[w.heap.size]? = some (.deferred (some [])))
      (fun k W => Ix k W ∧ W.heap[w.heap.size + 1]? = some (.loop (rec .done (some .ret))) ∧ W.heap[w.heap.size]? = some (.deferred (some [])))
      W1 hwW (fun k A B hA hb => ⟨hI k A B hA.1 hb, hbel _ A B _ hA.2.1 hb, hbel _ A B _ hA.2.2 hb⟩) ?_ ⟨hI 0 w W1 h0 hwW, rL, rD⟩).mono ?_
    · rintro k v W ⟨hi, hl, hd⟩ hk hTk
      have hy := run_yield (P := P) (args := v) hl (by rw [hrec]; exact hps k v W hTk)
      rw [hrec] at hy
      refine ⟨fn, _, assign, body, hy, roundIn_of_wpIn hfn (hassign _ k v W W _ hTk ?_)⟩
      clear hy
      refine ⟨_, run_beginRound hl (by rw [hrec]), ?_⟩
      obtain ⟨V, hV⟩ : ∃ V, W.putObj (w.heap.size + 1) (.loop { rec .ready none with state := .busy }) = V := ⟨_, rfl⟩
      have hlt : w.heap.size + 1 < W.heap.size := (Array.getElem?_eq_some_iff.1 hl).1
      have vL : V.heap[w.heap.size + 1]? = some (.loop { rec .ready none with state := .busy }) := by rw [← hV]; exact World.putObj_heap_same hlt
      have vD : V.heap[w.heap.size]? = some (.deferred (some [])) := by rw [← hV]; exact (World.putObj_heap_other (by omega)).trans hd
      have vI : I k V := by rw [← hV]; exact hP k W _ _ _ hi (by omega) hl rfl
      have vT : T k v V := by rw [← hV]; exact hT k v W _ _ _ hTk (by omega) hl rfl
      have vB : Below w.heap.size W V := by rw [← hV]; exact belowK_b (Nat.le_refl _) W _ _ _ (by omega) hl rfl rfl
      rw [hV]
      have fin : ∀ (jump : Option Code) (Z : World), KeepsFrom w.heap.size V Z →
          (Instr.endRound (w.heap.size + 1) jump).run P Z = .ok (.bool jump.isNone) (Z.putObj (w.heap.size + 1) (.loop (rec (if jump.isNone then .ready else .done) jump))) ∧
          Z.heap[w.heap.size + 1]? = some (.loop { rec .ready none with state := .busy }) ∧
          (Z.putObj (w.heap.size + 1) (.loop (rec (if jump.isNone then .ready else .done) jump))).heap[w.heap.size + 1]? = some (.loop (rec (if jump.isNone then .ready else .done) jump)) ∧
          (Z.putObj (w.heap.size + 1) (.loop (rec (if jump.isNone then .ready else .done) jump))).heap[w.heap.size]? = some (.deferred (some [])) := fun jump Z hZ => by
        have zL := hZ.same _ _ (by omega) vL rfl
        have := run_endRound (P := P) jump zL
        rw [hrec] at this ⊢
        exact ⟨this, by rw [hrec] at zL; exact zL, World.putObj_heap_same (Array.getElem?_eq_some_iff.1 zL).1, (World.putObj_heap_other (by omega)).trans (hZ.same _ _ (Nat.le_refl _) vD rfl)⟩
      refine wpIn_mono (hbody _ k v V (by omega) vI vT hk) ?_
      rintro e a3 Z hp
      cases e with
      | normal =>
        obtain ⟨⟨hk3, hb3⟩, hi3⟩ := hp
        obtain ⟨hr, zL, zL2, zD⟩ := fin none Z hk3
        exact ⟨_, _, hr, .inl ⟨rfl, ⟨hP _ Z _ _ _ hi3 (by omega) zL rfl, zL2, zD⟩, (vB.trans hb3).trans (belowK_b (Nat.le_refl _) Z _ _ _ (by omega) zL rfl rfl)⟩⟩
      | ret =>
        obtain ⟨hk3, hi3⟩ := hp
        obtain ⟨hr, zL, zL2, zD⟩ := fin (some .ret) Z hk3
        exact ⟨_, _, hr, .inr ⟨rfl, hPx _ Z _ _ _ hi3 (by omega) zL rfl, zL2, zD⟩⟩
      | exit _ => exact hp.elim
      | goto _ => exact hp.elim
      | panic _ => exact hp.elim
      | outgrown => exact hp.elim
    · rintro e Z ⟨⟨v, rfl⟩, (⟨hi, hl, hd⟩ | ⟨k, hk, hi, hl, hd⟩)⟩
      · exact ⟨none, _, by have := run_endLoop (P := P) hl (by rw [hrec]; simp); rw [hrec] at this; exact this, hdone _ _ (Nat.le_refl _) (hP _ Z _ _ _ hi (by omega) hl rfl) ((World.putObj_heap_other (by omega)).trans hd)⟩
      · exact ⟨some .ret, _, by have := run_endLoop (P := P) hl (by rw [hrec]; simp); rw [hrec] at this; exact this, hstop _ k _ (Nat.le_refl _) hk (hPx _ Z _ _ _ hi (by omega) hl rfl) ((World.putObj_heap_other (by omega)).trans hd)⟩
end
end Go.Proofs.Ytnfjhpdpeihheaa
