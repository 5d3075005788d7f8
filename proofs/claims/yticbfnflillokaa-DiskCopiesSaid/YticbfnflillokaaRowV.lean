/- A net, its copy, the document's net, and its copy as a value: what the one pair does, the other one keeps. -/
import Derived.Test.YticbfnflillokaaRowT
namespace Go.Proofs.Yticbfnflillokaa
open Go.RowKit
theorem chg_of_keep {B : Nat} {w W W' : World} {J : Bks} (h : Below B w W) (h' : Below B w W') (hk : Keep J W W') : Chg (fun k => ¬ J k) W W' :=
  ⟨h'.os.trans h.os.symm, h'.tape.trans h.tape.symm, h'.output.trans h.output.symm, hk.1, fun k hk1 hn => hk.2 k (Classical.byContradiction hn) hk1⟩
theorem DiskAt.keep {B : Nat} {w W W' : World} {O I J : Bks} {p N : Nat} {d : Dk} (h : DiskAt W O I p N d) (hb : Below B w W) (hb' : Below B w W') (hk : Keep J W W') (hJ : ∀ k, O k ∨ I k → J k) : DiskAt W' O I p N d :=
  h.chg (chg_of_keep hb hb' hk) fun k hn => ⟨fun ho => hn (hJ k (.inl ho)), fun hi => hn (hJ k (.inr hi))⟩
/-- behind Copy -/
def Tri (w W : World) (p q p' N M : Nat) (d : Dk) : Prop := ∃ O I R O' : Bks, DiskAt W O I p N d ∧ DiskAt W O' I p' N d ∧ RefAt W R q M d ∧
  (∀ k, O k → w.heap.size ≤ k ∧ ¬ R k ∧ k ≠ q) ∧ (∀ k, O' k → w.heap.size ≤ k ∧ ¬ O k ∧ ¬ R k ∧ k ≠ q) ∧ (∀ k, I k → w.heap.size ≤ k ∧ k ≠ q) ∧ (∀ k, R k → w.heap.size ≤ k) ∧ w.heap.size ≤ q ∧ Below w.heap.size w W
theorem Duo.tri {w wi : World} {p q N M : Nat} {d : Dk} (h : Duo ⟨w, w, fun _ => False⟩ (fun k => k < w.heap.size) wi p q N M d d) (hN : N ≤ 400000) :
    Calls Try.prog 13 #[.pointer (some ⟨p, 0, none⟩)] wi fun e w' => ∃ p', e = .returned (.pointer (some ⟨p', 0, none⟩)) ∧ Tri w w' p q p' N M d := by
  obtain ⟨R, ⟨O, I, h1, hO, hI, hJ, hb0⟩, h2, h3, h4, h5, h6, h7⟩ := h
  dsimp only at hO hI hJ hb0 h3 h4
  refine (copy_any h1 hN).mono ?_
  rintro e w' ⟨p', rfl, O', h', hO', hb⟩
  have hlt := h1.lt
  have hRl := h2.lt
  have hql := h2.q_lt
  have hs := hb0.size
  have hS : ∀ k, I k → ¬ (k < w.heap.size ∨ R k ∨ k = q) := fun k hk => (hI k hk).elim id False.elim
  refine ⟨p', rfl, O, I, R, O', h1.below hb (Nat.le_refl _), h', h2.below hb, fun k hk => ?_, fun k hk => ?_, fun k hk => ?_, fun k hk => ?_, h4.2.2, hb0.trans (hb.mono hs)⟩
  · have := hO k hk
    exact ⟨this.2, fun hR => this.1 (.inr (.inl hR)), fun e => this.1 (.inr (.inr e))⟩
  · have hx := hO' k hk
    exact ⟨by omega, fun h => by have := hlt k (.inl h); omega, fun h => by have := hRl k h; omega, fun e => by omega⟩
  · have hx := hS k hk
    exact ⟨Nat.le_of_not_lt fun h => hx (.inl h), fun e => hx (.inr (.inr e))⟩
  · have := h3 k hk
    exact Nat.le_of_not_lt fun h => this.elim (fun h2 => h2 h) False.elim
/-- the two pairs: (p, q) is d2, (p', q') is d; what (p', q') has is not touched -/
def Quad (w W : World) (S K : Bks) (q p' q' N M : Nat) (d : Dk) : Prop := ∃ (I R O' : Bks), Below w.heap.size w W ∧ DiskAt W O' I p' N d ∧ RefAt W R q' M d ∧ (S = fun k => I k ∨ R k) ∧ (K = fun k => k < w.heap.size ∨ O' k ∨ k = q' ∨ S k) ∧
  (∀ k, O' k → w.heap.size ≤ k ∧ k ≠ q ∧ ¬ S k ∧ k ≠ q') ∧ w.heap.size ≤ q' ∧ q ≠ q' ∧ ¬ S q' ∧ ∀ k, S k → k < W.heap.size
theorem Tri.quad {w W : World} {p q p' N M : Nat} {d : Dk} (h : Tri w W p q p' N M d) : ∃ a L c b K e, W.cell? ⟨q, 0, none⟩ = some (.slice a L c) ∧ W.cell? ⟨q, 1, none⟩ = some (.slice b K e) ∧ W.cell? ⟨q, 2, none⟩ = some (.int .i64 (d.cap : Nat)) ∧ W.cell? ⟨q, 3, none⟩ = some (.int .u64 (d.serial : Nat)) ∧ W.cell? ⟨q, 4, none⟩ = some (.bool d.down) ∧
    ∀ W2, W2 = W.alloc (.cells #[.slice a L c, .slice b K e, .int .i64 (d.cap : Nat), .int .u64 (d.serial : Nat), .bool d.down] 68) → ∃ S K : Bks, Duo ⟨w, W2, S⟩ K W2 p q N M d d ∧ Quad w W2 S K q p' W.heap.size N M d ∧ ∀ k, k < w.heap.size → K k := by
  obtain ⟨O, I, R, O', h1, h2, h3, g1, g2, g3, g4, g5, g6⟩ := h
  have hr := h3
  obtain ⟨ho, hle, hse, a, b, c, e, vs, cs, hR⟩ := hr
  refine ⟨a, vs.length, c, b, cs.length, e, hR.c0, hR.c1, hR.c2, hR.c3, hR.c4, ?_⟩
  rintro W2 hW2
  have hb : Below W.heap.size W W2 := by rw [hW2]; exact Go.Joins.below_alloc1 W _
  have hs2 : W2.heap.size = W.heap.size + 1 := by rw [hW2, World.size_alloc]
  have hl1 := h1.lt
  have hl2 := h2.lt
  have hRl := h3.lt
  have hql := h3.q_lt
  have hsz := g6.size
  have d1 := h1.di
  have d2 := h2.di
  have h3' : RefAt W2 R W.heap.size M d := ⟨ho, hle, hse, a, b, c, e, vs, cs, { (hR.below hb) with
    block := by rw [hW2]; exact heap_alloc_new W _
    qR := fun h => by have := hRl _ h; omega }⟩
  refine ⟨fun k => I k ∨ R k, fun k => k < w.heap.size ∨ O' k ∨ k = W.heap.size ∨ (I k ∨ R k), ⟨R, ⟨O, I, h1.below hb (Nat.le_refl _), fun k hk => ⟨fun h => ?_, (g1 k hk).1⟩, fun k hk => .inr (.inl hk), fun k hk => ?_, g6.trans (hb.mono hsz)⟩, h3.below hb, fun k hk => .inr (.inr hk), ⟨fun h => ?_, fun h => ?_, g5⟩, fun k hk => ?_, ?_, Nat.le_refl _⟩, ⟨I, R, O', g6.trans (hb.mono hsz), h2.below hb (Nat.le_refl _), h3', rfl, rfl, fun k hk => ⟨(g2 k hk).1, (g2 k hk).2.2.2, fun h => ?_, ?_⟩, hsz, by omega, fun h => ?_, fun k hk => ?_⟩, fun k hk => .inl hk⟩
  · obtain ⟨x1, x2, x3⟩ := g1 k hk
    rcases h with (h | h | h | h | h) | h | h
    · omega
    · exact (g2 k h).2.1 hk
    · have := hl1 k (.inl hk); omega
    · exact d1 k hk h
    · exact x2 h
    · exact x2 h
    · exact x3 h
  · rcases hk with (h | h | h | h | h) | h | h
    · show k < W2.heap.size; omega
    · have := hl2 k (.inl h); show k < W2.heap.size; omega
    · show k < W2.heap.size; omega
    · have := hl1 k (.inr h); show k < W2.heap.size; omega
    · have := hRl k h; show k < W2.heap.size; omega
    · have := hRl k h; show k < W2.heap.size; omega
    · show k < W2.heap.size; omega
  · rcases h with h | h | h | h | h
    · omega
    · exact (g2 q h).2.2.2 rfl
    · omega
    · exact (g3 q h).2 rfl
    · exact hR.qR h
  · rcases h with h | h
    · exact (g3 q h).2 rfl
    · exact hR.qR h
  · show k < W2.heap.size
    rcases hk with h | h
    · have := hl1 k (.inr h); omega
    · have := hRl k h; omega
  · show w.heap.size ≤ W2.heap.size; omega
  · rcases h with h | h
    · exact d2 k hk h
    · exact (g2 k hk).2.2.1 h
  · have := hl2 k (.inl hk); omega
  · rcases h with h | h
    · have := hl1 _ (.inr h); omega
    · have := hRl _ h; omega
  · rcases hk with h | h
    · have := hl1 k (.inr h); omega
    · have := hRl k h; omega
/-- behind what the one pair did -/
theorem Quad.keep {w W W' : World} {S K : Bks} {q p' q' N M : Nat} {d : Dk} (h : Quad w W S K q p' q' N M d) (hb' : Below w.heap.size w W') (hk : Keep K W W') : Quad w W' S K q p' q' N M d := by
  obtain ⟨I, R, O', hb, h1, h2, hS, hK, g1, g2, g3, g4, g5⟩ := h
  refine ⟨I, R, O', hb', h1.keep hb hb' hk fun k hk => ?_, h2.keep hk fun k hk => ?_, hS, hK, g1, g2, g3, g4, fun k h => Nat.lt_of_lt_of_le (g5 k h) hk.1⟩
  · rw [hK, hS]; exact hk.elim (fun h => .inr (.inl h)) fun h => .inr (.inr (.inr (.inl h)))
  · rw [hK, hS]; exact hk.elim (fun h => .inr (.inr (.inr (.inr h)))) fun h => .inr (.inr (.inl h))
theorem Quad.pal {w W : World} {S K : Bks} {q p' q' N M : Nat} {d : Dk} (h : Quad w W S K q p' q' N M d) : Pal W p' q' N M d := by
  obtain ⟨I, R, O', _, h1, h2, _⟩ := h
  exact ⟨⟨O', I, h1⟩, R, h2⟩
/-- the other way round -/
def Rest (w W : World) (K : Bks) (p q N M : Nat) (d : Dk) : Prop := ∃ O I R : Bks, Below w.heap.size w W ∧ DiskAt W O I p N d ∧ RefAt W R q M d ∧ ∀ k, O k ∨ I k ∨ R k ∨ k = q → K k
theorem Rest.keep {w W W' : World} {K : Bks} {p q N M : Nat} {d : Dk} (h : Rest w W K p q N M d) (hb' : Below w.heap.size w W') (hk : Keep K W W') : Rest w W' K p q N M d := by
  obtain ⟨O, I, R, hb, h1, h2, h3⟩ := h
  exact ⟨O, I, R, hb', h1.keep hb hb' hk fun k hk => h3 k (hk.imp id .inl), h2.keep hk fun k hk => h3 k (.inr (.inr hk)), h3⟩
theorem Quad.turn {w Wb W : World} {S K : Bks} {p q p' q' N M N2 M2 : Nat} {d d2 : Dk} (h : Quad w W S K q p' q' N M d) (hd : Duo ⟨w, Wb, S⟩ K W p q N2 M2 d2 d2) :
    ∃ K2 : Bks, Duo ⟨w, W, S⟩ K2 W p' q' N M d d ∧ Rest w W K2 p q N2 M2 d2 ∧ ∀ k, k < w.heap.size → K2 k := by
  obtain ⟨I, R, O', hbW, h1, h2, hS, hK, g1, g2, g3, g4, g5⟩ := h
  obtain ⟨R3, ⟨O3, I3, k1, kO, kI, kJ, kb⟩, k2, k3, k4, k5, k6, k7⟩ := hd
  dsimp only at kO kI kJ kb k3 k4
  have l1 := k1.lt
  have l2 := k2.lt
  have lq := k2.q_lt
  have m1 := h1.lt
  have m2 := h2.lt
  have mq := h2.q_lt
  have hs := kb.size
  have hKO : ∀ k, O' k → K k := fun k hk => by rw [hK]; exact .inr (.inl hk)
  have hKq : K q' := by rw [hK]; exact .inr (.inr (.inl rfl))
  refine ⟨fun k => k < w.heap.size ∨ O3 k ∨ I3 k ∨ R3 k ∨ k = q ∨ S k, ⟨R, ⟨O', I, h1, fun k hk => ⟨fun h => ?_, (g1 k hk).1⟩, fun k hk => .inr ?_, fun k hk => ?_, kb⟩, h2, fun k hk => .inr ?_, ⟨fun h => ?_, g4, g2⟩, g5, hs, Nat.le_refl _⟩, ⟨O3, I3, R3, hbW, k1, k2, fun k hk => ?_⟩, fun k hk => .inl hk⟩
  · obtain ⟨x1, x2, x3, x4⟩ := g1 k hk
    have xk := hKO k hk
    rcases h with (h | h | h | h | h | h) | h | h
    · omega
    · exact (kO k h).1 (.inl xk)
    · exact (kI k h).elim (fun h => h (.inl xk)) x3
    · exact (k3 k h).elim (fun h => h xk) x3
    · exact x2 h
    · exact x3 h
    · exact x3 (by rw [hS]; exact .inr h)
    · exact x4 h
  · show S k; rw [hS]; exact .inl hk
  · rcases hk with (h | h | h | h | h | h) | h | h
    · omega
    · exact l1 k (.inl h)
    · exact l1 k (.inr h)
    · exact l2 k h
    · omega
    · exact g5 k h
    · exact m2 k h
    · omega
  · show S k; rw [hS]; exact .inr hk
  · rcases h with h | h | h | h | h | h
    · omega
    · exact (kO q' h).1 (.inl hKq)
    · exact (kI q' h).elim (fun h => h (.inl hKq)) g4
    · exact (k3 q' h).elim (fun h => h hKq) g4
    · exact g3 h.symm
    · exact g4 h
  · rcases hk with h | h | h | h
    · exact .inr (.inl h)
    · exact .inr (.inr (.inl h))
    · exact .inr (.inr (.inr (.inl h)))
    · exact .inr (.inr (.inr (.inr (.inl h))))
theorem Quad.still {w W W' : World} {S K : Bks} {q p' q' N M : Nat} {d : Dk} (h : Quad w W S K q p' q' N M d) (hb : Below W.heap.size W W') : Quad w W' S K q p' q' N M d := h.keep (by obtain ⟨_, _, _, hw, _⟩ := h; exact hw.trans (hb.mono hw.size)) (keep_below hb)
theorem Pal.cross {W : World} {p q p' q' N M N' M' : Nat} {d : Dk} (h : Pal W p q N M d) (h' : Pal W p' q' N' M' d) : Pal W p' q N' M d ∧ Pal W p q' N M' d := ⟨⟨h'.1, h.2⟩, h.1, h'.2⟩
theorem Rest.pal {w W : World} {K : Bks} {p q N M : Nat} {d : Dk} (h : Rest w W K p q N M d) : Pal W p q N M d := by
  obtain ⟨O, I, R, _, h1, h2, _⟩ := h
  exact ⟨⟨O, I, h1⟩, R, h2⟩
def Dk.acts (d : Dk) (l : List AV) (k : Nat) : Dk := (l.take k).foldl Dk.act d
theorem Dk.acts_succ (d : Dk) (l : List AV) {k : Nat} {c : AV} (hc : l[k]? = some c) : d.acts l (k + 1) = (d.acts l k).act c := by
  unfold Dk.acts
  rw [List.take_add_one, hc, List.foldl_append]; rfl
end Go.Proofs.Yticbfnflillokaa
