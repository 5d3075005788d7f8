/- Three disks of the call's own, beside blocks J that stay. -/
import Derived.Test.YticbfnflillokaaActTwo
namespace Go.Proofs.Yticbfnflillokaa
open Go.RowKit Go.Sort
/-- what one owns the other neither owns nor reads -/
def Apart (O I O2 I2 : Bks) : Prop := (∀ k, O k → ¬ O2 k ∧ ¬ I2 k) ∧ ∀ k, O2 k → ¬ I k
theorem Apart.swap {O I O2 I2 : Bks} (h : Apart O I O2 I2) : Apart O2 I2 O I := ⟨fun k hk => ⟨fun h1 => (h.1 k h1).1 hk, h.2 k hk⟩, fun k hk => (h.1 k hk).2⟩
def Three (w : World) (J : Bks) (wi : World) (p N : Nat) (d : Dk) (q M : Nat) (c : Dk) (r L : Nat) (e : Dk) : Prop :=
  ∃ O I O2 I2 O3 I3, (DiskAt wi O I p N d ∧ DiskAt wi O2 I2 q M c ∧ DiskAt wi O3 I3 r L e) ∧ ((∀ k, O k → ¬ J k ∧ w.heap.size ≤ k) ∧ (∀ k, O2 k → ¬ J k ∧ w.heap.size ≤ k) ∧ ∀ k, O3 k → ¬ J k ∧ w.heap.size ≤ k) ∧
    (Apart O I O2 I2 ∧ Apart O I O3 I3 ∧ Apart O2 I2 O3 I3) ∧ (∀ k, J k → k < wi.heap.size) ∧ Below w.heap.size w wi
section
variable {w wi w' : World} {J : Bks} {p N q M r L : Nat} {d c e : Dk}
theorem Three.rot (h : Three w J wi p N d q M c r L e) : Three w J wi q M c r L e p N d := by
  obtain ⟨O, I, O2, I2, O3, I3, ⟨h1, h2, h3⟩, ⟨o1, o2, o3⟩, ⟨a1, a2, a3⟩, hJ, hb⟩ := h
  exact ⟨O2, I2, O3, I3, O, I, ⟨h2, h3, h1⟩, ⟨o2, o3, o1⟩, ⟨a3, a1.swap, a2.swap⟩, hJ, hb⟩
theorem Three.two (h : Three w J wi p N d q M c r L e) : Two w J wi p N d q M c := by
  obtain ⟨O, I, O2, I2, O3, I3, ⟨h1, h2, h3⟩, ⟨o1, o2, o3⟩, ⟨a1, a2, a3⟩, hJ, hb⟩ := h
  exact ⟨O, I, O2, I2, h1, h2, o1, o2, a1.1, a1.2, hJ, hb⟩
theorem Three.below (h : Three w J wi p N d q M c r L e) : Below w.heap.size w wi := h.two.one.below
theorem apart_step {O I O2 I2 O' I' : Bks} (ha : Apart O I O2 I2) (h2 : DiskAt wi O2 I2 q M c) (hst : Step wi O I w' O' I') : Apart O' I' O2 I2 := by
  obtain ⟨hc, hO', hI'⟩ := hst
  have hlt := h2.lt
  refine ⟨fun k hk => ?_, fun k hk hI => ?_⟩
  · rcases hO' k hk with h | h
    · exact ha.1 k h
    · exact ⟨fun h2 => by have := hlt k (.inl h2); omega, fun h2 => by have := hlt k (.inr h2); omega⟩
  · rcases hI' k hI with h | h
    · exact ha.2 k hk h
    · have := hlt k (.inl hk); omega
theorem Three.step {N' : Nat} {d' : Dk} {O I O2 I2 O3 I3 O' I' : Bks} (h2 : DiskAt wi O2 I2 q M c) (h3 : DiskAt wi O3 I3 r L e) (o1 : ∀ k, O k → ¬ J k ∧ w.heap.size ≤ k) (o2 : ∀ k, O2 k → ¬ J k ∧ w.heap.size ≤ k) (o3 : ∀ k, O3 k → ¬ J k ∧ w.heap.size ≤ k)
    (a1 : Apart O I O2 I2) (a2 : Apart O I O3 I3) (a3 : Apart O2 I2 O3 I3) (hJ : ∀ k, J k → k < wi.heap.size) (hb : Below w.heap.size w wi) (h' : DiskAt w' O' I' p N' d') (hst : Step wi O I w' O' I') : Three w J w' p N' d' q M c r L e ∧ Keep J wi w' := by
  have b1 := apart_step a1 h2 hst
  have b2 := apart_step a2 h3 hst
  obtain ⟨hc, hO', hI'⟩ := hst
  refine ⟨⟨O', I', O2, I2, O3, I3, ⟨h', h2.chg hc fun k hk => a1.1 k hk, h3.chg hc fun k hk => a2.1 k hk⟩, ⟨fun k hk => ?_, o2, o3⟩, ⟨b1, b2, a3⟩, fun k hk => Nat.lt_of_lt_of_le (hJ k hk) hc.size, hb.trans (hc.below hb.size fun k hk => (o1 k hk).2)⟩, hc.keep fun k hk => (o1 k hk).1⟩
  rcases hO' k hk with h | h
  · exact o1 k h
  · exact ⟨fun hj => by have := hJ k hj; omega, Nat.le_trans hb.size h⟩
theorem Three.does {N' f : Nat} {d' : Dk} {args : Array Value} {z : Int} (h : Three w J wi p N d q M c r L e) (hc : ∀ O I, DiskAt wi O I p N d → Calls Try.prog f args wi (Does wi O I p N' z d')) :
    Calls Try.prog f args wi fun x w' => x = .returned (.int .i64 z) ∧ Three w J w' p N' d' q M c r L e ∧ Keep J wi w' := by
  obtain ⟨O, I, O2, I2, O3, I3, ⟨h1, h2, h3⟩, ⟨o1, o2, o3⟩, ⟨a1, a2, a3⟩, hJ, hb⟩ := h
  refine (hc O I h1).mono ?_
  rintro x w' ⟨rfl, O', I', hd', hst⟩
  exact ⟨rfl, Three.step h2 h3 o1 o2 o3 a1 a2 a3 hJ hb hd' hst⟩
theorem Three.wipe (h : Three w J wi p N d q M c r L e) (hN : N ≤ 400000) : Calls Try.prog 15 #[.pointer (some ⟨p, 0, none⟩)] wi fun x w' => x = .returned (.tuple #[]) ∧ Three w J w' p (N + 1) d.wipe q M c r L e ∧ Keep J wi w' := by
  obtain ⟨O, I, O2, I2, O3, I3, ⟨h1, h2, h3⟩, ⟨o1, o2, o3⟩, ⟨a1, a2, a3⟩, hJ, hb⟩ := h
  refine (wipe_any h1 hN).mono ?_
  rintro x w' ⟨rfl, O', I', hd', hst⟩
  exact ⟨rfl, Three.step h2 h3 o1 o2 o3 a1 a2 a3 hJ hb hd' hst⟩
theorem Three.more (h : Three w J wi p N d q M c r L e) (hb' : Below wi.heap.size wi w') (X : Bks) (hX : ∀ k, X k → wi.heap.size ≤ k ∧ k < w'.heap.size) : Three w (fun k => J k ∨ X k) w' p N d q M c r L e ∧ Keep J wi w' := by
  obtain ⟨O, I, O2, I2, O3, I3, ⟨h1, h2, h3⟩, ⟨o1, o2, o3⟩, ha, hJ, hb⟩ := h
  have each : ∀ {O I : Bks} {p N : Nat} {d : Dk}, DiskAt wi O I p N d → (∀ k, O k → ¬ J k ∧ w.heap.size ≤ k) → ∀ k, O k → ¬ (J k ∨ X k) ∧ w.heap.size ≤ k := by
    intro O I p N d h ho k hk
    refine ⟨fun hx => ?_, (ho k hk).2⟩
    rcases hx with hx | hx
    · exact (ho k hk).1 hx
    · have := h.lt k (.inl hk); have := (hX k hx).1; omega
  refine ⟨⟨O, I, O2, I2, O3, I3, ⟨h1.below hb' (Nat.le_refl _), h2.below hb' (Nat.le_refl _), h3.below hb' (Nat.le_refl _)⟩, ⟨each h1 o1, each h2 o2, each h3 o3⟩, ha, fun k hk => ?_, hb.trans (hb'.mono hb.size)⟩, hb'.size, fun k _ hl => hb'.block k hl⟩
  rcases hk with hk | hk
  · have := hJ k hk; have := hb'.size; omega
  · exact (hX k hk).2
theorem Three.narrow {J' : Bks} (h : Three w J wi p N d q M c r L e) (hJ : ∀ k, J' k → J k) : Three w J' wi p N d q M c r L e := by
  obtain ⟨O, I, O2, I2, O3, I3, hd, ⟨o1, o2, o3⟩, ha, hj, hb⟩ := h
  exact ⟨O, I, O2, I2, O3, I3, hd, ⟨fun k hk => ⟨fun h => (o1 k hk).1 (hJ k h), (o1 k hk).2⟩, fun k hk => ⟨fun h => (o2 k hk).1 (hJ k h), (o2 k hk).2⟩, fun k hk => ⟨fun h => (o3 k hk).1 (hJ k h), (o3 k hk).2⟩⟩, ha, fun k hk => hj k (hJ k hk), hb⟩
theorem Three.still (h : Three w J wi p N d q M c r L e) (hb' : Below wi.heap.size wi w') : Three w J w' p N d q M c r L e ∧ Keep J wi w' := by
  obtain ⟨h1, h2⟩ := h.more hb' (fun _ => False) fun _ h => h.elim
  exact ⟨h1.narrow fun _ h => .inl h, h2⟩
theorem Three.mono {N' M' L' : Nat} (h : Three w J wi p N d q M c r L e) (hN : N ≤ N') (hM : M ≤ M') (hL : L ≤ L') : Three w J wi p N' d q M' c r L' e := by
  obtain ⟨O, I, O2, I2, O3, I3, ⟨h1, h2, h3⟩, r⟩ := h
  exact ⟨O, I, O2, I2, O3, I3, ⟨h1.mono hN, h2.mono hM, h3.mono hL⟩, r⟩
theorem Three.read (h : Three w J wi p N d q M c r L e) (k : Bs) (hk : k.length ≤ maxLen) : Calls Try.prog 18 #[.pointer (some ⟨p, 0, none⟩), .string ⟨k.toArray⟩] wi fun x w' =>
    ∃ a n c', ∃ X : Bks, x = .returned (.tuple #[.slice a n c', .int .i64 (lack d k [])]) ∧ BytesIn (fun i => J i ∨ X i) w' (.slice a n c') (if lack d k [] = 0 then (d.seen.get k).getD [] else []) ∧ Three w (fun i => J i ∨ X i) w' p N d q M c r L e ∧ Keep J wi w' := by
  have h2 := h
  obtain ⟨O, I, _, _, _, _, ⟨hd, _⟩, _⟩ := h
  refine (read_any hd k hk).mono ?_
  rintro x w' ⟨v, rfl, ho, hb⟩
  have hlt := ho.lt
  obtain ⟨a, c, hv⟩ := ho.form
  have hm := h2.more hb (fun i => v.ownBlock = some i) fun i hi => hlt i hi
  subst hv
  exact ⟨a, _, c, _, rfl, ho.bytesIn.wide fun i _ hi => .inr hi, hm⟩
theorem Three.names (h : Three w J wi p N d q M c r L e) (hN : N ≤ 400000) : Calls Try.prog 26 #[.pointer (some ⟨p, 0, none⟩)] wi fun x w' =>
    ∃ a cap, ∃ X : Bks, x = .returned (.slice a d.told.length cap) ∧ StrsIn (fun i => J i ∨ X i) w' (.slice a d.told.length cap) d.told ∧ Three w (fun i => J i ∨ X i) w' p N d q M c r L e ∧ Keep J wi w' := by
  have h2 := h
  obtain ⟨O, I, _, _, _, _, ⟨hd, _⟩, _⟩ := h
  refine (names_any hd hN).mono ?_
  rintro x w' ⟨v, rfl, ho, hb⟩
  have hm := h2.more hb (fun i => v.ownBlock = some i) fun i hi => World.ownsRow.lt ho i hi
  have hs := OwnStrs.strsIn ho
  obtain ⟨a, cap, rfl, _⟩ := id hs
  exact ⟨a, cap, _, rfl, hs.wide fun i hi => .inr hi, hm⟩
abbrev StThree (w : World) (J : Bks) (wi : World) (p N q M : Nat) (c : Dk) (r L : Nat) (e : Dk) (d : Dk) (w' : World) : Prop := Three w J w' p (N + 1) d q M c r L e ∧ Keep J wi w'
theorem Three.arms (h : Three w J wi p N d q M c r L e) (hN : N ≤ 400000) (x : AV) (u : Value) (hu : BytesAt wi u x.b) (hok : x.ok) : ArmsOf (StThree w J wi p N q M c r L e) wi p d x u where
  h0 := h.does fun _ _ hd => append_any hd hN x.name x.b u hu hok.1
  h1 := h.does fun _ _ hd => put_any hd hN x.name x.b u hu hok.1
  h2 := h.does fun _ _ hd => rename_any hd hN x.name x.to hok.1 hok.2.1
  h3 := h.does fun _ _ hd => remove_any hd hN x.name hok.1
  h4 := h.does fun _ _ hd => sync_any hd hN
  h5 := (h.read x.name hok.1).mono fun _ _ ⟨a, n, c, _, he, _, h1, h2⟩ => ⟨a, n, c, he, (h1.narrow fun _ h => .inl h).mono (Nat.le_succ N) (Nat.le_refl _) (Nat.le_refl _), h2⟩
  h6 := h.does fun _ _ hd => crash_any hd hN x.x x.y
  h7 := h.does fun _ _ hd => start_any hd
  h8 := h.wipe hN
  h9 := ⟨h.mono (Nat.le_succ N) (Nat.le_refl _) (Nat.le_refl _), Keep.refl _ _⟩
theorem Three.acts (h : Three w J wi p N d q M c r L e) (hN : N ≤ 400000) (x : AV) (u : Value) (hu : BytesAt wi u x.b) (hok : x.ok) :
    Calls Try.prog 32 #[.pointer (some ⟨p, 0, none⟩), .agg (x.cells u).toArray] wi fun y w' => y = .returned (.tuple #[]) ∧ Three w J w' p (N + 1) (d.act x) q M c r L e ∧ Keep J wi w' := by
  have hb1 : Below wi.heap.size wi (wi.alloc (.cells (x.cells u).toArray 33)) := Go.Joins.below_alloc1 _ _
  obtain ⟨h1, k1⟩ := h.still hb1
  refine (does_of x u hu (h1.arms hN x u (hu.belowB hb1 (Nat.le_refl _)) hok)).mono ?_
  rintro y w' ⟨rfl, h2, k2⟩
  exact ⟨rfl, h2, k1.trans k2⟩
/-- a third one, by Copy of the first -/
theorem Two.copy (h : Two w J wi p N d q M c) (hN : N ≤ 400000) : Calls Try.prog 13 #[.pointer (some ⟨p, 0, none⟩)] wi fun x w' => ∃ r, x = .returned (.pointer (some ⟨r, 0, none⟩)) ∧ Three w J w' p N d q M c r N d ∧ Keep J wi w' := by
  obtain ⟨O, I, O2, I2, h1, h2, hO, hO2, hs, hs2, hJ, hb⟩ := h
  refine (copy_any h1 hN).mono ?_
  rintro x w' ⟨r, rfl, O3, hd3, hO3, hb3⟩
  have hlt := h1.lt
  have hlt2 := h2.lt
  refine ⟨r, rfl, ⟨O, I, O2, I2, O3, I, ⟨h1.below hb3 (Nat.le_refl _), h2.below hb3 (Nat.le_refl _), hd3⟩, ⟨hO, hO2, fun k hk => ⟨fun hj => by have := hJ k hj; have := hO3 k hk; omega, Nat.le_trans hb.size (hO3 k hk)⟩⟩, ⟨⟨hs, hs2⟩, ⟨fun k hk => ⟨fun h3 => by have := hlt k (.inl hk); have := hO3 k h3; omega, h1.di k hk⟩, fun k hk => hd3.di k hk⟩, ⟨fun k hk => ⟨fun h3 => by have := hlt2 k (.inl hk); have := hO3 k h3; omega, hs2 k hk⟩, fun k hk hI => by have := hlt2 k (.inr hI); have := hO3 k hk; omega⟩⟩, fun k hk => Nat.lt_of_lt_of_le (hJ k hk) hb3.size, hb.trans (hb3.mono hb.size)⟩, hb3.size, fun k _ hl => hb3.block k hl⟩
end
end Go.Proofs.Yticbfnflillokaa
