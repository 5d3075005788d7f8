/- act: what all its arms share. -/
import Derived.Test.YticbfnflillokaaRowB
import Derived.Test.YticbfnflillokaaRowC
import Derived.Test.YticbfnflillokaaRowD
import Derived.Test.YticbfnflillokaaRowG
import Derived.Deep.RegionHeld3
namespace Go.Proofs.Yticbfnflillokaa
open Go.RowKit
theorem ask_any {w : World} {R : Bks} {q N : Nat} {d : Dk} (h : RefAt w R q N d) (hN : N ≤ 400000) (o : Int) (n t b : Bs) (ca : Option Addr) (cc L : Nat) (hL : b.length = L) (hc : BytesAt w (.slice ca L cc) b) (ho : 0 ≤ o ∧ o ≤ 3) (hb : L ≤ 100000) (hn : n.length ≤ maxLen) (ht : t.length ≤ maxLen) :
    Calls Try.prog 47 #[.pointer (some ⟨q, 0, none⟩), .agg #[.int .i64 o, .string ⟨n.toArray⟩, .string ⟨t.toArray⟩, .slice ca L cc]] w (DoEnd w R q N (d.ask o n t b)) := by
  subst hL
  have hs := Dk.says_ask h.1 ⟨o, n, t, b, ca, cc⟩ ho
  dsimp only at hs
  rw [← hs]
  rcases (by omega : ¬ 2 ≤ o ∨ o = 2 ∨ o = 3) with hm | hm | hm
  · exact ask_low h hN ⟨o, n, t, b, ca, cc⟩ hc ho hb hn ht hm
  · exact ask_ren h hN ⟨o, n, t, b, ca, cc⟩ hc ho hb hn ht hm
  · exact ask_rem h hN ⟨o, n, t, b, ca, cc⟩ hc ho hb hn ht hm
theorem Duo.mono {w : Fr} {wi : World} {K : Bks} {p q N M N' M' : Nat} {d e : Dk} (h : Duo w K wi p q N M d e) (hN : N ≤ N') (hM : M ≤ M') : Duo w K wi p q N' M' d e := by
  obtain ⟨R, h1, h2, r⟩ := h
  exact ⟨R, h1.mono hN, h2.mono hM, r⟩
def ActDoes (w : Fr) (K : Bks) (wi : World) (p q N M : Nat) (d : Dk) (en : Ending) (w' : World) : Prop := en = .returned (.bool true) ∧ Duo w K w' p q (N + 1) (M + 1) d d ∧ Keep K wi w'
def XBox (wi : World) (o : Int) (n t : Bs) (u : Value) (x y : Int) : World := wi.alloc (.cells #[.int .i64 o, .string ⟨n.toArray⟩, .string ⟨t.toArray⟩, u, .int .i64 x, .int .i64 y] 33)
/-- the act's box -/
def XCells (B : Nat) (o : Int) (n t : Bs) (u : Value) (x y : Int) (W : World) : Prop := W.cell? ⟨B, 0, none⟩ = some (.int .i64 o) ∧ W.cell? ⟨B, 1, none⟩ = some (.string ⟨n.toArray⟩) ∧ W.cell? ⟨B, 2, none⟩ = some (.string ⟨t.toArray⟩) ∧ W.cell? ⟨B, 3, none⟩ = some u ∧ W.cell? ⟨B, 4, none⟩ = some (.int .i64 x) ∧ W.cell? ⟨B, 5, none⟩ = some (.int .i64 y)
def CCells (B : Nat) (o : Int) (n t : Bs) (u : Value) (W : World) : Prop := W.cell? ⟨B, 0, none⟩ = some (.int .i64 o) ∧ W.cell? ⟨B, 1, none⟩ = some (.string ⟨n.toArray⟩) ∧ W.cell? ⟨B, 2, none⟩ = some (.string ⟨t.toArray⟩) ∧ W.cell? ⟨B, 3, none⟩ = some u
theorem XBox.cells {wi W : World} {K : Bks} {o : Int} {n t : Bs} {u : Value} {x y : Int} (hk : Keep K (XBox wi o n t u x y) W) (hK : K wi.heap.size) : XCells wi.heap.size o n t u x y W := by
  have h := keep_block' hk hK (heap_alloc_new wi (.cells #[.int .i64 o, .string ⟨n.toArray⟩, .string ⟨t.toArray⟩, u, .int .i64 x, .int .i64 y] 33))
  refine ⟨?_, ?_, ?_, ?_, ?_, ?_⟩ <;> (rw [Go.Joins.cell_of_block h]; rfl)
theorem wrap_byte (v : Int) : ∃ z : UInt8, IntKind.u8.wrap v = ((z.toNat : Nat) : Int) := by
  have h1 : IntKind.u8.wrap v = v % 256 := by
    simp [IntKind.wrap, IntKind.bits, IntKind.signed]
  refine ⟨UInt8.ofNat (v % 256).toNat, ?_⟩
  rw [h1, UInt8.toNat_ofNat']
  omega
theorem OwnBytes.spoil' {base : Nat} {w : World} {g cap L : Nat} {l : Bs} (hL : l.length = L) (h : OwnBytes base w (.slice (some ⟨g, 0, none⟩) L cap) l) (j : Nat) (hj : j < L) :
    (∃ x : Int, w.cell? ⟨g, j, none⟩ = some (.int .u8 x)) ∧ w.frozen? ⟨g, j, none⟩ = false ∧ ∀ v : Int, ∃ l' : Bs, l'.length = L ∧ OwnBytes base (w.setCell ⟨g, j, none⟩ (.int .u8 (IntKind.u8.wrap v))) (.slice (some ⟨g, 0, none⟩) L cap) l' := by
  subst hL
  refine ⟨⟨_, by rw [World.ownsRow.cellAt h j (by omega)]; exact getD_cell l j hj⟩, World.ownsRow.frozenAt h j, fun v => ?_⟩
  obtain ⟨z, hz⟩ := wrap_byte v
  refine ⟨l.set j z, List.length_set, ?_⟩
  rw [hz]
  have := (World.ownsRow.stored h j (.int .u8 ((z.toNat : Nat) : Int))).1
  unfold OwnBytes
  rw [List.length_set, List.map_set]
  exact this
theorem OwnBytes.keep {base : Nat} {w W : World} {v : Value} {l : Bs} {I : Bks} (h : OwnBytes base w v l) (hk : Keep I w W) (hI : ∀ k, v.ownBlock = some k → I k) : OwnBytes base W v l := by
  refine ⟨h.1, ?_⟩
  rcases h.2 with h2 | ⟨g, cap, cur, rfl, hbg, hg, r⟩
  · exact .inl h2
  · exact .inr ⟨g, cap, cur, rfl, hbg, keep_block' hk (hI g rfl) hg, r⟩
/-- where act stands when it has made its copy of the bytes, and the change: W3, of blocks K3; b's blocks are a2 -/
structure Ready (w : Fr) (K : Bks) (wi : World) (p q N M : Nat) (d : Dk) (o : Int) (n t l : Bs) (ua : Option Addr) (L uc : Nat) (x y : Int) (K3 : Bks) (a2 : Option Addr) (c2 G : Nat) (W3 : World) : Prop where
  duo : Duo w K3 W3 p q N M d d
  sub : ∀ k, K k → K3 k ∧ k < wi.heap.size
  keep : Keep K wi W3
  own : ∀ W, Keep K3 W3 W → OwnBytes (wi.heap.size + 1) W (.slice a2 L c2) l ∧ BytesAt W (.slice a2 L c2) l ∧ BytesAt W (.slice ua L uc) l
  row : ∀ k, (Value.slice a2 L c2).ownBlock = some k → K3 k ∧ w.heap.size ≤ k ∧ wi.heap.size ≤ k
  xc : ∀ W, Keep K3 W3 W → XCells wi.heap.size o n t (.slice ua L uc) x y W
  cc : ∀ W, Keep K3 W3 W → CCells G o n t (.slice ua L uc) W
theorem Ready.of {w : Fr} {K : Bks} {wi : World} {p q N M : Nat} {d : Dk} (h : Duo w K wi p q N M d d) (o : Int) (n t l : Bs) (ua : Option Addr) (L uc : Nat) (x y : Int) (hu : BytesIn K wi (.slice ua L uc) l) (hL : l.length = L) :
    ∀ v2 w2, OwnBytes (wi.heap.size + 1) w2 v2 l → ((XBox wi o n t (.slice ua L uc) x y).alloc (.cells #[] 5)).grownBy w2 (Value.slice (some ⟨wi.heap.size + 1, 0, none⟩) 0 0).ownBlock →
      ∃ a2 c2, v2 = .slice a2 L c2 ∧ XCells wi.heap.size o n t (.slice ua L uc) x y w2 ∧ (∀ z, XCells wi.heap.size o n t (.slice ua L uc) x y (w2.alloc z)) ∧
      ∃ K3 W3, W3 = w2.alloc (.cells #[.int .i64 o, .string ⟨n.toArray⟩, .string ⟨t.toArray⟩, .slice ua L uc] 84) ∧ Ready w K wi p q N M d o n t l ua L uc x y K3 a2 c2 w2.heap.size W3 := by
  intro v2 w2 ho hg
  obtain ⟨a2, c2, e2⟩ := ho.form
  rw [hL] at e2
  subst e2
  obtain ⟨W1, hW1⟩ : ∃ W1, W1 = XBox wi o n t (.slice ua L uc) x y := ⟨_, rfl⟩
  have hs1 : W1.heap.size = wi.heap.size + 1 := by rw [hW1]; exact World.size_alloc _ _
  have hb1 : Below wi.heap.size wi W1 := by rw [hW1]; exact Go.Joins.below_alloc1 wi _
  rw [← hW1] at hg
  have hc12 : Chg (fun _ => False) W1 w2 := ((Chg.refl _ W1).alloc _).grown hg fun k hk => .inr (by have : wi.heap.size + 1 = k := Option.some.inj hk; omega)
  have hb12 : Below W1.heap.size W1 w2 := hc12.below (Nat.le_refl _) fun _ h => h.elim
  have hb02 : Below wi.heap.size wi w2 := hb1.trans (hb12.mono hb1.size)
  have hx : ∀ W, Below W1.heap.size W1 W → XCells wi.heap.size o n t (.slice ua L uc) x y W := fun W hb => by
    rw [hW1] at hb
    exact XBox.cells (K := fun _ => True) (keep_below hb) trivial
  obtain ⟨W3, hW3⟩ : ∃ W3, W3 = w2.alloc (.cells #[.int .i64 o, .string ⟨n.toArray⟩, .string ⟨t.toArray⟩, .slice ua L uc] 84) := ⟨_, rfl⟩
  have hb23 : Below w2.heap.size w2 W3 := by rw [hW3]; exact Go.Joins.below_alloc1 w2 _
  have hs3 : W3.heap.size = w2.heap.size + 1 := by rw [hW3]; exact World.size_alloc _ _
  have hb03 : Below wi.heap.size wi W3 := hb02.trans (hb23.mono hb02.size)
  have hb13 : Below W1.heap.size W1 W3 := hb12.trans (hb23.mono hb12.size)
  have hs12 := hb12.size
  have hkl := h.lt
  have hwi := h.below.size
  have hown3 : OwnBytes (wi.heap.size + 1) W3 (.slice a2 L c2) l := ho.kept hb23 (Nat.le_refl _)
  have hlt := ho.lt
  have hd3 := h.write (C := fun _ => False) (Chg.of_below hb03 (Nat.le_refl _)) (fun _ h => h.elim) (fun k => k = wi.heap.size ∨ (Value.slice a2 L c2).ownBlock = some k ∨ k = w2.heap.size) fun k hk => by
    rcases hk with hk | hk | hk
    · omega
    · have := hlt k hk; omega
    · omega
  refine ⟨a2, c2, rfl, hx _ hb12, fun z => hx _ (hb12.alloc hb12.size z), (fun k => K k ∨ (k = wi.heap.size ∨ (Value.slice a2 L c2).ownBlock = some k ∨ k = w2.heap.size)), W3, hW3, ?_⟩
  refine { duo := hd3, sub := fun k hk => ⟨.inl hk, hkl k hk⟩, keep := keep_below hb03, own := fun W hk => ?_, row := fun k hk => ⟨.inr (.inr (.inl hk)), by have := (hlt k hk).1; omega, by have := (hlt k hk).1; omega⟩, xc := fun W hk => ?_, cc := fun W hk => ?_ }
  · have h1 : OwnBytes (wi.heap.size + 1) W (.slice a2 L c2) l := hown3.keep hk fun k hk => .inr (.inr (.inl hk))
    have h2 : BytesIn K W (.slice ua L uc) l := (hu.below hb03 (Nat.le_refl _)).keep hk fun k hk => .inl hk
    exact ⟨h1, h1.at, h2.at⟩
  · have h0 : W1.heap[wi.heap.size]? = some (.cells #[.int .i64 o, .string ⟨n.toArray⟩, .string ⟨t.toArray⟩, .slice ua L uc, .int .i64 x, .int .i64 y] 33 (0, 0)) := by rw [hW1]; exact heap_alloc_new wi _
    have h3 := keep_block' hk (.inr (.inl rfl)) ((hb13.block _ (lt_of_block h0)).trans h0)
    refine ⟨?_, ?_, ?_, ?_, ?_, ?_⟩ <;> (rw [Go.Joins.cell_of_block h3]; rfl)
  · have h0 : W3.heap[w2.heap.size]? = some (.cells #[.int .i64 o, .string ⟨n.toArray⟩, .string ⟨t.toArray⟩, .slice ua L uc] 84 (0, 0)) := by rw [hW3]; exact heap_alloc_new w2 _
    have h3 := keep_block' hk (.inr (.inr (.inr rfl))) h0
    refine ⟨?_, ?_, ?_, ?_⟩ <;> (rw [Go.Joins.cell_of_block h3]; rfl)
/-- the end of act: what was done, and the caller's blocks as they were -/
theorem Ready.done {w : Fr} {K : Bks} {wi : World} {p q N M N' M' : Nat} {d d' : Dk} {o : Int} {n t l : Bs} {ua : Option Addr} {L uc : Nat} {x y : Int} {K3 : Bks} {a2 : Option Addr} {c2 G : Nat} {W3 W : World} (h : Ready w K wi p q N M d o n t l ua L uc x y K3 a2 c2 G W3) (hd : Duo w K3 W p q N' M' d' d') (hN : N' ≤ N + 1) (hM : M' ≤ M + 1) (hk : Keep K3 W3 W) : ActDoes w K wi p q N M d' (.returned (.bool true)) W :=
  ⟨rfl, (hd.mono hN hM).narrow fun k hk => (h.sub k hk).1, h.keep.trans (hk.mono fun k hk => (h.sub k hk).1)⟩
end Go.Proofs.Yticbfnflillokaa
