/- A writer: what it has, and how parts come behind that; a nil one takes nothing. -/
import Derived.Test.YtniogemgkcoimaaPlace
import Derived.LoopTactic
namespace Go.Proofs.Ytniogemgkcoimaa
open Go.RowKit
/-- the writer at block g has l, in v -/
structure WrAt (w : World) (g base : Nat) (v : Value) (l : List UInt8) : Prop where
  block : w.heap[g]? = some (.cells #[v] 29 (0, 0))
  own : OwnBytes base w v l
  lt : g < base
  le : base ≤ w.heap.size
/-- the writer that p points to has l; a nil one has nothing -/
def Wr (w : World) (p : Option Addr) (base : Nat) (v : Value) (l : List UInt8) : Prop := (p = none ∧ v = .slice none 0 0 ∧ l = []) ∨ ∃ g, p = some ⟨g, 0, none⟩ ∧ WrAt w g base v l
/-- what a writer has behind b -/
def taken (p : Option Addr) (l b : List UInt8) : List UInt8 := if p.isSome then l ++ b else []
theorem taken_taken (p : Option Addr) (l a b : List UInt8) : taken p (taken p l a) b = taken p l (a ++ b) := by
  unfold taken; split
  · rw [List.append_assoc]
  · rfl
theorem taken_some (g : Nat) (l b : List UInt8) : taken (some ⟨g, 0, none⟩) l b = l ++ b := rfl
theorem taken_none (l b : List UInt8) : taken none l b = [] := rfl
theorem taken_nil {w : World} {p : Option Addr} {base : Nat} {v : Value} {l : List UInt8} (h : Wr w p base v l) : taken p l [] = l := by
  rcases h with ⟨rfl, _, rfl⟩ | ⟨g, rfl, _⟩
  · rfl
  · rw [taken_some, List.append_nil]
theorem taken_length (p : Option Addr) (l b : List UInt8) : (taken p l b).length ≤ l.length + b.length := by
  unfold taken; split <;> simp
/-- what a writer's call may change -/
def wset (p : Option Addr) (v : Value) : List Nat := p.toList.map (·.block) ++ v.ownBlock.toList
theorem Wr.chg {w w' : World} {p : Option Addr} {base : Nat} {v : Value} {l : List UInt8} {S : List Nat} (h : Wr w p base v l) (hc : Chg S w w') (hS : ∀ k ∈ wset p v, k ∉ S) : Wr w' p base v l := by
  rcases h with ⟨rfl, rfl, rfl⟩ | ⟨g, rfl, h⟩
  · exact .inl ⟨rfl, rfl, rfl⟩
  · exact .inr ⟨g, rfl, hc.heap h.block (hS g (by simp [wset])), h.own.chg hc (fun k hk => hS k (by simp [wset, hk])), h.lt, Nat.le_trans h.le hc.size⟩
theorem Wr.below {w w' : World} {p : Option Addr} {base B : Nat} {v : Value} {l : List UInt8} (h : Wr w p base v l) (hb : Below B w w') (hB : w.heap.size ≤ B) : Wr w' p base v l :=
  h.chg (Chg.of_below (S := []) hb hB) (by simp)
theorem Wr.wlt {w : World} {p : Option Addr} {base : Nat} {v : Value} {l : List UInt8} (h : Wr w p base v l) : ∀ k ∈ wset p v, k < w.heap.size := by
  rcases h with ⟨rfl, rfl, rfl⟩ | ⟨g, rfl, h⟩
  · simp [wset, Value.ownBlock]
  · intro k hk
    simp only [wset, Option.toList_some, List.map_cons, List.map_nil, List.cons_append, List.nil_append, List.mem_cons, Option.mem_toList] at hk
    rcases hk with rfl | hk
    · exact lt_of_block h.block
    · exact (h.own.lt k hk).2
/-- what a writer's call leaves: no answer, and l' -/
def WPost (p : Option Addr) (base : Nat) (v : Value) (l' : List UInt8) (w : World) (e : Ending) (w' : World) : Prop :=
  e = .returned (.tuple #[]) ∧ ∃ v', Wr w' p base v' l' ∧ Chg (wset p v) w w' ∧ Placed w v v'
/-- one call behind another one -/
theorem WPost.after {p : Option Addr} {base : Nat} {v v1 : Value} {l' : List UInt8} {w w1 : World} {e : Ending} {w' : World} (hc : Chg (wset p v) w w1) (hp : Placed w v v1) (h : WPost p base v1 l' w1 e w') : WPost p base v l' w e w' := by
  obtain ⟨he, v', hw, hc1, hp1⟩ := h
  refine ⟨he, v', hw, hc.then hc1 fun i hi => ?_, hp.trans hp1 hc.size⟩
  simp only [wset, List.mem_append, Option.mem_toList] at hi ⊢
  rcases hi with hi | hi
  · exact .inl (.inl hi)
  · rcases hp with hp | hp
    · exact .inl (.inr (by rw [← hp]; exact hi))
    · exact .inr (hp i hi)
theorem add_fin {w w2 : World} {g base : Nat} {v v2 : Value} {l b : List UInt8} (H : WrAt w g base v l) (hown2 : OwnBytes base w2 v2 (l ++ b)) (hgrow2 : w.grownBy w2 v.ownBlock) (hpl : Placed w v v2) :
    (∃ a c, v2 = .slice a (l ++ b).length c) ∧ w2.cell? ⟨g, 0, none⟩ = some v ∧ w2.frozen? ⟨g, 0, none⟩ = false ∧
      Hid (Wr (w2.setCell ⟨g, 0, none⟩ v2) (some ⟨g, 0, none⟩) base v2 (l ++ b) ∧ Chg (wset (some ⟨g, 0, none⟩) v) w (w2.setCell ⟨g, 0, none⟩ v2) ∧ Placed w v v2) := by
  have hne : ∀ k, v.ownBlock = some k → k ≠ g := fun k hk e => by
    have h1 := (H.own.lt k hk).1
    have h2 := H.lt
    omega
  have hblk : w2.heap[g]? = some (.cells #[v] 29 (0, 0)) := by
    rw [hgrow2.block g (lt_of_block H.block) (fun e => hne g e.symm rfl)]; exact H.block
  have hc : Chg (wset (some ⟨g, 0, none⟩) v) w (w2.setCell ⟨g, 0, none⟩ v2) := by
    refine (Chg.grown (Chg.refl _ w) hgrow2 fun k hk => .inl ?_).setCell (.inl ?_) _
    · simp only [wset, List.mem_append, Option.mem_toList]; exact .inr hk
    · simp [wset]
  have hown3 : OwnBytes base (w2.setCell ⟨g, 0, none⟩ v2) v2 (l ++ b) := hown2.chg ((Chg.refl [g] w2).setCell (.inl (by simp)) _) fun k hk hm => by
    have h1 := (hown2.lt k hk).1
    have h2 := H.lt
    have h3 : k = g := by simpa using hm
    omega
  exact ⟨hown2.form, cell_of_one hblk, free_of_one hblk, .inr ⟨g, rfl, one_setCell hblk, hown3, H.lt, Nat.le_trans H.le hc.size⟩, hc, hpl⟩
theorem add_any (p : Option Addr) (base : Nat) (v u : Value) (l b : List UInt8) (w : World) (h : Wr w p base v l) (hb : BytesAt w u b) (hsm : l.length + b.length ≤ 100000000) :
    Calls Try.prog 52 #[.pointer p, u] w (WPost p base v (taken p l b) w) := by
  rcases h with ⟨rfl, rfl, rfl⟩ | ⟨g, rfl, h⟩
  · go_enter Try.func52, Try.ntmps52
    go_wp2
    go_end0
    exact ⟨rfl, _, .inl ⟨rfl, rfl, rfl⟩, Chg.refl _ _, Placed.refl _ _⟩
  · have H := Lib.hid h
    have HB := Lib.hid hb
    have c0 := cell_of_one h.block
    obtain ⟨a, c, rfl⟩ := h.own.form
    obtain ⟨a2, c2, rfl, _⟩ := hb.form
    clear h hb
    go_enter Try.func52, Try.ntmps52
    go_wp2_with (at_builtin; refine wpList_append_place rfl _ _ rfl base _ _ l b rfl rfl H.out.own HB.out (by omega) H.out.le ?_; intro v2 w2 hown2 hgrow2 hpl; obtain ⟨⟨a3, c3, rfl⟩, c1, f1, HF⟩ := add_fin H.out hown2 hgrow2 hpl; clear hown2 hgrow2 hpl)
    go_end0
    have hf := HF.out
    rw [List.length_append] at hf
    exact ⟨rfl, _, hf⟩
theorem bytes_row (w : World) (cs : List UInt8) (fr : Nat × Nat) (N : Nat) (hN : N = w.heap.size) (h : cs.length ≤ maxLen) (n c : Nat) (hn : n = cs.length) (hc : n ≤ c) : BytesAt (w.alloc (.cells (cs.map byteV).toArray 5 fr)) (.slice (some ⟨N, 0, none⟩) n c) cs := by
  subst hN hn
  refine BytesAt.mk' w.heap.size 0 c ⟨h, hc⟩ (fun _ => by simp) fun j hj => ?_
  rw [Nat.zero_add, World.cell?_alloc_mark]
  show (cs.map byteV).toArray[j]? = _
  rw [List.getElem?_toArray]
  exact getD_cell cs j hj
theorem byte_wrap (n : Nat) : Value.int .u8 ((n : Int) % 256) = byteV (UInt8.ofNat n) := by
  unfold byteV
  rw [UInt8.toNat_ofNat']
  congr 1
/-- add, of a literal's bytes -/
theorem add_lit (p : Option Addr) (base : Nat) (v : Value) (l b : List UInt8) (w : World) (h : Wr w p base v l) (cs : Array Value) (hcs : cs = (b.map byteV).toArray) (hb : b.length ≤ 1000) (hsm : l.length ≤ 10000000) :
    Calls Try.prog 52 #[.pointer p, .slice (some ⟨w.heap.size, 0, none⟩) b.length b.length] (w.alloc (.cells cs 5)) (WPost p base v (taken p l b) w) := by
  subst hcs
  refine (add_any p base v _ l b _ (h.below ((Below.refl _ w).alloc (Nat.le_refl _) _) (Nat.le_refl _)) (bytes_row w b (0, 0) _ rfl (by unfold maxLen; omega) _ _ rfl (Nat.le_refl _)) (by omega)).mono ?_
  intro e w' hp
  exact hp.after ((Chg.refl _ _).alloc _) (Placed.refl _ _)
theorem wU8 (p : Option Addr) (base : Nat) (v : Value) (l : List UInt8) (x : Nat) (hx : x < 256) (w : World) (h : Wr w p base v l) (hsm : l.length ≤ 10000000) :
    Calls Try.prog 33 #[.pointer p, .int .u8 (x : Nat)] w (WPost p base v (taken p l [UInt8.ofNat x]) w) := by
  have H := Lib.hid h
  clear h
  go_enter Try.func33, Try.ntmps33
  go_wp2_with fail
  refine (add_lit p base v l [UInt8.ofNat x] w H.out _ (by simp [byteV]; omega) (by simp) hsm).mono ?_
  rintro e w1 ⟨rfl, hp⟩
  go_wp2
  go_end0
  exact ⟨rfl, hp⟩
theorem wU32 (p : Option Addr) (base : Nat) (v : Value) (l : List UInt8) (x : Nat) (hx : x < 4294967296) (w : World) (h : Wr w p base v l) (hsm : l.length ≤ 10000000) :
    Calls Try.prog 34 #[.pointer p, .int .u32 (x : Nat)] w (WPost p base v (taken p l (le4 x)) w) := by
  have H := Lib.hid h
  clear h
  go_enter Try.func34, Try.ntmps34
  go_wp2_with fail
  refine (add_lit p base v l (le4 x) w H.out _ (by simp [byteV, le4]; omega) (by simp [le4]) hsm).mono ?_
  rintro e w1 ⟨rfl, hp⟩
  go_wp2
  go_end0
  exact ⟨rfl, hp⟩
theorem wRaw (p : Option Addr) (base : Nat) (v u : Value) (l b : List UInt8) (w : World) (h : Wr w p base v l) (hb : BytesAt w u b) (hsm : l.length + b.length ≤ 100000000) :
    Calls Try.prog 37 #[.pointer p, u] w (WPost p base v (taken p l b) w) := by
  have H := Lib.hid h
  have HB := Lib.hid hb
  obtain ⟨a2, c2, rfl, _⟩ := hb.form
  clear h hb
  go_enter Try.func37, Try.ntmps37
  go_wp2_with fail
  refine (add_any p base v _ l b w H.out HB.out hsm).mono ?_
  rintro e w1 ⟨rfl, hp⟩
  go_wp2
  go_end0
  exact ⟨rfl, hp⟩
/-- what the loop over the digits keeps: n digits at most behind the next one, X is what is to be written, D was -/
structure DigitsAt (w wr : World) (p : Option Addr) (base : Nat) (v : Value) (l : List UInt8) (x n X : Nat) (D : List UInt8) : Prop where
  eq : D ++ shortF n X = short x
  lt : X < 128 ^ (n + 1)
  ex : ∃ v', Wr wr p base v' (taken p l D) ∧ Chg (wset p v) w wr ∧ Placed w v v'
  small : D.length ≤ 10
  u64 : X < 18446744073709551616
theorem DigitsAt.step {w wr w' : World} {p : Option Addr} {base : Nat} {v v1 : Value} {l : List UInt8} {x n X : Nat} {D : List UInt8} {e : Ending} (h : DigitsAt w wr p base v l x n X D) (hX : 128 ≤ X)
    (hc : Chg (wset p v) w wr) (hpl : Placed w v v1) (hp : WPost p base v1 (taken p (taken p l D) [UInt8.ofNat (X % 128 + 128)]) wr e w') : ∃ n', DigitsAt w w' p base v l x n' (X / 128) (D ++ [UInt8.ofNat (X % 128 + 128)]) := by
  obtain ⟨n', rfl⟩ : ∃ n', n = n' + 1 := ⟨n - 1, by
    have := h.lt
    rcases Nat.eq_zero_or_pos n with h0 | h0
    · subst h0; omega
    · omega⟩
  obtain ⟨_, v', hw, hc', hp'⟩ := hp.after hc hpl
  have heq := h.eq
  unfold shortF at heq
  rw [if_neg (by omega)] at heq
  have hD : D.length + 1 + (shortF n' (X / 128)).length = (short x).length := by rw [← heq]; simp; omega
  have h2 := (short_length x).2
  have h3 := List.length_pos_iff.2 (shortF_ne n' (X / 128))
  refine ⟨n', by rw [List.append_assoc]; exact heq, ?_, ⟨v', by rw [← taken_taken]; exact hw, hc', hp'⟩, by simp; omega, by have := h.u64; omega⟩
  have := h.lt
  rw [Nat.pow_succ] at this
  omega
set_option maxRecDepth 100000 in
set_option maxHeartbeats 400000 in
theorem wUint (p : Option Addr) (base : Nat) (v : Value) (l : List UInt8) (x : Nat) (hx : x < 18446744073709551616) (w : World) (h : Wr w p base v l) (hsm : l.length ≤ 9000000) :
    Calls Try.prog 39 #[.pointer p, .int .u64 (x : Nat)] w (WPost p base v (taken p l (short x)) w) := by
  have H0 : Hid (DigitsAt w w p base v l x 9 x []) := ⟨rfl, by omega, ⟨v, by rw [taken_nil h]; exact h, Chg.refl _ _, Placed.refl _ _⟩, by simp, hx⟩
  clear h hx
  go_enter Try.func39, Try.ntmps39
  go_wp2
  go_loopw [1] (fun i wr => ∃ (n X : Nat) (D : List UInt8), i = .int .u64 (X : Nat) ∧ Hid (DigitsAt w wr p base v l x n X D)) (fun i _ => (intOf i).toNat)
  case atStart => exact ⟨9, x, [], rfl, H0.out⟩
  case round =>
    obtain ⟨n, X, D, rfl, HD⟩ := hrel
    clear H0
    obtain ⟨v1, hw1, hc1, hp1⟩ := HD.out.ex
    have hsm1 := taken_length p l D
    have hD10 := HD.out.small
    have HW := Lib.hid hw1
    have HC := Lib.hid hc1
    have HP := Lib.hid hp1
    have hwr : IntKind.u64.wrap ((X : Int) / 128) = ((X / 128 : Nat) : Int) := by
      have := HD.out.u64
      simp [IntKind.wrap, IntKind.bits, IntKind.signed]; omega
    clear hw1 hc1 hp1
    by_cases hX : 128 ≤ X
    · have HB : Hid (∀ cs, cs = (([UInt8.ofNat (X % 128 + 128)] : List UInt8).map byteV).toArray → Calls Try.prog 52 #[.pointer p, .slice (some ⟨wr.heap.size, 0, none⟩) 1 1] (wr.alloc (.cells cs 5)) (WPost p base v1 (taken p (taken p l D) [UInt8.ofNat (X % 128 + 128)]) wr)) := fun cs hcs =>
        add_lit p base v1 (taken p l D) [UInt8.ofNat (X % 128 + 128)] wr HW.out cs hcs (by simp) (by omega)
      clear hsm1 hD10 hsm
      go_wp2_with fail
      refine (HB.out _ (by simp [byteV]; omega)).mono ?_
      rintro e w1 hp
      obtain ⟨n', hn⟩ := HD.out.step hX HC.out HP.out hp
      have HN := Lib.hid hn
      obtain ⟨rfl, _⟩ := hp
      clear hn
      go_wp2
      exact ⟨⟨n', _, _, rfl, HN.out⟩, by simp [intOf]; omega⟩
    · have heq := HD.out.eq
      have hsh : shortF n X = [UInt8.ofNat X] := by
        cases n with
        | zero => rfl
        | succ n => unfold shortF; rw [if_pos (by omega)]
      rw [hsh] at heq
      have HB : Hid (∀ cs, cs = (([UInt8.ofNat X] : List UInt8).map byteV).toArray → Calls Try.prog 52 #[.pointer p, .slice (some ⟨wr.heap.size, 0, none⟩) 1 1] (wr.alloc (.cells cs 5)) (WPost p base v1 (taken p (taken p l D) [UInt8.ofNat X]) wr)) := fun cs hcs =>
        add_lit p base v1 (taken p l D) [UInt8.ofNat X] wr HW.out cs hcs (by simp) (by omega)
      rw [taken_taken, heq] at HB
      clear hsm1 hD10 hsm heq hsh
      go_wp2_with fail
      refine (HB.out _ (by simp [byteV]; omega)).mono ?_
      rintro e w1 hp
      have HN := Lib.hid (hp.after HC.out HP.out)
      obtain ⟨rfl, _⟩ := hp
      go_wp2
      go_end0
      exact HN.out
set_option maxHeartbeats 400000 in
theorem wText (p : Option Addr) (base : Nat) (v : Value) (l s : List UInt8) (w : World) (h : Wr w p base v l) (hsm : l.length + s.length ≤ 8000000) :
    Calls Try.prog 36 #[.pointer p, .string ⟨s.toArray⟩] w (WPost p base v (taken p l (short s.length ++ s)) w) := by
  have H := Lib.hid h
  have hsz : (⟨s.toArray⟩ : ByteArray).size = s.length := by simp [ByteArray.size]
  have HC : Hid (∀ wx, ∃ v W, (convert 9 27 (.string ⟨s.toArray⟩)).run Try.prog wx = .ok v W ∧ BytesAt W v s ∧ Below wx.heap.size wx W) := fun wx => conv_to_bytes wx s (by unfold maxLen; omega)
  have hsl := short_length s.length
  clear h
  have hwr : IntKind.u64.wrap ((s.length : Nat) : Int) = ((s.length : Nat) : Int) := by
    simp [IntKind.wrap, IntKind.bits, IntKind.signed]; omega
  generalize (⟨s.toArray⟩ : ByteArray) = S at *
  go_enter Try.func36, Try.ntmps36
  go_wp2_with fail
  refine (wUint p base v l s.length (by omega) w H.out (by omega)).mono ?_
  rintro e w1 hp
  have HP := Lib.hid hp
  obtain ⟨rfl, v1, hw1, hc1, hp1⟩ := hp
  obtain ⟨u, W, hconv, hb, hbel⟩ := HC.out w1
  have HB := Lib.hid hb
  have HW := Lib.hid (hw1.below hbel (Nat.le_refl _))
  have HCG := Lib.hid (hc1.then (Chg.of_below (S := []) hbel (Nat.le_refl _)) (by simp))
  have HPL := Lib.hid hp1
  have ht := taken_length p l (short s.length)
  clear hw1 hc1 hp1 hb hbel
  go_wp2_with fail
  refine (add_any p base v1 u _ s W HW.out HB.out (by omega)).mono ?_
  rintro e w2 hp
  rw [taken_taken] at hp
  have HN := Lib.hid (hp.after HCG.out HPL.out)
  obtain ⟨rfl, _⟩ := hp
  go_wp2
  go_end0
  exact HN.out
theorem wLen (p : Option Addr) (base : Nat) (v : Value) (l : List UInt8) (w : World) (h : Wr w p base v l) :
    Calls Try.prog 15 #[.pointer p] w fun e w' => e = .returned (.int .i64 (l.length : Nat)) ∧ w = w' := by
  rcases h with ⟨rfl, rfl, rfl⟩ | ⟨g, rfl, h⟩
  · go_enter Try.func15, Try.ntmps15
    go_wp2
    go_ret
    exact ⟨rfl, rfl⟩
  · have c0 := cell_of_one h.block
    obtain ⟨a, c, rfl⟩ := h.own.form
    clear h
    go_enter Try.func15, Try.ntmps15
    go_wp2
    go_ret
    exact ⟨rfl, rfl⟩
theorem wBytes (p : Option Addr) (base : Nat) (v : Value) (l : List UInt8) (w : World) (h : Wr w p base v l) (hsm : l.length ≤ 10000000) :
    Calls Try.prog 16 #[.pointer p] w (Gives w l) := by
  rcases h with ⟨rfl, rfl, rfl⟩ | ⟨g, rfl, h⟩
  · go_enter Try.func16, Try.ntmps16
    go_wp2
    go_ret
    exact ⟨_, rfl, OwnBytes.nil _ _, Below.refl _ _⟩
  · have c0 := cell_of_one h.block
    have HB := Lib.hid h.own.bytesAt
    obtain ⟨a, c, rfl⟩ := h.own.form
    clear h
    go_enter Try.func16, Try.ntmps16
    go_wp2_with (go_at_call 43; refine (clone_any _ l _ HB.out (by omega)).mono ?_; rintro e w1 ⟨v1, rfl, hown, hbel⟩; have HF := Lib.hid (And.intro hown hbel); clear hown hbel)
    go_ret
    exact ⟨_, rfl, HF.out⟩
/-- a new writer -/
theorem new_writer (w : World) : Calls Try.prog 12 #[] w fun e w' => e = .returned (.pointer (some ⟨w.heap.size, 0, none⟩)) ∧ Wr w' (some ⟨w.heap.size, 0, none⟩) (w.heap.size + 1) (.slice none 0 0) [] ∧ Chg [] w w' := by
  have HF : Hid (Wr (w.alloc (.cells #[.slice none 0 0] 29)) (some ⟨w.heap.size, 0, none⟩) (w.heap.size + 1) (.slice none 0 0) [] ∧ Chg [] w (w.alloc (.cells #[.slice none 0 0] 29))) :=
    ⟨.inr ⟨_, rfl, heap_alloc_new w _, OwnBytes.nil _ _, by omega, by simp⟩, (Chg.refl _ _).alloc _⟩
  go_enter Try.func12, Try.ntmps12
  go_wp2
  go_ret
  exact ⟨rfl, HF.out⟩
/-- numbers, one behind another -/
def nums (xs : List Nat) : List UInt8 := (xs.map short).flatten
theorem nums_snoc (xs : List Nat) (k : Nat) (h : k < xs.length) : nums (xs.take (k + 1)) = nums (xs.take k) ++ short (xs.getD k 0) := by
  unfold nums
  rw [List.take_succ_eq_append_getElem h, List.map_append, List.flatten_append, List.getD_eq_getElem?_getD, List.getElem?_eq_getElem h]
  simp
theorem nums_length (xs : List Nat) : (nums xs).length ≤ 10 * xs.length := by
  induction xs with
  | nil => simp [nums]
  | cons x xs ih =>
    have := (short_length x).2
    simp only [nums, List.map_cons, List.flatten_cons, List.length_append, List.length_cons] at ih ⊢
    omega
def PutAt (w wr : World) (p : Option Addr) (base : Nat) (v : Value) (l : List UInt8) (xs : List Nat) (k : Nat) : Prop :=
  ∃ v', Wr wr p base v' (taken p l (nums (xs.take k))) ∧ Chg (wset p v) w wr ∧ Placed w v v'
set_option maxRecDepth 100000 in
set_option maxHeartbeats 400000 in
theorem wPut (p : Option Addr) (base : Nat) (v : Value) (l : List UInt8) (xs : List Nat) (b c : Nat) (w : World) (h : Wr w p base v l) (hl : l.length ≤ 100000) (hx : ∀ x ∈ xs, x < 18446744073709551616) (hxs : xs.length ≤ 1000)
    (hb : b < w.heap.size) (hbn : b ∉ wset p v) (hc : ∀ j, j < xs.length → w.cell? ⟨b, j, none⟩ = some (.int .u64 (xs.getD j 0 : Nat))) :
    Calls Try.prog 35 #[.pointer p, .slice (some ⟨b, 0, none⟩) xs.length c] w (WPost p base v (taken p l (nums xs)) w) := by
  have H0 : Hid (PutAt w w p base v l xs 0) := ⟨v, by rw [List.take_zero]; show Wr w p base v (taken p l []); rw [taken_nil h]; exact h, Chg.refl _ _, Placed.refl _ _⟩
  have HC : Hid (∀ wr, Chg (wset p v) w wr → ∀ j, j < xs.length → wr.cell? ⟨b, j, none⟩ = some (.int .u64 (xs.getD j 0 : Nat))) := fun wr hch j hj => by
    rw [← hc j hj]; exact World.cell?_of_block (hch.block b hb hbn)
  have HX := Lib.hid hx
  clear h hc hx hbn hb
  go_enter Try.func35, Try.ntmps35
  go_wp2
  go_loopw [8] (fun i wr => ∃ k : Nat, k ≤ xs.length ∧ i = .int .i64 (k : Nat) ∧ Hid (PutAt w wr p base v l xs k)) (fun i _ => xs.length - (intOf i).toNat)
  case atStart => exact ⟨0, Nat.zero_le _, rfl, H0.out⟩
  case round =>
    obtain ⟨k, hk, rfl, HP⟩ := hrel
    clear H0
    by_cases hlt : k < xs.length
    · obtain ⟨v1, hw1, hc1, hp1⟩ := HP.out
      have hcell := HC.out wr hc1 k hlt
      have hxk : xs.getD k 0 < 18446744073709551616 := by
        rw [List.getD_eq_getElem?_getD, List.getElem?_eq_getElem hlt]; exact HX.out _ (List.getElem_mem hlt)
      have hsn := nums_snoc xs k hlt
      generalize hX : xs.getD k 0 = X at hcell hxk hsn
      have h1 := taken_length p l (nums (xs.take k))
      have h2 := nums_length (xs.take k)
      have h3 : (xs.take k).length ≤ k := by simp; omega
      have HU : Hid (Calls Try.prog 39 #[.pointer p, .int .u64 (X : Nat)] wr (WPost p base v1 (taken p (taken p l (nums (xs.take k))) (short X)) wr)) := wUint p base v1 _ X hxk wr hw1 (by omega)
      have HC1 := Lib.hid hc1
      have HP1 := Lib.hid hp1
      have HS := Lib.hid hsn
      clear hw1 hc1 hp1 hxk hsn hX h1 h2 h3 HP
      go_wp2_with fail
      refine HU.out.mono ?_
      rintro e w1 hp
      rw [taken_taken, ← HS.out] at hp
      have HN := Lib.hid (hp.after HC1.out HP1.out)
      obtain ⟨rfl, _⟩ := hp
      have HN2 : Hid (PutAt w w1 p base v l xs (k + 1)) := by
        obtain ⟨_, h⟩ := HN.out; exact h
      go_wp2
      go_roundw
      case rel => exact ⟨k + 1, by omega, by go_num, HN2.out⟩
      case measure => simp [intOf]; omega
    · obtain rfl : k = xs.length := by omega
      have HN2 : Hid (WPost p base v (taken p l (nums xs)) w (.returned (.tuple #[])) wr) := by
        have h := HP.out
        unfold PutAt at h
        rw [List.take_length] at h
        exact ⟨rfl, h⟩
      clear HP
      go_wp2
      go_end0
      exact HN2.out
end Go.Proofs.Ytniogemgkcoimaa
