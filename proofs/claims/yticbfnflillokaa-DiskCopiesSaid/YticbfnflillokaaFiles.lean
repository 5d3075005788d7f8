/- A shelf's map, and its files' walks: size, has, set, move, drop. -/
import Derived.Test.YticbfnflillokaaNames
import Derived.StillTailTactics
namespace Go.Proofs.Yticbfnflillokaa
open Go.RowKit Go.Maps Go.WideMaps
/-- a slice's address, length, capacity -/
abbrev Sl := Option Addr × Nat × Nat
def slv (s : Sl) : Value := .slice s.1 s.2.1 s.2.2
abbrev noSl : Sl := (none, 0, 0)
def rawElem (v : Value) : Option (DataW Value × List MemPlace) := match v with | .slice a n c => some (.held (.slice a n c), []) | _ => none
theorem rawElem_mk (s : Sl) : rawElem (slv s) = some (.held (slv s), []) := rfl
theorem rawElem_inv {v : Value} {y : DataW Value × List MemPlace} (h : rawElem v = some y) : ∃ s, v = slv s ∧ y = (.held (slv s), []) := by
  cases v <;> simp [rawElem] at h
  rename_i a n c
  exact ⟨(a, n, c), rfl, h.symm⟩
theorem law : Keyed Try.prog 9 := string_keyed Try.underlying9
theorem zero31 (w : World) : (zeroValue 31).run Try.prog w = .ok (.slice none 0 0) w := by kernel_rfl
/-- block b is a map with the slices M, of n entries at most -/
def RMap (w : World) (b n : Nat) (M : Bs → Option Sl) : Prop := ∃ D, w.ownsMap Try.prog 9 rawElem b n D ∧ ∀ k, (M k = none → has D (.string k) = false) ∧ ∀ s, M k = some s → ∀ z, D.atKey (.string k) z = .held (slv s)
def upd (M : Bs → Option Sl) (k : Bs) (s : Option Sl) : Bs → Option Sl := fun n => if n = k then s else M n
theorem RMap.chg {w w' : World} {b n : Nat} {M : Bs → Option Sl} {S : Nat → Prop} (h : RMap w b n M) (hc : Chg S w w') (hb : ¬ S b) : RMap w' b n M := by
  obtain ⟨D, ⟨es, clock, hh, r⟩, h2⟩ := h
  exact ⟨D, ⟨es, clock, hc.heap hh hb, r⟩, h2⟩
theorem RMap.lt {w : World} {b n : Nat} {M : Bs → Option Sl} (h : RMap w b n M) : b < w.heap.size := by obtain ⟨D, h, _⟩ := h; exact h.lt
theorem RMap.mono {w : World} {b n n' : Nat} {M : Bs → Option Sl} (h : RMap w b n M) (hn : n ≤ n') : RMap w b n' M := by obtain ⟨D, h, k⟩ := h; exact ⟨D, h.mono hn, k⟩
theorem RMap.notCells {w : World} {b n : Nat} {M : Bs → Option Sl} (h : RMap w b n M) {cs : Array Value} {t : TypeId} {f : Nat × Nat} (hc : w.heap[b]? = some (.cells cs t f)) : False := by
  obtain ⟨D, ⟨es, clock, hh, _⟩, _⟩ := h
  rw [hh] at hc; cases hc
theorem RMap.look {w : World} {b n : Nat} {M : Bs → Option Sl} (h : RMap w b n M) {k : Bs} (hk : keyOf Try.prog 9 (.string ⟨k.toArray⟩) = some (.string k)) :
    (Instr.lookup 39 (.map (some b)) (.string ⟨k.toArray⟩) false).run Try.prog w = .ok (slv ((M k).getD noSl)) w := by
  obtain ⟨D, h, hM⟩ := h
  obtain ⟨v, ps, hrun, hv⟩ := h.lookup law Try.underlying39 (zero31 w) (rawElem_mk noSl) hk
  obtain ⟨s, rfl, hs⟩ := rawElem_inv hv
  simp only [Prod.mk.injEq] at hs
  rw [hrun]
  cases hm : M k with
  | none =>
    rw [atKey_of_not_has ((hM k).1 hm)] at hs
    have e : slv s = slv noSl := (DataW.held.inj hs.1).symm
    rw [e]; rfl
  | some s' =>
    rw [(hM k).2 s' hm] at hs
    have e : slv s = slv s' := (DataW.held.inj hs.1).symm
    rw [e]; rfl
theorem RMap.look2 {w : World} {b n : Nat} {M : Bs → Option Sl} (h : RMap w b n M) {k : Bs} (hk : keyOf Try.prog 9 (.string ⟨k.toArray⟩) = some (.string k)) :
    (Instr.lookup 39 (.map (some b)) (.string ⟨k.toArray⟩) true).run Try.prog w = .ok (.tuple #[slv ((M k).getD noSl), .bool (M k).isSome]) w := by
  have hl := h.look hk
  obtain ⟨D, h, hM⟩ := h
  obtain ⟨v, ps, hrun, hv⟩ := h.look_ok law Try.underlying39 (zero31 w) (rawElem_mk noSl) hk
  obtain ⟨s, rfl, hs⟩ := rawElem_inv hv
  simp only [Prod.mk.injEq] at hs
  rw [hrun]
  cases hm : M k with
  | none =>
    rw [atKey_of_not_has ((hM k).1 hm)] at hs
    have e : slv s = slv noSl := (DataW.held.inj hs.1).symm
    rw [e, (hM k).1 hm]; rfl
  | some s' =>
    rw [(hM k).2 s' hm] at hs
    have e : slv s = slv s' := (DataW.held.inj hs.1).symm
    rw [e, has_true_of_atKey ((hM k).2 s' hm)]; rfl
theorem RMap.put {w : World} {b n : Nat} {M : Bs → Option Sl} {D : DataW Value} (hM : ∀ k, (M k = none → has D (.string k) = false) ∧ ∀ s, M k = some s → ∀ z, D.atKey (.string k) z = .held (slv s)) (hi : IsMap D) {k : Bs} (hk : WideAt.IsKeyLit (.string k)) (s : Sl) (h : w.ownsMap Try.prog 9 rawElem b n (D.put (.string k) (.held (slv s)))) : RMap w b n (upd M k (some s)) := by
  refine ⟨_, h, fun m => ?_⟩
  unfold upd
  by_cases e : m = k
  · rw [if_pos e]; subst e
    refine ⟨(fun h => by cases h), fun s' h z => ?_⟩
    cases h
    exact atKey_put_same hi hk _ _
  · rw [if_neg e]
    have hne : (Lit.string m) ≠ .string k := fun h => e (by injection h)
    exact ⟨fun h => by rw [has_put_other hne]; exact (hM m).1 h, fun s' h z => by rw [atKey_put_other hne]; exact (hM m).2 s' h z⟩
theorem RMap.strike {w : World} {b n : Nat} {M : Bs → Option Sl} {D : DataW Value} (hM : ∀ k, (M k = none → has D (.string k) = false) ∧ ∀ s, M k = some s → ∀ z, D.atKey (.string k) z = .held (slv s)) {k : Bs} (h : w.ownsMap Try.prog 9 rawElem b n (D.del (.string k))) : RMap w b n (upd M k none) := by
  refine ⟨_, h, fun m => ?_⟩
  unfold upd
  by_cases e : m = k
  · rw [if_pos e]; subst e
    exact ⟨fun _ => has_del_same, (fun s' h => by cases h)⟩
  · rw [if_neg e]
    have hne : (Lit.string m) ≠ .string k := fun h => e (by injection h)
    exact ⟨fun h => by rw [has_del_other hne]; exact (hM m).1 h, fun s' h z => by rw [atKey_del_other hne]; exact (hM m).2 s' h z⟩
theorem wpList_set {w : World} {ops : Array Oper} {rest : List Oper} {o : Oper} {a : Act} {Q : Exit → Act → World → Prop} (hg : o.guard = none) (m x v : Operand) (hop : o.op = Op.mapUpdate 39 m x v)
    (b n : Nat) (M : Bs → Option Sl) (hm : a.eval m = .map (some b)) (hM : RMap w b n M) (hn : n ≤ 1000000) (k : Bs) (hx : a.eval x = .string ⟨k.toArray⟩) (s : Sl) (hv : a.eval v = slv s) (hk : keyOf Try.prog 9 (.string ⟨k.toArray⟩) = some (.string k))
    (hK : ∀ w', RMap w' b (n + 1) (upd M k (some s)) → Chg (fun i => i = b) w w' → wpList Try.prog ops Q rest (a.put o.dst undef) w') : wpList Try.prog ops Q (o :: rest) a w := by
  obtain ⟨D, h, hD⟩ := hM
  refine wpList_mapUpdate_own w hg m x v 39 hop 9 31 law Try.underlying39 rawElem b n D hm h (by unfold maxLen; omega) _ _ (.string k) hx hv hk _ [] (rawElem_mk s) fun w' h1 h2 => hK w' (RMap.put hD h.isMap (law.key hk) s h1) ((Chg.refl _ _).grown h2 fun i hi => .inl (by cases hi; rfl))
theorem wpList_strike {w : World} {ops : Array Oper} {rest : List Oper} {o : Oper} {a : Act} {Q : Exit → Act → World → Prop} (hg : o.guard = none) (m x : Operand) (hop : o.op = Op.call { callee := Callee.builtin Builtin.delete, args := #[m, x], argTypes := #[39, 9] })
    (b n : Nat) (M : Bs → Option Sl) (hm : a.eval m = .map (some b)) (hM : RMap w b n M) (k : Bs) (hx : a.eval x = .string ⟨k.toArray⟩) (hk : keyOf Try.prog 9 (.string ⟨k.toArray⟩) = some (.string k))
    (hK : ∀ w', RMap w' b n (upd M k none) → Chg (fun i => i = b) w w' → wpList Try.prog ops Q rest (a.put o.dst (.tuple #[])) w') : wpList Try.prog ops Q (o :: rest) a w := by
  obtain ⟨D, h, hD⟩ := hM
  refine wpList_delete_own w hg m x 39 9 hop 31 law Try.underlying39 rawElem b n D hm h _ (.string k) hx hk fun w' h1 h2 => hK w' (RMap.strike hD h1) ((Chg.refl _ _).grown h2.grown fun i hi => .inl (by cases hi; rfl))
theorem Chg.one (w : World) (p : Addr) (v : Value) : Chg (fun i => i = p.block) w (w.setCell p v) := (Chg.refl (fun i => i = p.block) w).setCell (p := p) (.inl rfl) v
theorem wrap_small {z : Int} (h0 : -9223372036854775808 ≤ z) (h1 : z ≤ 9223372036854775807) : wrap64 z = z := by unfold wrap64; omega
theorem cell_ne (w : World) (p i j : Nat) (v : Value) (h : i ≠ j) : (w.setCell ⟨p, i, none⟩ v).cell? ⟨p, j, none⟩ = w.cell? ⟨p, j, none⟩ := by
  apply World.cell?_setCell_other
  intro e
  injection e with _ e
  exact h e
/-- how many bytes a shelf's file has -/
def lenOf (M : Bs → Option Sl) (k : Bs) : Nat := ((M k).getD noSl).2.1
set_option maxRecDepth 100000 in
theorem size_any (p o bm n : Nat) (M : Bs → Option Sl) (k : Bs) (w : World) (c0 : w.cell? ⟨p, o, none⟩ = some (.map (some bm))) (hM : RMap w bm n M) (hk : keyOf Try.prog 9 (.string ⟨k.toArray⟩) = some (.string k)) :
    Calls Try.prog 56 #[.pointer (some ⟨p, o, none⟩), .string ⟨k.toArray⟩] w fun e w' => e = .returned (.int .i64 (lenOf M k : Nat)) ∧ w' = w := by
  have hl := hM.look hk
  unfold lenOf
  obtain ⟨⟨a, L, c⟩, hs⟩ : ∃ s, s = (M k).getD noSl := ⟨_, rfl⟩
  rw [← hs] at hl ⊢
  unfold slv at hl
  dsimp only at hl ⊢
  clear hM hs
  go_enter Try.func56, Try.ntmps56
  go_wp2
  go_ret
  exact ⟨rfl, rfl⟩
set_option maxRecDepth 100000 in
theorem has_any (p o bm n : Nat) (M : Bs → Option Sl) (k : Bs) (w : World) (c0 : w.cell? ⟨p, o, none⟩ = some (.map (some bm))) (hM : RMap w bm n M) (hk : keyOf Try.prog 9 (.string ⟨k.toArray⟩) = some (.string k)) :
    Calls Try.prog 71 #[.pointer (some ⟨p, o, none⟩), .string ⟨k.toArray⟩] w fun e w' => e = .returned (.bool (M k).isSome) ∧ w' = w := by
  have hl := hM.look2 hk
  obtain ⟨u, hu⟩ : ∃ u, u = slv ((M k).getD noSl) := ⟨_, rfl⟩
  rw [← hu] at hl
  clear hM hu
  go_enter Try.func71, Try.ntmps71
  go_wp2
  go_ret
  exact ⟨rfl, rfl⟩
/-- block p holds what it held, but for one cell -/
def CellSet (w w' : World) (p o : Nat) (x : Value) : Prop := ∀ cs ty, w.heap[p]? = some (.cells cs ty (0, 0)) → w'.heap[p]? = some (.cells (cs.setIfInBounds o x) ty (0, 0))
/-- a shelf's cells -/
def ShP (w : World) (p o bm T : Nat) : Prop := ∃ cs ty, w.heap[p]? = some (.cells cs ty (0, 0)) ∧ cs[o]? = some (.map (some bm)) ∧ cs[o + 1]? = some (.int .i64 (T : Nat))
theorem ShP.c0 {w : World} {p o bm T : Nat} (h : ShP w p o bm T) : w.cell? ⟨p, o, none⟩ = some (.map (some bm)) := by
  obtain ⟨cs, ty, h, h0, _⟩ := h; rw [Go.Joins.cell_of_block h]; exact h0
theorem ShP.c1 {w : World} {p o bm T : Nat} (h : ShP w p o bm T) : w.cell? ⟨p, o + 1, none⟩ = some (.int .i64 (T : Nat)) := by
  obtain ⟨cs, ty, h, _, h0⟩ := h; rw [Go.Joins.cell_of_block h]; exact h0
theorem ShP.f1 {w : World} {p o bm T : Nat} (h : ShP w p o bm T) (i : Nat) : w.frozen? ⟨p, i, none⟩ = false := by
  obtain ⟨cs, ty, h, _⟩ := h; simp [World.frozen?, h]
theorem ShP.lt {w : World} {p o bm T : Nat} (h : ShP w p o bm T) : p < w.heap.size := by obtain ⟨cs, ty, h, _⟩ := h; exact lt_of_block h
theorem ShP.set {w w' : World} {p o bm T T' : Nat} (h : ShP w p o bm T) (k : CellSet w w' p (o + 1) (.int .i64 (T' : Nat))) : ShP w' p o bm T' := by
  obtain ⟨cs, ty, h, h0, h1⟩ := h
  refine ⟨_, ty, k cs ty h, ?_, ?_⟩
  · rw [Array.getElem?_setIfInBounds_ne (by omega)]; exact h0
  · rw [Array.getElem?_setIfInBounds_self_of_lt (Array.getElem?_eq_some_iff.1 h1).1]
theorem CellSet.twice {w w1 w2 : World} {p o : Nat} {x y : Value} (h : CellSet w w1 p o x) (k : CellSet w1 w2 p o y) : CellSet w w2 p o y := fun cs ty hc => by
  have := k _ _ (h cs ty hc)
  rwa [Array.setIfInBounds_setIfInBounds] at this
theorem ShP.chg {w w' : World} {p o bm T : Nat} {S : Nat → Prop} (h : ShP w p o bm T) (hc : Chg S w w') (hp : ¬ S p) : ShP w' p o bm T := by
  obtain ⟨cs, ty, h, r⟩ := h; exact ⟨cs, ty, hc.heap h hp, r⟩
theorem CellSet.chg {w w1 w2 : World} {p o : Nat} {x : Value} {S : Nat → Prop} (hc : Chg S w w1) (hp : ¬ S p) (k : CellSet w1 w2 p o x) : CellSet w w2 p o x := fun cs ty h => k cs ty (hc.heap h hp)
set_option maxRecDepth 100000 in
theorem set_any (p o bm n T T' : Nat) (M : Bs → Option Sl) (k : Bs) (s : Sl) (w : World) (hsh : ShP w p o bm T)
    (hM : RMap w bm n M) (hn : n ≤ 1000000) (hp : p ≠ bm) (hk : keyOf Try.prog 9 (.string ⟨k.toArray⟩) = some (.string k)) (hT : T' + lenOf M k = T + s.2.1) (h1 : T ≤ 1000000) (h2 : s.2.1 ≤ 1000000) (h3 : lenOf M k ≤ 1000000) :
    Calls Try.prog 58 #[.pointer (some ⟨p, o, none⟩), .string ⟨k.toArray⟩, slv s] w fun e w' => e = .returned (.tuple #[]) ∧ RMap w' bm (n + 1) (upd M k (some s)) ∧ Chg (fun i => i = bm ∨ i = p) w w' ∧ CellSet w w' p (o + 1) (.int .i64 (T' : Nat)) := by
  have c0 := hsh.c0
  have c1 := hsh.c1
  have f1 := hsh.f1 (o + 1)
  have HS := Lib.hid (size_any p o bm n M k w.drew c0 hM hk)
  clear hsh
  obtain ⟨z, hz⟩ : ∃ z, lenOf M k = z := ⟨_, rfl⟩
  rw [hz] at hT h3 HS
  obtain ⟨a, L, c⟩ := s
  unfold slv
  dsimp only at *
  have HT := Lib.hid hT
  clear hT
  have HM : Hid (RMap w.drew bm n M) := hM
  have HC : Hid (Chg (fun i => i = bm ∨ i = p) w w.drew) := (Chg.refl _ _).drew
  have HP : Hid (∀ cs ty, w.heap[p]? = some (.cells cs ty (0, 0)) → w.drew.heap[p]? = some (.cells cs ty (0, 0))) := fun _ _ h => h
  have d0 : w.drew.cell? ⟨p, o, none⟩ = some (.map (some bm)) := c0
  have d1 : w.drew.cell? ⟨p, o + 1, none⟩ = some (.int .i64 (T : Nat)) := c1
  have g1 : w.drew.frozen? ⟨p, o + 1, none⟩ = false := f1
  clear hM
  go_enter Try.func58, Try.ntmps58
  go_wp2_with fail
  go_still_tail 13, (by kernel_rfl)
  still_call HS.out
  repeat still_step
  refine wpStill_nil ?_
  change wpList _ _ _ _ _ w.drew
  clear HS c0 c1 f1
  generalize w.drew = w1 at HM HC HP d0 d1 g1 ⊢
  have eT : ((T : Int) + ((L : Int) - z)) = (T' : Nat) := by have := HT.out; omega
  have e0 : wrap64 ((T : Int) + ((L : Int) - z)) = (T' : Nat) := by rw [eT]; exact wrap_small (by omega) (by have := HT.out; omega)
  have HM1 : Hid (RMap (w1.setCell ⟨p, o + 1, none⟩ (.int .i64 (T' : Nat))) bm n M) := HM.out.chg (Chg.one w1 ⟨p, o + 1, none⟩ _) (Ne.symm hp)
  have b0 : (w1.setCell ⟨p, o + 1, none⟩ (.int .i64 (T' : Nat))).cell? ⟨p, o, none⟩ = some (.map (some bm)) :=
    (cell_ne w1 p (o + 1) o _ (by omega)).trans d0
  clear HM
  go_wp2_with (first | (at_mapUpdate; refine wpList_set rfl _ _ _ rfl bm n M rfl HM1.out hn k rfl (a, L, c) rfl hk ?_; intro w2 hM2 hC2; have HM2 := Lib.hid hM2; have HC2 := Lib.hid hC2; clear hM2 hC2) | go_in)
  refine bodyPost_end (results_none rfl _ _ _) rfl ?_
  refine ⟨rfl, HM2.out, (HC.out.setCell (p := ⟨p, o + 1, none⟩) (.inl (.inr rfl)) _).then HC2.out fun i hi => .inl (.inl hi), fun cs ty h => ?_⟩
  exact HC2.out.heap (Go.Joins.block_setCell (HP.out cs ty h) _) hp
set_option maxRecDepth 100000 in
theorem drop_any (p o bm n T T' : Nat) (M : Bs → Option Sl) (k : Bs) (w : World) (hsh : ShP w p o bm T)
    (hM : RMap w bm n M) (hp : p ≠ bm) (hk : keyOf Try.prog 9 (.string ⟨k.toArray⟩) = some (.string k)) (hT : T' + lenOf M k = T) (h1 : T ≤ 1000000) :
    Calls Try.prog 62 #[.pointer (some ⟨p, o, none⟩), .string ⟨k.toArray⟩] w fun e w' => e = .returned (.tuple #[]) ∧ RMap w' bm n (upd M k none) ∧ Chg (fun i => i = bm ∨ i = p) w w' ∧ CellSet w w' p (o + 1) (.int .i64 (T' : Nat)) := by
  have c0 := hsh.c0
  have c1 := hsh.c1
  have f1 := hsh.f1 (o + 1)
  have HS := Lib.hid (size_any p o bm n M k w.drew c0 hM hk)
  clear hsh
  obtain ⟨z, hz⟩ : ∃ z, lenOf M k = z := ⟨_, rfl⟩
  rw [hz] at hT HS
  have HT := Lib.hid hT
  have h3 : z ≤ 1000000 := by omega
  clear hT
  have HM : Hid (RMap w.drew bm n M) := hM
  have HC : Hid (Chg (fun i => i = bm ∨ i = p) w w.drew) := (Chg.refl _ _).drew
  have HP : Hid (∀ cs ty, w.heap[p]? = some (.cells cs ty (0, 0)) → w.drew.heap[p]? = some (.cells cs ty (0, 0))) := fun _ _ h => h
  have d0 : w.drew.cell? ⟨p, o, none⟩ = some (.map (some bm)) := c0
  have d1 : w.drew.cell? ⟨p, o + 1, none⟩ = some (.int .i64 (T : Nat)) := c1
  have g1 : w.drew.frozen? ⟨p, o + 1, none⟩ = false := f1
  clear hM
  go_enter Try.func62, Try.ntmps62
  go_wp2_with fail
  go_still_tail 10, (by kernel_rfl)
  still_call HS.out
  repeat still_step
  refine wpStill_nil ?_
  change wpList _ _ _ _ _ w.drew
  clear HS c0 c1 f1
  generalize w.drew = w1 at HM HC HP d0 d1 g1 ⊢
  have eT : ((T : Int) - z) = (T' : Nat) := by have := HT.out; omega
  have e0 : wrap64 ((T : Int) - z) = (T' : Nat) := by rw [eT]; exact wrap_small (by omega) (by have := HT.out; omega)
  have HM1 : Hid (RMap (w1.setCell ⟨p, o + 1, none⟩ (.int .i64 (T' : Nat))) bm n M) := HM.out.chg (Chg.one w1 ⟨p, o + 1, none⟩ _) (Ne.symm hp)
  have b0 : (w1.setCell ⟨p, o + 1, none⟩ (.int .i64 (T' : Nat))).cell? ⟨p, o, none⟩ = some (.map (some bm)) :=
    (cell_ne w1 p (o + 1) o _ (by omega)).trans d0
  clear HM
  go_wp2_with (first | (at_delete; refine wpList_strike rfl _ _ rfl bm n M rfl HM1.out k rfl hk ?_; intro w2 hM2 hC2; have HM2 := Lib.hid hM2; have HC2 := Lib.hid hC2; clear hM2 hC2) | go_in)
  refine bodyPost_end (results_none rfl _ _ _) rfl ?_
  refine ⟨rfl, HM2.out, (HC.out.setCell (p := ⟨p, o + 1, none⟩) (.inl (.inr rfl)) _).then HC2.out fun i hi => .inl (.inl hi), fun cs ty h => ?_⟩
  exact HC2.out.heap (Go.Joins.block_setCell (HP.out cs ty h) _) hp
theorem upd_other {M : Bs → Option Sl} {k m : Bs} {s : Option Sl} (h : m ≠ k) : upd M k s m = M m := if_neg h
set_option maxRecDepth 100000 in
theorem move_any (p o bm n T T' : Nat) (M : Bs → Option Sl) (k m : Bs) (w : World) (hsh : ShP w p o bm T)
    (hM : RMap w bm n M) (hn : n ≤ 1000000) (hp : p ≠ bm) (hk : keyOf Try.prog 9 (.string ⟨k.toArray⟩) = some (.string k)) (hm : keyOf Try.prog 9 (.string ⟨m.toArray⟩) = some (.string m)) (hne : k ≠ m) (hT : T' + lenOf M m = T) (h1 : T ≤ 1000000) (h3 : lenOf M k ≤ 1000000) :
    Calls Try.prog 60 #[.pointer (some ⟨p, o, none⟩), .string ⟨k.toArray⟩, .string ⟨m.toArray⟩] w fun e w' => e = .returned (.tuple #[]) ∧ RMap w' bm (n + 1) (upd (upd M m (some ((M k).getD noSl))) k none) ∧ Chg (fun i => i = bm ∨ i = p) w w' ∧ CellSet w w' p (o + 1) (.int .i64 (T' : Nat)) := by
  have c0 := hsh.c0
  have hl := hM.look hk
  have HS := Lib.hid (set_any p o bm n T (T' + lenOf M k) M m ((M k).getD noSl) w hsh hM hn hp hm (by show T' + lenOf M k + lenOf M m = T + lenOf M k; omega) h1 h3 (by omega))
  have HSH := Lib.hid hsh
  have hq : lenOf (upd M m (some ((M k).getD noSl))) k = lenOf M k := by unfold lenOf; rw [upd_other hne]
  obtain ⟨M1, hM1⟩ : ∃ M1, M1 = upd M m (some ((M k).getD noSl)) := ⟨_, rfl⟩
  rw [← hM1] at HS hq ⊢
  obtain ⟨u, hu⟩ : ∃ u, u = slv ((M k).getD noSl) := ⟨_, rfl⟩
  rw [← hu] at hl HS
  obtain ⟨L, hL⟩ : ∃ L, lenOf M k = L := ⟨_, rfl⟩
  rw [hL] at HS hq h3
  clear hsh hM hu hM1 hL
  have HK := Lib.hid hk
  go_enter Try.func60, Try.ntmps60
  go_wp2_with fail
  refine HS.out.mono ?_
  rintro e w1 ⟨rfl, hM1, hC1, hS1⟩
  have hsh1 := HSH.out.set hS1
  have d0 : w1.drew.cell? ⟨p, o, none⟩ = some (.map (some bm)) := hsh1.c0
  have d1 : w1.drew.cell? ⟨p, o + 1, none⟩ = some (.int .i64 ((T' + L : Nat) : Int)) := hsh1.c1
  have g1 : w1.drew.frozen? ⟨p, o + 1, none⟩ = false := hsh1.f1 _
  have e0' : w1.cell? ⟨p, o, none⟩ = some (.map (some bm)) := hsh1.c0
  have e1' : w1.cell? ⟨p, o + 1, none⟩ = some (.int .i64 ((T' + L : Nat) : Int)) := hsh1.c1
  have HS2 := Lib.hid (size_any p o bm (n + 1) M1 k w1.drew d0 hM1 hk)
  rw [hq] at HS2
  have HM2 : Hid (RMap w1.drew bm (n + 1) M1) := hM1
  have HC2 : Hid (Chg (fun i => i = bm ∨ i = p) w w1.drew) := hC1.drew
  have HX2 : Hid (CellSet w w1.drew p (o + 1) (.int .i64 ((T' + L : Nat) : Int))) := hS1
  clear hM1 hC1 hS1 hsh1 HS HSH hl c0
  go_wp2_with fail
  go_still_tail 10, (by kernel_rfl)
  still_call HS2.out
  repeat still_step
  refine wpStill_nil ?_
  change wpList _ _ _ _ _ w1.drew
  clear HS2 e0' e1'
  generalize w1.drew = w3 at HM2 HC2 HX2 d0 d1 g1 ⊢
  have eT : (((T' + L : Nat) : Int) - L) = (T' : Nat) := by omega
  have e0 : wrap64 (((T' + L : Nat) : Int) - L) = (T' : Nat) := by rw [eT]; exact wrap_small (by omega) (by omega)
  have HM3 : Hid (RMap (w3.setCell ⟨p, o + 1, none⟩ (.int .i64 (T' : Nat))) bm (n + 1) M1) := HM2.out.chg (Chg.one w3 ⟨p, o + 1, none⟩ _) (Ne.symm hp)
  have b0 : (w3.setCell ⟨p, o + 1, none⟩ (.int .i64 (T' : Nat))).cell? ⟨p, o, none⟩ = some (.map (some bm)) :=
    (cell_ne w3 p (o + 1) o _ (by omega)).trans d0
  clear HM2
  go_wp2_with (first | (at_delete; refine wpList_strike rfl _ _ rfl bm (n + 1) M1 rfl HM3.out k rfl hk ?_; intro w4 hM4 hC4; have HM4 := Lib.hid hM4; have HC4 := Lib.hid hC4; clear hM4 hC4) | go_in)
  refine bodyPost_end (results_none rfl _ _ _) rfl ?_
  refine ⟨rfl, HM4.out, (HC2.out.setCell (p := ⟨p, o + 1, none⟩) (.inl (.inr rfl)) _).then HC4.out fun i hi => .inl (.inl hi), HX2.out.twice fun cs ty h => ?_⟩
  exact HC4.out.heap (Go.Joins.block_setCell h _) hp
end Go.Proofs.Yticbfnflillokaa
