/- A map that counts places: what it reads as, a look-up, one more. -/
import Derived.Test.YtnfjhpdpeihheaaBase
import Derived.Maps.OwnSet
import Derived.WideKeyEntry
import Derived.DeepKeys4
namespace Go.Proofs.Ytnfjhpdpeihheaa
open Go.RowKit Go.Maps
open Go.WideElems (Fit)
open Go.ChangeMaps (setBlock)
theorem laidTwo : laidOutB Try.prog = true := by kernel_rfl
theorem row38 : 38 < Try.prog.types.size := of_decide_eq_true (by kernel_rfl)
theorem law38 : Go.WideMaps.KeyLaw Try.prog 38 := deep_law_laid laidTwo (m := 3) (by omega) row38 (by kernel_rfl) (by kernel_rfl)
theorem keyed38 : Keyed Try.prog 38 := Keyed.of_law law38
theorem keyType38 : Try.prog.keyType 38 = true := by kernel_rfl
theorem formed38 (a b : Value) : (Value.agg #[a, b]).formed Try.prog 38 = true := by kernel_rfl
theorem size38 : ∃ n, Try.prog.types.size + 1 = n + 2 := ⟨Try.prog.types.size - 1, by have := row38; omega⟩
theorem cellsOf38 : Try.prog.cellsOf 38 = 2 := by kernel_rfl
theorem cellsOf3 : Try.prog.cellsOf 3 = 1 := by kernel_rfl
theorem cellsOf22 : Try.prog.cellsOf 22 = 1 := by kernel_rfl
/-- what a place reads as, as a key -/
theorem key_some (p : PL) (h : p.ok) : ∃ k, keyOf Try.prog 38 p.val = some k := by
  obtain ⟨n, hn⟩ := size38
  obtain ⟨⟨h1, h2⟩, h3, h4⟩ := h
  have w1 : (Lit.int .i64 p.n).wf = true := WalkArith.wf_i64 ⟨h1, h2⟩
  have w2 : (Lit.int .u64 p.s).wf = true := by
    simp [Lit.wf, IntKind.min, IntKind.max, IntKind.signed, IntKind.bits]
    omega
  have e3 : Try.prog.keyLits (n + 1) 3 [.int .i64 p.n] = some [.int .i64 p.n] := by
    unfold Program.keyLits
    rw [Try.underlying3]
    simp [w1]
  have e22 : Try.prog.keyLits (n + 1) 22 [.int .u64 p.s] = some [.int .u64 p.s] := by
    unfold Program.keyLits
    rw [Try.underlying22]
    simp [w2]
  have e38 : Try.prog.keyLits (n + 2) 38 [.int .i64 p.n, .int .u64 p.s] = some [.int .i64 p.n, .int .u64 p.s] := by
    unfold Program.keyLits
    rw [Try.underlying38]
    simp [cellsOf38, cellsOf3, cellsOf22, e3, e22]
  unfold keyOf
  rw [Try.underlying38]
  simp only [keyType38, formed38, hn, Value.cells, e38]
  simp
theorem key_inj {p q : PL} {k : Lit} (h1 : keyOf Try.prog 38 p.val = some k) (h2 : keyOf Try.prog 38 q.val = some k) : p = q := by
  have := keyed38.inj h1 h2
  simp only [Value.agg.injEq] at this
  have e := congrArg Array.toList this
  simp at e
  exact PL.ext' e.1 e.2
/-- how many unlike ones -/
def dist (l : List PL) : Nat := l.eraseDups.length
theorem dist_nil : dist [] = 0 := rfl
theorem dist_snoc (l : List PL) (x : PL) : dist (l ++ [x]) = dist l + if x ∈ l then 0 else 1 := by
  unfold dist
  rw [List.eraseDups_append]
  by_cases h : x ∈ l <;> simp [h, List.removeAll, List.eraseDups_cons]
theorem dist_le (l : List PL) : ∀ r : List PL, dist (l ++ r) ≤ dist l + r.length := by
  intro r
  induction r generalizing l with
  | nil => simp
  | cons x r ih =>
    have := ih (l ++ [x])
    rw [dist_snoc] at this
    simp only [List.append_assoc, List.cons_append, List.nil_append] at this
    simp only [List.length_cons]
    split at this <;> omega
theorem dist_le_length (l : List PL) : dist l ≤ l.length := by
  have := dist_le [] l
  simp [dist_nil] at this
  exact this
/-- the map in block b counts the places l -/
def TimesAt (w : World) (b : Nat) (l : List PL) : Prop :=
  ∃ D : DataW Unit, w.ownsMap Try.prog 38 (plainElem Try.prog 3) b l.length D ∧ ∀ p k, keyOf Try.prog 38 p.val = some k → D.atKey k (.lit (.int .i64 0)) = .lit (.int .i64 (l.count p)) ∧ Maps.has D k = l.contains p
    ∧ Maps.size D = dist l
theorem TimesAt.lt {w : World} {b : Nat} {l : List PL} (h : TimesAt w b l) : b < w.heap.size := by
  obtain ⟨D, h, _⟩ := h
  exact h.lt
theorem TimesAt.block {w w' : World} {b : Nat} {l : List PL} (h : TimesAt w b l) (hb : w'.heap[b]? = w.heap[b]?) : TimesAt w' b l := by
  obtain ⟨D, ⟨es, clock, h1, h2⟩, h3⟩ := h
  exact ⟨D, ⟨es, clock, hb.trans h1, h2⟩, h3⟩
theorem TimesAt.below {w w' : World} {B b : Nat} {l : List PL} (h : TimesAt w b l) (hb : Below B w w') (hB : w.heap.size ≤ B) : TimesAt w' b l := h.block (hb.block b (by have := h.lt; omega))
theorem TimesAt.made (w : World) : TimesAt (w.alloc (.map #[] 0)) w.heap.size [] := ⟨_, World.ownsMap_made w _ _ _, fun p k _ => by simp [DataW.atKey, Maps.has, Maps.size, dist_nil]⟩
theorem zero3 (w : World) : (zeroValue 3).run Try.prog w = .ok (.int .i64 0) w := Try.zeroValue3 w
/-- how often a place stands there -/
theorem TimesAt.look {w : World} {b : Nat} {l : List PL} (h : TimesAt w b l) (p : PL) (hp : p.ok) : (Instr.lookup 82 (.map (some b)) p.val false).run Try.prog w = .ok (.int .i64 (l.count p)) w := by
  obtain ⟨D, hown, hD⟩ := h
  obtain ⟨k, hk⟩ := key_some p hp
  obtain ⟨c, hrun, hat, _⟩ := hown.lookup_int keyed38 Try.underlying82 Try.underlying3 (zero3 w) hk
  rw [(hD p k hk).1] at hat
  simp at hat
  rw [hrun, ← hat]
theorem TimesAt.len {w : World} {b : Nat} {l : List PL} (h : TimesAt w b l) (ty : TypeId) : (Builtin.len_ #[82] ty #[.map (some b)]).run Try.prog w = .ok (.int .i64 (dist l)) w := by
  obtain ⟨D, hown, hD⟩ := h
  obtain ⟨k, hk⟩ := key_some ⟨0, 0⟩ ⟨by decide, by decide⟩
  rw [hown.len Try.underlying82 ty, (hD _ k hk).2.2]
theorem count_lt (l : List PL) (p : PL) : l.count p ≤ l.length := List.count_le_length
set_option maxHeartbeats 1000000 in
/-- one more -/
theorem TimesAt.bump {w : World} {b : Nat} {l : List PL} (h : TimesAt w b l) (p : PL) (hp : p.ok) (hl : l.length < 9223372036854775807) :
    ∃ (v0 : Value) (st : Nat) (w1 w2 : World), (Instr.mapEntry 82 (.map (some b)) p.val).run Try.prog w = .ok (.tuple #[v0, .int .i64 st]) w1 ∧
      (Instr.lookup 82 (.map (some b)) p.val false).run Try.prog w1 = .ok (.int .i64 (l.count p)) w1 ∧
      (Instr.entryStore 82 (.map (some b)) (.int .i64 st) (.int .i64 (l.count p + 1))).run Try.prog w1 = .ok () w2 ∧
      TimesAt w2 b (l ++ [p]) ∧ w.grownBy w1 (some b) ∧ w.grownBy w2 (some b) := by
  have hlook := h.look p hp
  obtain ⟨D, hown, hD⟩ := h
  have hown' := hown
  obtain ⟨k, hk⟩ := key_some p hp
  obtain ⟨es, clock, hb, F, hs, hDe⟩ := hown
  have hcl := count_lt l p
  have hw0 : (Lit.int .i64 (l.count p : Int)).wf = true := WalkArith.wf_i64 (by omega)
  have hw1 : (Lit.int .i64 ((l.count p : Int) + 1)).wf = true := WalkArith.wf_i64 (by omega)
  obtain ⟨v0, st, es1, clock1, he, hor, hst⟩ := Go.WideElems.entry_then_store law38 Try.underlying82 (fun u => zero3 u) hb F hk
  have hup : (Instr.mapUpdate 82 (.map (some b)) p.val v0).run Try.prog w = .ok () (setBlock w b (.map es1 clock1)) := by
    rcases law38.find w hk es.toList F.keys with ⟨h1, h2⟩ | ⟨j, e0, h1, h2, h3⟩
    · have hm : (Instr.mapEntry 82 (.map (some b)) p.val).run Try.prog w = .ok (.tuple #[.int .i64 0, goInt clock]) (setBlock w b (.map (es.push ⟨p.val, .int .i64 0, clock⟩) (clock + 1))) := by
        simp [Instr.mapEntry, run_underlying Try.underlying82, MapKept.run_getObj_map hb, law38.check w false hk, h1, MapKept.run_setObj_map _ hb, Result.andThen, setBlock]
      rw [he] at hm
      obtain ⟨e1, e2⟩ := Result.ok.inj hm
      rw [e2]
      have : v0 = .int .i64 0 := by simp at e1; exact e1.1
      rw [this]
      simp [Instr.mapUpdate, run_underlying Try.underlying82, MapKept.run_getObj_map hb, law38.check w false hk, h1, MapKept.run_setObj_map _ hb, Result.andThen, setBlock]
    · have hj : es[j]? = some e0 := by simpa using h2
      have hsame : ∀ v, v = e0.val → es.modify j (fun e => { e with key := p.val, val := v }) = es := by
        intro v hv
        apply Array.ext'
        rw [Array.toList_modify, Go.ChangeMaps.modify_eq_set _ _ _ _ h2]
        have : ({ e0 with key := p.val, val := v } : MapEntry) = e0 := by rw [← h3, hv]
        rw [this]
        exact Go.WideElems.set_self _ _ _ h2
      have hsame0 : es.modify j (fun e => { e with key := p.val }) = es := by
        apply Array.ext'
        rw [Array.toList_modify, Go.ChangeMaps.modify_eq_set _ _ _ _ h2]
        have : ({ e0 with key := p.val } : MapEntry) = e0 := by rw [← h3]
        rw [this]
        exact Go.WideElems.set_self _ _ _ h2
      have hm : (Instr.mapEntry 82 (.map (some b)) p.val).run Try.prog w = .ok (.tuple #[e0.val, goInt e0.born]) (setBlock w b (.map es clock)) := by
        simp [Instr.mapEntry, run_underlying Try.underlying82, MapKept.run_getObj_map hb, law38.check w false hk, h1, hj, h3, law38.stays w hk, hsame0, MapKept.run_setObj_map _ hb, Result.andThen, setBlock]
      rw [he] at hm
      obtain ⟨e1, e2⟩ := Result.ok.inj hm
      rw [e2]
      have : v0 = e0.val := by simp at e1; exact e1.1
      simp [Instr.mapUpdate, run_underlying Try.underlying82, MapKept.run_getObj_map hb, law38.check w false hk, h1, hj, h3, law38.stays w hk, hsame v0 this, MapKept.run_setObj_map _ hb, Result.andThen, setBlock]
  have hat := (hD p k hk).1
  rw [hDe] at hat
  have hv0 : v0 = .int .i64 (l.count p) := by
    rcases hor with ⟨e0, hm0, h3, rfl⟩ | ⟨hno, rfl⟩
    · obtain ⟨y, hy⟩ := F.reads e0 hm0
      obtain ⟨z, hz, -⟩ := Go.WideElems.rd_val hy
      obtain ⟨a, ha, hza, _⟩ := plainElem_int_inv Try.underlying3 hz
      rw [Go.WideElems.atKey_some law38 F hk hm0 h3 hz, hza] at hat
      simp at hat
      rw [ha, hat]
    · rw [Go.WideElems.atKey_none law38 F hk hno] at hat
      simp at hat
      rw [← hat]
  obtain ⟨w1, hu1, hown1, hg1⟩ := hown'.update keyed38 Try.underlying82 (by unfold maxLen; omega) hk (plainElem_int (H := Unit) Try.underlying3 hw0)
  rw [hv0, hu1] at hup
  obtain ⟨-, hw1e⟩ := Result.ok.inj hup
  obtain ⟨es2, clock2, hs1, hs2⟩ := hst w1 (.int .i64 ((l.count p : Int) + 1)) (by rw [hw1e]; exact Go.ChangeMaps.heap_setBlock_same hb _)
  obtain ⟨w2, hu2, hown2, hg2⟩ := hown'.update keyed38 Try.underlying82 (by unfold maxLen; omega) hk (plainElem_int (H := Unit) Try.underlying3 hw1)
  have e12 : setBlock w1 b (.map es2 clock2) = w2 := by
    rw [hs2] at hu2
    obtain ⟨-, h2⟩ := Result.ok.inj hu2
    rw [← h2, hw1e]
    simp [setBlock]
  refine ⟨v0, st, w1, w2, ?_, ?_, ?_, ?_, hg1, hg2⟩
  · rw [he, hw1e]; rfl
  · obtain ⟨c, hrun, hat2, _⟩ := hown1.lookup_int keyed38 Try.underlying82 Try.underlying3 (zero3 w1) hk
    rw [atKey_put_same (hown'.isMap) (keyed38.key hk)] at hat2
    simp at hat2
    rw [hrun, ← hat2]
  · rw [← e12]; exact hs1
  · have hsz : ∀ d, Maps.size (D.put k d) = dist (l ++ [p]) := fun d => by
      rw [size_put (hown'.tidy keyed38), (hD p k hk).2.1, (hD p k hk).2.2, dist_snoc]
      by_cases hpl : p ∈ l <;> simp [hpl]
    replace hsz := hsz (.lit (.int .i64 ((l.count p : Int) + 1)))
    refine ⟨_, by rw [List.length_append]; exact hown2, fun q kq hq => ?_⟩
    by_cases hpq : q = p
    · subst hpq
      rw [hk] at hq
      cases hq
      refine ⟨?_, ?_, ?_⟩
      · rw [atKey_put_same (hown'.isMap) (keyed38.key hk), List.count_append]
        simp
      · rw [has_put_same (hown'.isMap) (keyed38.key hk)]
        simp
      · exact hsz
    · have hne : kq ≠ k := fun e => hpq (key_inj (e ▸ hq) hk)
      refine ⟨?_, ?_, hsz⟩
      · rw [atKey_put_other hne, (hD q kq hq).1, List.count_append]
        simp [Ne.symm hpq]
      · rw [has_put_other hne, (hD q kq hq).2.1]
        simp [hpq]
end Go.Proofs.Ytnfjhpdpeihheaa
