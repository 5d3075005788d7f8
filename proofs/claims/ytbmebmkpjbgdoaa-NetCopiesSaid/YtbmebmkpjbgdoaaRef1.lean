/- The document's net in memory; link, cut, Open. -/
import Derived.Test.YtbmebmkpjbgdoaaCount
import Derived.BigQuiet
import Derived.ChangeKeysEq
import Derived.Laws.StructEq
namespace Go.Proofs.Ytbmebmkpjbgdoaa
open Go.RowKit
theorem keep_block' {I : Bks} {w W : World} {b : Nat} {o : Obj} (hk : Keep I w W) (hI : I b) (h : w.heap[b]? = some o) : W.heap[b]? = some o := by rw [hk.2 b hI (lt_of_block h)]; exact h
theorem OwnMs.keep' {w W : World} {v : Value} {vs : List MV} {I : Bks} (h : OwnMs w v vs) (hk : Keep I w W) (hI : ∀ k, v.ownBlock = some k → I k) : OwnMs W v vs := by
  refine ⟨h.1, ?_⟩
  rcases h.2 with h2 | ⟨g, cap, cur, rfl, hbg, hg, r⟩
  · exact .inl h2
  · exact .inr ⟨g, cap, cur, rfl, hbg, by rw [hk.2 g (hI g rfl) (lt_of_block hg)]; exact hg, r⟩
abbrev Pr := Int × Int
def pc (v : Pr) : List Value := [.int .i64 v.1, .int .i64 v.2]
theorem pc_length (ps : List Pr) : (ps.flatMap pc).length = ps.length * 2 := by
  induction ps with
  | nil => rfl
  | cons p ps ih => rw [List.flatMap_cons, List.length_append, ih]; simp [pc]; omega
theorem pc_at : ∀ (vs : List Pr) (i r : Nat), r < 2 → (vs.flatMap pc)[i * 2 + r]? = (vs[i]?).bind fun p => (pc p)[r]?
  | [], i, r, _ => by simp
  | p :: ps, i, r, hr => by
    rw [List.flatMap_cons]
    have hl : (pc p).length = 2 := rfl
    cases i with
    | zero => rw [List.getElem?_append_left (by omega)]; simp
    | succ i =>
      rw [List.getElem?_append_right (by omega), hl, show (i + 1) * 2 + r - 2 = i * 2 + r by omega, pc_at ps i r hr]
      simp
def OwnPs (w : World) (v : Value) (ps : List Pr) : Prop := w.ownsRow 0 81 2 v ps.length (ps.flatMap pc)
theorem OwnPs.keep {w W : World} {v : Value} {ps : List Pr} {I : Bks} (h : OwnPs w v ps) (hk : Keep I w W) (hI : ∀ k, v.ownBlock = some k → I k) : OwnPs W v ps := by
  refine ⟨h.1, ?_⟩
  rcases h.2 with h2 | ⟨g, cap, cur, rfl, hbg, hg, r⟩
  · exact .inl h2
  · exact .inr ⟨g, cap, cur, rfl, hbg, by rw [hk.2 g (hI g rfl) (lt_of_block hg)]; exact hg, r⟩
theorem OwnPs.form {w : World} {v : Value} {ps : List Pr} (h : OwnPs w v ps) : ∃ a cap, v = .slice a ps.length cap := by
  rcases h.2 with ⟨rfl, h0⟩ | ⟨g, cap, cur, rfl, _⟩
  · exact ⟨none, 0, by rw [h0]⟩
  · exact ⟨_, _, rfl⟩
theorem OwnPs.cell {w : World} {g cap : Nat} {ps : List Pr} (h : OwnPs w (.slice (some ⟨g, 0, none⟩) ps.length cap) ps) {i : Nat} {v : Pr} (hv : ps[i]? = some v) (r : Nat) (hr : r < 2) : w.cell? ⟨g, i * 2 + r, none⟩ = (pc v)[r]? := by
  have hi : i < ps.length := (List.getElem?_eq_some_iff.1 hv).1
  have := World.ownsRow.cellAt h (i * 2 + r) (by omega)
  rw [this, pc_at _ _ _ hr, hv]; rfl
/-- the pairs that are cut are those of the net's table -/
def CutsAre (d : Nt) (ps : List Pr) : Prop := ∀ a b : Int, d.links a b = true → (decide ((min a b, max a b) ∈ ps)) = d.cuts.getD (place a b) false
/-- the document's net d at block q; the blocks R it reads -/
structure RefP (w : World) (R : Bks) (q : Nat) (d : Nt) (bv cv : Value) (vs : List MV) (ps : List Pr) : Prop where
  block : w.heap[q]? = some (.cells #[.int .i64 (d.n : Nat), bv, cv] 64 (0, 0))
  row : OwnMs w bv vs
  bag : vs.map (·.1) = d.bag
  byt : ∀ v ∈ vs, BytesIn R w v.2 v.1.b
  prs : OwnPs w cv ps
  cuts : CutsAre d ps
  nd : ps.Nodup
  few : ∀ p ∈ ps, 1 ≤ p.1 ∧ p.1 ≤ 15 ∧ 1 ≤ p.2 ∧ p.2 ≤ 15
  bR : ∀ k, bv.ownBlock = some k → R k
  cR : ∀ k, cv.ownBlock = some k → R k
  qR : ¬ R q
  lt : ∀ k, R k → k < w.heap.size
theorem nodup_bound : ∀ (N : Nat) (l : List Nat), l.Nodup → (∀ x ∈ l, x < N) → l.length ≤ N
  | 0, [], _, _ => Nat.le_refl _
  | 0, x :: _, _, h => absurd (h x List.mem_cons_self) (by omega)
  | N + 1, l, hd, h => by
    have h1 := nodup_bound N (l.erase N) (hd.erase N) fun x hx => by
      obtain ⟨h2, h3⟩ := hd.mem_erase_iff.1 hx
      have := h x h3
      omega
    rw [List.length_erase] at h1
    split at h1 <;> omega
theorem RefP.many {w : World} {R : Bks} {q : Nat} {d : Nt} {bv cv : Value} {vs : List MV} {ps : List Pr} (h : RefP w R q d bv cv vs ps) : ps.length ≤ 100000 := by
  have h1 := nodup_bound 256 (ps.map fun p => (p.1 * 16 + p.2).toNat) (by
    unfold List.Nodup
    rw [List.pairwise_map]
    refine List.Pairwise.imp_of_mem ?_ h.nd
    intro a b ha hb hne he
    have h1 := h.few a ha
    have h2 := h.few b hb
    exact hne (Prod.ext (by omega) (by omega))) (fun x hx => by
    obtain ⟨p, hp, rfl⟩ := List.mem_map.1 hx
    have := h.few p hp
    omega)
  rw [List.length_map] at h1
  omega
def RefAt (w : World) (R : Bks) (q : Nat) (d : Nt) : Prop := d.ok ∧ ∃ bv cv vs ps, RefP w R q d bv cv vs ps
theorem RefP.keep {w W : World} {R : Bks} {q : Nat} {d : Nt} {bv cv : Value} {vs : List MV} {ps : List Pr} (h : RefP w R q d bv cv vs ps) {I : Bks} (hk : Keep I w W) (hI : ∀ k, R k ∨ k = q → I k) : RefP W R q d bv cv vs ps :=
  { h with
    block := keep_block' hk (hI q (.inr rfl)) h.block
    row := h.row.keep' hk fun k hk => hI k (.inl (h.bR k hk))
    byt := fun v hv => (h.byt v hv).keep hk fun k hk => hI k (.inl hk)
    prs := h.prs.keep hk fun k hk => hI k (.inl (h.cR k hk))
    lt := fun k hk' => Nat.lt_of_lt_of_le (h.lt k hk') hk.1 }
theorem RefP.below {w W : World} {R : Bks} {q : Nat} {d : Nt} {bv cv : Value} {vs : List MV} {ps : List Pr} (h : RefP w R q d bv cv vs ps) (hb : Below w.heap.size w W) : RefP W R q d bv cv vs ps :=
  h.keep (I := fun _ => True) (Keep.of_below hb) fun _ _ => trivial
theorem RefP.c0 {w : World} {R : Bks} {q : Nat} {d : Nt} {bv cv : Value} {vs : List MV} {ps : List Pr} (h : RefP w R q d bv cv vs ps) : w.cell? ⟨q, 0, none⟩ = some (.int .i64 (d.n : Nat)) := by rw [Go.Joins.cell_of_block h.block]; rfl
theorem RefP.c1 {w : World} {R : Bks} {q : Nat} {d : Nt} {bv cv : Value} {vs : List MV} {ps : List Pr} (h : RefP w R q d bv cv vs ps) : w.cell? ⟨q, 1, none⟩ = some bv := by rw [Go.Joins.cell_of_block h.block]; rfl
theorem RefP.c2 {w : World} {R : Bks} {q : Nat} {d : Nt} {bv cv : Value} {vs : List MV} {ps : List Pr} (h : RefP w R q d bv cv vs ps) : w.cell? ⟨q, 2, none⟩ = some cv := by rw [Go.Joins.cell_of_block h.block]; rfl
theorem RefP.fz {w : World} {R : Bks} {q : Nat} {d : Nt} {bv cv : Value} {vs : List MV} {ps : List Pr} (h : RefP w R q d bv cv vs ps) (i : Nat) : w.frozen? ⟨q, i, none⟩ = false := by simp [World.frozen?, h.block]
theorem RefP.len {w : World} {R : Bks} {q : Nat} {d : Nt} {bv cv : Value} {vs : List MV} {ps : List Pr} (h : RefP w R q d bv cv vs ps) : vs.length = d.bag.length := by rw [← h.bag, List.length_map]
theorem results_pair {fn : Func} {p u : Tmp} (h : fn.results = #[.cell p 81, .tmp u]) (tmps : Array Value) (w : World) (g : Nat) (a b : Value) (fr : Nat × Nat) (hp : tmps.getD p undef = .pointer (some ⟨g, 0, none⟩)) (hg : w.heap[g]? = some (.cells #[a, b] 81 fr)) :
    (results fn tmps).run Try.prog w = .ok (.tuple #[.agg #[a, b], tmps.getD u undef]) w := by
  rw [results_cell_tmp h, hp]
  simp [asAddr, Result.andThen, run_loadVar_row w g 81 81 #[a, b] fr _ hg Try.underlying81 rfl (by kernel_rfl)]
/-- a link as the document's net has it -/
def linkOf (d : Nt) (a b : Int) : Pr := if d.links a b = true then (min a b, max a b) else (0, 0)
theorem link_true {q : Nat} (d : Nt) (a b : Int) (w : World) (h : w.cell? ⟨q, 0, none⟩ = some (.int .i64 (d.n : Nat))) (hl : d.links a b = true) :
    Calls Try.prog 51 #[.pointer (some ⟨q, 0, none⟩), .int .i64 a, .int .i64 b] w fun e w' => e = .returned (.tuple #[.agg #[.int .i64 (min a b), .int .i64 (max a b)], .bool true]) ∧ Below w.heap.size w w' := by
  obtain ⟨h1, h2, h3⟩ := (links_iff d a b).1 hl
  have g1 : ¬ a < 1 := by omega
  have g2 : ¬ (d.n : Int) < a := by omega
  have g3 : ¬ b < 1 := by omega
  have g4 : ¬ (d.n : Int) < b := by omega
  have c0 : ∀ o, (w.alloc o).cell? ⟨q, 0, none⟩ = some (.int .i64 (d.n : Nat)) := fun o => by rw [World.cell?_alloc_lt _ _ _ (World.block_lt_of_cell? w _ h)]; exact h
  generalize (d.n : Nat) = n at *
  clear hl h h2 h3
  go_enter Try.func51, Try.ntmps51
  go_wp2
  exact bodyPost_ret (results_pair (p := 6) (u := 7) rfl _ _ w.heap.size _ _ (0, 0) rfl (heap_alloc_new _ _)) rfl ⟨rfl, Go.Joins.below_alloc1 w _⟩
theorem link_false {q : Nat} (d : Nt) (a b : Int) (w : World) (h : w.cell? ⟨q, 0, none⟩ = some (.int .i64 (d.n : Nat))) (hl : d.links a b = false) :
    Calls Try.prog 51 #[.pointer (some ⟨q, 0, none⟩), .int .i64 a, .int .i64 b] w fun e w' => e = .returned (.tuple #[.agg #[.int .i64 0, .int .i64 0], .bool false]) ∧ Below w.heap.size w w' := by
  have hl' : ¬ (a ≠ b ∧ 1 ≤ min a b ∧ max a b ≤ d.n) := fun hx => by rw [(links_iff d a b).2 hx] at hl; cases hl
  have c0 : ∀ o, (w.alloc o).cell? ⟨q, 0, none⟩ = some (.int .i64 (d.n : Nat)) := fun o => by rw [World.cell?_alloc_lt _ _ _ (World.block_lt_of_cell? w _ h)]; exact h
  generalize (d.n : Nat) = n at *
  have HL : Hid (¬ (a ≠ b ∧ 1 ≤ min a b ∧ max a b ≤ (n : Int))) := hl'
  clear hl h hl'
  go_enter Try.func51, Try.ntmps51
  go_wp2
  all_goals first
    | exact bodyPost_ret (results_pair (p := 6) (u := 7) rfl _ _ w.heap.size _ _ (0, 0) rfl (heap_alloc_new _ _)) rfl ⟨rfl, Go.Joins.below_alloc1 w _⟩
    | (exfalso; have h := HL.out; apply h; refine ⟨?_, ?_, ?_⟩ <;> (try simp at *) <;> omega)
theorem cells3' : Try.prog.cellsOf 3 = 1 := by kernel_rfl
theorem equalIn_pair (a b c d : Int) (w : World) : (Op.equalIn 10000 81 (.agg #[.int .i64 a, .int .i64 b]) (.agg #[.int .i64 c, .int .i64 d])).run Try.prog w = .ok (a == c && b == d) w := by
  have hi : ∃ i, Try.prog.info? 3 = some i := Option.isSome_iff_exists.1 (by kernel_rfl)
  obtain ⟨i, hi⟩ := hi
  rw [run_equalIn_array w 9999 _ _ Try.underlying81 hi, cells3']
  have ha3 := fun w => Try.isAgg3 w
  have e := fun (w : World) (x y : Int) => run_equalIn_int (P := Try.prog) w 9998 3 .i64 .i64 x y Try.underlying3
  have er : List.range 2 = [0, 1] := rfl
  rw [er]
  simp [Op.eqItems, part, e, ha3, Result.andThen]
  by_cases h1 : a = c <;> by_cases h2 : b = d <;> simp [h1, h2]
theorem guard81 : Try.prog.eqGuardType Try.prog.depth 81 = false := by kernel_rfl
theorem eql_pair (a b c d : Int) (w : World) : (binOp .eql 81 (.agg #[.int .i64 a, .int .i64 b]) (.agg #[.int .i64 c, .int .i64 d])).run Try.prog w = .ok (.bool (a == c && b == d)) w := by
  rw [run_eql_struct, equalIn_pair]; rfl
theorem neq_pair (a b c d : Int) (w : World) : (binOp .neq 81 (.agg #[.int .i64 a, .int .i64 b]) (.agg #[.int .i64 c, .int .i64 d])).run Try.prog w = .ok (.bool (!(a == c && b == d))) w := by
  rw [run_neq_struct, equalIn_pair]; rfl
theorem mem_take_succ (ps : List Pr) (l x : Pr) {k : Nat} (h : ps[k]? = some x) : l ∈ ps.take (k + 1) ↔ l ∈ ps.take k ∨ l = x := by
  obtain ⟨hk, he⟩ := List.getElem?_eq_some_iff.1 h
  rw [List.take_succ_eq_append_getElem hk, he, List.mem_append, List.mem_singleton]
set_option maxRecDepth 100000 in
set_option maxHeartbeats 1000000 in
theorem rcut_any {w : World} {R : Bks} {q : Nat} {d : Nt} {bv cv : Value} {vs : List MV} {ps : List Pr} (h : RefP w R q d bv cv vs ps) (a b : Int) :
    Calls Try.prog 52 #[.pointer (some ⟨q, 0, none⟩), .agg #[.int .i64 a, .int .i64 b]] w fun e w' => e = .returned (.bool (decide ((a, b) ∈ ps))) ∧ Below w.heap.size w w' := by
  obtain ⟨ca, cc, rfl⟩ := h.prs.form
  have hg81 := guard81
  obtain ⟨W1, hW1⟩ : ∃ W1, W1 = w.alloc (.cells #[.int .i64 a, .int .i64 b] 81) := ⟨_, rfl⟩
  have hA1 : Below w.heap.size w W1 := by rw [hW1]; exact Go.Joins.below_alloc1 w _
  have q0 : W1.cell? ⟨w.heap.size, 0, none⟩ = some (.int .i64 a) := by rw [hW1, World.cell?_alloc_new]; rfl
  have q1 : W1.cell? ⟨w.heap.size, 1, none⟩ = some (.int .i64 b) := by rw [hW1, World.cell?_alloc_new]; rfl
  have hP := h.below hA1
  have c2 := hP.c2
  have hmany := hP.many
  have HPRS := Lib.hid hP.prs
  obtain ⟨L, hL⟩ : ∃ L, ps.length = L := ⟨_, rfl⟩
  have HLL := Lib.hid hL
  rw [hL] at c2 hmany
  have HA1 := Lib.hid hA1
  have HP1 : Hid (∀ W, Below W1.heap.size W1 W → (W.cell? ⟨q, 2, none⟩ = some (.slice ca L cc) ∧ W.cell? ⟨w.heap.size, 0, none⟩ = some (.int .i64 a) ∧ W.cell? ⟨w.heap.size, 1, none⟩ = some (.int .i64 b)) ∧ OwnPs W (.slice ca ps.length cc) ps) := fun W hb =>
    ⟨⟨(hb.cell (p := ⟨q, 2, none⟩) (World.block_lt_of_cell? W1 _ c2)).trans c2, (hb.cell (p := ⟨w.heap.size, 0, none⟩) (World.block_lt_of_cell? W1 _ q0)).trans q0, (hb.cell (p := ⟨w.heap.size, 1, none⟩) (World.block_lt_of_cell? W1 _ q1)).trans q1⟩, HPRS.out.keep (I := fun _ => True) (Keep.of_below hb) fun _ _ => trivial⟩
  clear h hP hA1 hL c2 q0 q1
  go_enter Try.func52, Try.ntmps52
  go_wp2
  rw [← hW1]
  clear hW1
  go_loopw [5] (fun i wr => ∃ k : Nat, k ≤ L ∧ i = .int .i64 (k : Nat) ∧ Hid (Below W1.heap.size W1 wr ∧ ¬ (a, b) ∈ ps.take k)) (fun i _ => L - (intOf i).toNat)
  case atStart => exact ⟨0, Nat.zero_le _, rfl, Below.refl _ _, by simp⟩
  case round =>
    obtain ⟨k, hk, rfl, HW⟩ := hrel
    obtain ⟨hbw, hnot⟩ := HW.out
    obtain ⟨⟨c2, q0, q1⟩, hps⟩ := HP1.out wr hbw
    have HNOT := Lib.hid hnot
    have HB : Hid (Below w.heap.size w wr) := HA1.out.trans (hbw.mono HA1.out.size)
    have HBW := Lib.hid hbw
    clear HW hnot hbw
    by_cases hlt : k < L
    · obtain ⟨⟨x, y⟩, hx⟩ : ∃ x, ps[k]? = some x := ⟨_, List.getElem?_eq_getElem (by rw [HLL.out]; exact hlt)⟩
      have hg : ∃ g, ca = some ⟨g, 0, none⟩ := by
        rcases HPRS.out.2 with ⟨h1, h0⟩ | ⟨g, cap', cur, hv', _⟩
        · rw [HLL.out] at h0; omega
        · injection hv' with e1; exact ⟨g, e1⟩
      obtain ⟨g, rfl⟩ := hg
      have e0 : wr.cell? ⟨g, k * 2, none⟩ = some (.int .i64 x) := hps.cell hx 0 (by omega)
      have e1 : wr.cell? ⟨g, k * 2 + 1, none⟩ = some (.int .i64 y) := hps.cell hx 1 (by omega)
      have HMEM := Lib.hid (mem_take_succ ps (a, b) (x, y) hx)
      clear hx hps
      by_cases heq : x = a ∧ y = b
      · obtain ⟨rfl, rfl⟩ := heq
        have keq : ∀ w, (Op.equalIn 10000 81 (.agg #[.int .i64 x, .int .i64 y]) (.agg #[.int .i64 x, .int .i64 y])).run Try.prog w = .ok true w := fun w => by rw [equalIn_pair]; simp
        go_wp2
        go_region_held (fun W => (W.cell? ⟨q, 2, none⟩ = some (.slice (some ⟨g, 0, none⟩) L cc) ∧ W.cell? ⟨w.heap.size, 0, none⟩ = some (.int .i64 x) ∧ W.cell? ⟨w.heap.size, 1, none⟩ = some (.int .i64 y)) ∧ W.cell? ⟨g, k * 2, none⟩ = some (.int .i64 x) ∧ W.cell? ⟨g, k * 2 + 1, none⟩ = some (.int .i64 y)) (exact ⟨⟨c2, q0, q1⟩, e0, e1⟩) (fail)
        go_wp2
        go_ret
        refine ⟨?_, HB.out.drew⟩
        rw [decide_eq_true (List.mem_of_mem_take (HMEM.out.2 (.inr trivial)))]; rfl
      · have keq : ∀ w, (Op.equalIn 10000 81 (.agg #[.int .i64 x, .int .i64 y]) (.agg #[.int .i64 a, .int .i64 b])).run Try.prog w = .ok false w := fun w => by
          rw [equalIn_pair]
          have : (x == a && y == b) = false := by simpa using heq
          rw [this]
        go_wp2
        go_region_held (fun W => (W.cell? ⟨q, 2, none⟩ = some (.slice (some ⟨g, 0, none⟩) L cc) ∧ W.cell? ⟨w.heap.size, 0, none⟩ = some (.int .i64 a) ∧ W.cell? ⟨w.heap.size, 1, none⟩ = some (.int .i64 b)) ∧ W.cell? ⟨g, k * 2, none⟩ = some (.int .i64 x) ∧ W.cell? ⟨g, k * 2 + 1, none⟩ = some (.int .i64 y)) (exact ⟨⟨c2, q0, q1⟩, e0, e1⟩) (fail)
        go_wp2
        go_roundw
        case rel => exact ⟨k + 1, by omega, by go_num, HBW.out.drew, fun hm => by
          rcases HMEM.out.1 hm with h | h
          · exact HNOT.out h
          · injection h with h1 h2
            exact heq ⟨h1.symm, h2.symm⟩⟩
        case measure => simp [intOf]; omega
    · obtain rfl : k = L := by omega
      clear hps
      go_wp2
      go_ret
      refine ⟨?_, HB.out⟩
      rw [decide_eq_false (by have := HNOT.out; rwa [List.take_of_length_le (by rw [HLL.out]; exact Nat.le_refl _)] at this)]; rfl
end Go.Proofs.Ytbmebmkpjbgdoaa
