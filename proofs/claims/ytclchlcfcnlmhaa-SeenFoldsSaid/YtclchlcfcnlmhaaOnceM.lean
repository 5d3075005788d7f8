/- SeenOnce: of messages that come as often as they like each stands once. -/
import Derived.Test.YtclchlcfcnlmhaaFh
import Derived.Test.YtclchlcfcnlmhaaLawP
import Derived.Maps.AppendAt
namespace Go.Proofs.Ytclchlcfcnlmhaa
open Go.RowKit Go.Maps Go.Shelf
set_option linter.unusedSimpArgs false
/-- one more behind an own row: what it gives, and where it lies -/
def Grown {α : Type} (T : TypeId) (k : Nat) (enc : α → List Value) (base : Nat) (w : World) (v : Value) (n : List α) (x : α) (g cap : Nat) (w' : World) : Prop :=
  OwnRow T k enc base w' (.slice (some ⟨g, 0, none⟩) (n.length + 1) cap) (n ++ [x]) ∧ w.grownBy w' v.ownBlock ∧ (v.ownBlock = some g ∨ g = w.heap.size) ∧ g < w'.heap.size
section
variable {α : Type} {k : Nat} {enc : α → List Value} {T : TypeId}
theorem run_app_one {w : World} (S T ty : TypeId) (k bytes : Nat) (z : Value) (enc : α → List Value)
    (hU : Try.prog.underlying S = some (.slice T)) (hI : (Try.prog.info? T).map (fun i => (i.zero, i.size, i.bytes)) = some (some z, k, bytes)) (hzc : z.cells.size = k) (hk0 : 0 < k) (hby : bytes ≤ 1000)
    (hk : ∀ x, (enc x).length = k) (base : Nat) (v : Value) (n : List α) (x : α) (zb : Nat) (hown : OwnRow T k enc base w v n) (hz : BoxC w zb T (enc x).toArray) (hone : ∀ u ∈ enc x, u.oneCell' = true) (hsmall : n.length + 1 ≤ 1000000) (hbase : base ≤ w.heap.size) :
    ∃ g cap w', (Builtin.append_ #[S, S] ty #[v, .slice (some ⟨zb, 0, none⟩) 1 1]).run Try.prog w = .ok (.slice (some ⟨g, 0, none⟩) (n.length + 1) cap) w' ∧ Grown T k enc base w v n x g cap w' := by
  obtain ⟨i0, hi, hz0, hz1, hz2⟩ := info_parts hI
  have hb : (n.length + 1) * bytes ≤ 1000000 * 1000 := Nat.mul_le_mul hsmall hby
  obtain ⟨v', w', hr, h2, h3, h4, h5⟩ := run_append_own_at (P := Try.prog) (w := w) base S ty T i0 z k bytes hU hi hz0 hz1 hz2 hzc hk0 v n.length (n.flatMap enc) hown ⟨zb, 0, none⟩ 1 1 (enc x) (by rw [hk, Nat.one_mul]) (fun j u hj => by
    rw [Addr.add_lit, hz.cell, Nat.zero_add, List.getElem?_toArray]; exact hj) hone (by unfold maxLen; omega) (by omega) hbase
  have h2' : OwnRow T k enc base w' v' (n ++ [x]) := by
    unfold OwnRow
    rw [List.length_append, List.flatMap_append, List.flatMap_cons, List.flatMap_nil, List.append_nil]
    exact h2
  rcases h2.2 with ⟨rfl, h0⟩ | ⟨g, cap, cur, rfl, _, hg, _⟩
  · omega
  · refine ⟨g, cap, w', hr, h2', h3, ?_, lt_of_block hg⟩
    rcases h5 with h5 | h5
    · exact .inl h5.symm
    · exact .inr (by simpa [Value.ownBlock] using h5)
theorem wpList_app_one {w : World} {ops : Array Oper} {rest : List Oper} {o : Oper} {a : Act} {Q : Exit → Act → World → Prop} (hgd : o.guard = none) (s y : Operand) (S T : TypeId) (k bytes : Nat) (z : Value) (enc : α → List Value)
    (ho : o.op = .call { callee := .builtin .append, args := #[s, y], argTypes := #[S, S] }) (hU : Try.prog.underlying S = some (.slice T)) (hI : (Try.prog.info? T).map (fun i => (i.zero, i.size, i.bytes)) = some (some z, k, bytes)) (hzc : z.cells.size = k) (hk0 : 0 < k) (hby : bytes ≤ 1000)
    (hk : ∀ x, (enc x).length = k) (base : Nat) (v : Value) (n : List α) (x : α) (zb : Nat) (hs : a.eval s = v) (hx : a.eval y = .slice (some ⟨zb, 0, none⟩) 1 1)
    (hown : OwnRow T k enc base w v n) (hz : BoxC w zb T (enc x).toArray) (hone : ∀ u ∈ enc x, u.oneCell' = true) (hsmall : n.length + 1 ≤ 1000000) (hbase : base ≤ w.heap.size)
    (h : ∀ g cap w', Grown T k enc base w v n x g cap w' → wpList Try.prog ops Q rest (a.put o.dst (.slice (some ⟨g, 0, none⟩) (n.length + 1) cap)) w') : wpList Try.prog ops Q (o :: rest) a w := by
  obtain ⟨g, cap, w', hr, hg⟩ := run_app_one (w := w) S T o.type k bytes z enc hU hI hzc hk0 hby hk base v n x zb hown hz hone hsmall hbase
  refine wpList_plain hgd fun K hK => ?_
  unfold Oper.wp execOp
  simp only [ho, resolve, invoke, builtin, Sem.run_bind, Sem.run_pure, Result.andThen_ok, List.map_toArray, List.map_cons, List.map_nil, hs, hx, hr]
  exact hK _ _ (h g cap w' hg)
end
set_option maxHeartbeats 1000000 in
theorem remay_any (e : EN) (w : World) : Calls Try.prog 30 #[e.val] w fun r w' => r = .returned (.bool (decide e.may)) ∧ Below w.heap.size w w' := by
  obtain ⟨p, s, a, n, c⟩ := e
  have HB := Lib.hid (Go.Joins.below_alloc1 w (.cells #[.int .i64 p, .int .u64 s, .slice a n c] 51))
  have HN := Lib.hid (fun W => count_any s W)
  have hmb : decide (EN.may ⟨p, s, a, n, c⟩) = ((decide (1 ≤ p) && decide (p ≤ 15)) && ((decide (1 ≤ s) && decide (s ≤ 4611686018427387903)) && decide (n ≤ 64))) := by
    rw [Bool.eq_iff_iff, decide_eq_true_iff]
    simp [EN.may]
  rw [hmb]
  clear hmb
  by_cases h1 : 1 ≤ p
  · by_cases h2 : p ≤ 15
    · obtain ⟨k, hc⟩ : ∃ c, (decide (1 ≤ s) && decide (s ≤ 4611686018427387903)) = c := ⟨_, rfl⟩
      rw [hc] at HN ⊢
      clear hc
      cases k
      · go_enter Try.func30, Try.ntmps30
        go_wp2_with fail
        refine (HN.out _).mono ?_
        rintro e w1 ⟨rfl, rfl⟩
        go_wp2
        go_ret
        exact ⟨by simp [h1, h2], HB.out⟩
      · go_enter Try.func30, Try.ntmps30
        go_wp2_with fail
        refine (HN.out _).mono ?_
        rintro e w1 ⟨rfl, rfl⟩
        go_wp2
        go_ret
        exact ⟨by simp [h1, h2]; try omega, HB.out⟩
    · clear HN
      go_enter Try.func30, Try.ntmps30
      go_wp2
      go_ret
      exact ⟨by first | (simp [h1, h2]; done) | (simp [h1, h2]; omega), HB.out⟩
  · clear HN
    go_enter Try.func30, Try.ntmps30
    go_wp2
    go_ret
    exact ⟨by first | (simp [h1]; done) | (simp [h1]; omega), HB.out⟩

theorem EN.may.ok {e : EN} (h : e.may) : e.ok := by
  obtain ⟨⟨a, b⟩, ⟨c, d⟩, f⟩ := h
  exact ⟨⟨by omega, by omega⟩, ⟨by omega, by omega⟩, by omega⟩
/-- the marks of a log -/
structure Once (R : List MK) (LG : List EN) : Prop where
  may : MayR R
  lmay : ∀ e ∈ LG, e.may
  none : ∀ p, look R p = none → ∀ e ∈ LG, e.p ≠ p
  some : ∀ p m, look R p = some m → ∃ (k : Nat) (e : EN), m.o = (k : Int) ∧ LG[k]? = some e ∧ e.p = p ∧ e.s = m.s ∧ ∀ x ∈ LG, x.p = p → x.s ≤ m.s
theorem Once.nil : Once [] [] := ⟨nil_mayR, by simp, by simp, fun p m h => by simp [look] at h⟩
/-- is there a later one of that producer? -/
def later (LG : List EN) (x : EN) : Bool := LG.any fun e => decide (e.p = x.p) && decide (x.s < e.s)
theorem later_false {LG : List EN} {x : EN} (h : ∀ e ∈ LG, e.p = x.p → e.s ≤ x.s) : later LG x = false := by
  unfold later
  rw [List.any_eq_false]
  intro e he
  by_cases hp : e.p = x.p
  · have := h e he hp
    simp [hp]
    omega
  · simp [hp]
theorem Once.next {R : List MK} {LG : List EN} {x : EN} (h : Once R LG) (hx : x.may) (hn : LG.length ≤ 1000) (hnew : ∀ m, look R x.p = .some m → m.s < x.s) (hroom : look R x.p = Option.none → R.length < 6) :
    (merge R (stand (LG.length : Int) [x])).length ≤ 6 ∧ Once (merge R (stand (LG.length : Int) [x])) (LG ++ [x]) := by
  obtain ⟨m', hm'⟩ : ∃ m' : MK, m' = ⟨x.p, x.s, (LG.length : Int)⟩ := ⟨_, rfl⟩
  have e : merge R (stand (LG.length : Int) [x]) = ins R m' := by rw [hm']; rfl
  have hp' : m'.p = x.p := by rw [hm']
  have hs' : m'.s = x.s := by rw [hm']
  have ho' : m'.o = (LG.length : Int) := by rw [hm']
  have hb : best (look R x.p) m' = m' := by
    cases hl : look R x.p with
    | none => rfl
    | some a => have := hnew a hl; simp [best, hs', this]
  have hlk : ∀ p, look (ins R m') p = if x.p = p then .some m' else look R p := fun p => by
    rw [look_ins h.may.ris, hp']
    by_cases hp : x.p = p
    · rw [if_pos hp, if_pos hp, ← hp, hb]
    · rw [if_neg hp, if_neg hp]
  have hmm : m'.may := by rw [hm']; exact ⟨hx.1, hx.2.1, by show (0 : Int) ≤ (LG.length : Int); omega, by show (LG.length : Int) ≤ _; omega⟩
  have hlen : (ins R m').length ≤ 6 := by
    rw [len_ins h.may.ris, hp']
    have := h.may.len
    split
    · rename_i hn'; have := hroom hn'; omega
    · exact this
  rw [e]
  refine ⟨hlen, ⟨hlen, may_ins h.may.may hmm, ris_ins h.may.ris _⟩, fun e he => ?_, fun p hp e he => ?_, fun p m hp => ?_⟩
  · rcases List.mem_append.1 he with he | he
    · exact h.lmay e he
    · rw [List.mem_singleton.1 he]; exact hx
  · rw [hlk] at hp
    by_cases hxp : x.p = p
    · rw [if_pos hxp] at hp; cases hp
    · rw [if_neg hxp] at hp
      rcases List.mem_append.1 he with he | he
      · exact h.none p hp e he
      · rw [List.mem_singleton.1 he]; exact hxp
  · rw [hlk] at hp
    by_cases hxp : x.p = p
    · rw [if_pos hxp] at hp
      cases hp
      refine ⟨LG.length, x, ho', by simp, hxp, hs'.symm, fun y hy hyp => ?_⟩
      rw [hs']
      rcases List.mem_append.1 hy with hy | hy
      · cases hl : look R x.p with
        | none => exact absurd (hyp.trans hxp.symm) (h.none _ hl y hy)
        | some a =>
          obtain ⟨_, _, _, _, _, _, hall⟩ := h.some _ a hl
          have := hall y hy (hyp.trans hxp.symm)
          have := hnew a hl
          omega
      · rw [List.mem_singleton.1 hy]; exact Int.le_refl _
    · rw [if_neg hxp] at hp
      obtain ⟨k, e', h1, h2, h3, h4, h5⟩ := h.some p m hp
      refine ⟨k, e', h1, by rw [List.getElem?_append_left (List.getElem?_eq_some_iff.1 h2).1]; exact h2, h3, h4, fun y hy hyp => ?_⟩
      rcases List.mem_append.1 hy with hy | hy
      · exact h5 y hy hyp
      · rw [List.mem_singleton.1 hy] at hyp; exact absurd hyp hxp
/-- what a message finds -/
theorem Once.cases {R : List MK} {LG : List EN} (h : Once R LG) (x : EN) :
    (∃ (k : Nat) (e : EN), askV R x.p x.s = (1, (k : Int)) ∧ LG[k]? = .some e ∧ e.p = x.p ∧ e.s = x.s) ∨
    (askV R x.p x.s = (2, 0) ∧ later LG x = true) ∨
    (askV R x.p x.s = (0, 0) ∧ later LG x = false ∧ (∀ e ∈ LG, e.p = x.p → e.s ≠ x.s) ∧ (∀ m, look R x.p = .some m → m.s < x.s) ∧ (look R x.p = Option.none → R.length < 6)) ∨
    (askV R x.p x.s = (3, 0) ∧ later LG x = false ∧ R.length = 6) := by
  unfold askV
  rw [lst_look h.may.ris]
  cases hl : look R x.p with
  | none =>
    have hno := h.none _ hl
    have hlt : later LG x = false := later_false fun e he hp => absurd hp (hno e he)
    by_cases h6 : 6 ≤ R.length
    · exact .inr (.inr (.inr ⟨by simp [h6], hlt, by have := h.may.len; omega⟩))
    · exact .inr (.inr (.inl ⟨by simp [h6], hlt, fun e he hp => absurd hp (hno e he), fun m hm => (by cases hm), fun _ => by omega⟩))
  | some m =>
    obtain ⟨k, e, ho, hk, hp, hs, hall⟩ := h.some _ m hl
    by_cases h1 : m.s = x.s
    · exact .inl ⟨k, e, by simp [h1, ho], hk, hp, by omega⟩
    · by_cases h2 : x.s < m.s
      · refine .inr (.inl ⟨by simp [h1, h2], ?_⟩)
        unfold later
        rw [List.any_eq_true]
        exact ⟨e, List.mem_of_getElem? hk, by simp [hp]; omega⟩
      · refine .inr (.inr (.inl ⟨by simp [h1, h2], later_false fun e he hp => ?_, fun e he hp => ?_, fun m' hm' => ?_, fun hn => (by cases hn)⟩))
        · have := hall e he hp; omega
        · have := hall e he hp; omega
        · cases hm'; omega
theorem later_snoc {LG : List EN} {k : Nat} {x e : EN} (he : LG[k]? = .some e) : later (LG.take (k + 1)) x = (later (LG.take k) x || (decide (e.p = x.p) && decide (x.s < e.s))) := by
  unfold later
  rw [take_snoc he, List.any_append]
  simp
/-- between two messages -/
structure OnceAt (w wr : World) (mv lv : Value) (R : List MK) (LG : List EN) (n : Nat) : Prop where
  ms : OwnMs w.heap.size wr mv R
  ls : OwnEs w.heap.size wr lv LG
  sep : ∀ b, mv.ownBlock = .some b → lv.ownBlock ≠ .some b
  bel : Below w.heap.size w wr
  on : Once R LG
  len : LG.length ≤ n
theorem OnceAt.below {w wr wx : World} {mv lv : Value} {R : List MK} {LG : List EN} {n : Nat} (h : OnceAt w wr mv lv R LG n) (hb : Below wr.heap.size wr wx) : OnceAt w wx mv lv R LG n :=
  ⟨h.ms.kept hb (Nat.le_refl _), OwnRow.chg h.ls (Chg.of_below (S := fun _ => False) hb (Nat.le_refl _)) (fun _ _ h => h), h.sep, h.bel.trans (hb.mono h.bel.size), h.on, h.len⟩
theorem OnceAt.mat {w wr : World} {mv lv : Value} {R : List MK} {LG : List EN} {n : Nat} (h : OnceAt w wr mv lv R LG n) : MsAt wr mv R := h.ms.at (ms_ok h.on.may)
theorem OnceAt.lat {w wr : World} {mv lv : Value} {R : List MK} {LG : List EN} {n : Nat} (h : OnceAt w wr mv lv R LG n) : EsAt wr lv LG := h.ls.at fun e he => (h.on.lmay e he).ok
theorem es_one {w : World} {g : Nat} {x : EN} (hm : x.ok) (h : BoxC w g 51 x.cells.toArray) : EsAt w (.slice (some ⟨g, 0, none⟩) 1 1) [x] :=
  ⟨_, 1, rfl, by simp, by simp, (fun e => by cases e), fun _ => ⟨g, 0, rfl, h.lt, fun j y hj => by
    have hj1 := (List.getElem?_eq_some_iff.1 hj).1
    have hj0 : j = 0 := by simpa using hj1
    subst hj0
    simp at hj
    subst hj
    exact ⟨hm, fun r hr => by rw [Nat.zero_mul, Nat.zero_add, h.cell, List.getElem?_toArray]⟩⟩⟩
theorem once_next {w wx W1 w3 w5 : World} {mv v2 : Value} {la : Option Addr} {k lc i g5 c5 : Nat} {R R' : List MK} {LG : List EN} {x : EN} {o : Obj} (h : OnceAt w wx mv (.slice la k lc) R LG i) (h1 : wx.heap.size ≤ W1.heap.size) (hb3 : Below wx.heap.size wx w3)
    (ho : OwnMs W1.heap.size w3 v2 R') (hon : Once R' (LG ++ [x])) (hg : Grown 51 3 EN.cells w.heap.size (w3.alloc o) (.slice la k lc) LG x g5 c5 w5) : OnceAt w w5 v2 (.slice (some ⟨g5, 0, none⟩) (LG.length + 1) c5) R' (LG ++ [x]) (i + 1) := by
  obtain ⟨g1, g2, g3, g4⟩ := hg
  have hlog : ∀ b, (Value.slice la k lc).ownBlock = .some b → w.heap.size ≤ b ∧ b < wx.heap.size := OwnRow.lt h.ls
  have hms : ∀ b, v2.ownBlock = .some b → W1.heap.size ≤ b ∧ b < w3.heap.size := OwnRow.lt ho
  have hal := Go.Joins.below_alloc1 w3 o
  have hw3 := h.below hb3
  refine ⟨?_, g1, fun b hb e => ?_, ?_, hon, by rw [List.length_append]; have := h.len; simp; omega⟩
  · refine OwnMs.base_le (base := W1.heap.size) ?_ (Nat.le_trans h.bel.size h1)
    refine OwnRow.chg (ho.kept hal (Nat.le_refl _)) ((Chg.refl (fun k' => (Value.slice la k lc).ownBlock = .some k') _).grown g2 (fun k' hk' => .inl hk')) (fun b hb hb' => ?_)
    have := hlog b hb'
    have := hms b hb
    omega
  · have := hms b hb
    have e' : g5 = b := by simpa [Value.ownBlock] using e
    rcases g3 with g3 | g3
    · have := hlog g5 g3; omega
    · rw [World.size_alloc] at g3; omega
  · exact (hw3.bel.trans (hal.mono hw3.bel.size)).grown g2 (Nat.le_trans hw3.bel.size hal.size) (fun b hb => (hlog b hb).1)
end Go.Proofs.Ytclchlcfcnlmhaa
