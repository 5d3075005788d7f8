/- extend; Pick. -/
import Derived.Test.YtnfjhpdpeihheaaInts
namespace Go.Proofs.Ytnfjhpdpeihheaa
open Go.RowKit Go.Maps Go.Shelf
/-- those of known behind a row whose nodes are not there, up to so many in all -/
def ext (row : List PL) (most : Int) (known : List PL) : List PL :=
  known.foldl (fun r p => if decide ((r.length : Int) < most) = true ∧ r.any (fun q => q.n == p.n) = false then r ++ [p] else r) row
theorem ext_snoc (row : List PL) (most : Int) (known : List PL) (x : PL) : ext row most (known ++ [x]) = if decide (((ext row most known).length : Int) < most) = true ∧ (ext row most known).any (fun q => q.n == x.n) = false then ext row most known ++ [x] else ext row most known := by
  unfold ext
  rw [List.foldl_append]
  rfl
theorem ext_nil (row : List PL) (most : Int) : ext row most [] = row := rfl
theorem ext_len (row : List PL) (most : Int) (known : List PL) : (ext row most known).length ≤ row.length + known.length := by
  unfold ext
  induction known generalizing row with
  | nil => simp
  | cons x l ih =>
    rw [List.foldl_cons]
    refine Nat.le_trans (ih _) ?_
    split <;> simp only [List.length_append, List.length_cons, List.length_nil] <;> omega
theorem ext_mem {row known : List PL} {most : Int} : ∀ q ∈ ext row most known, q ∈ row ∨ q ∈ known := by
  unfold ext
  induction known generalizing row with
  | nil => intro q hq; exact .inl hq
  | cons x l ih =>
    intro q hq
    rw [List.foldl_cons] at hq
    rcases ih q hq with h | h
    · split at h
      · rcases List.mem_append.1 h with h | h
        · exact .inl h
        · rw [List.mem_singleton] at h; exact .inr (by rw [h]; exact List.mem_cons_self)
      · exact .inl h
    · exact .inr (List.mem_cons_of_mem _ h)
theorem ps_one (w : World) (x : PL) (hx : x.ok) : PsAt (w.alloc (.cells #[.int .i64 x.n, .int .u64 x.s] 38)) (.slice (some ⟨w.heap.size, 0, none⟩) 1 1) [x] := by
  refine ⟨_, _, rfl, by simp, Nat.le_refl _, (fun h => by cases h), fun _ => ⟨w.heap.size, 0, rfl, by rw [World.size_alloc]; omega, fun j y hj => ?_⟩⟩
  cases j with
  | zero =>
    simp at hj
    subst hj
    refine ⟨hx, fun r hr => ?_⟩
    rw [World.cell?_alloc_new]
    have h2 : r = 0 ∨ r = 1 := by omega
    rcases h2 with rfl | rfl <;> rfl
  | succ j => simp at hj
set_option maxRecDepth 100000 in
set_option maxHeartbeats 2000000 in
theorem extend_any (v u : Value) (row known : List PL) (most : Int) (base : Nat) (w : World) (ho : OwnPs base w v row) (hok : ∀ q ∈ row, q.ok) (hb : base ≤ w.heap.size) (hk : ∀ W, Below base w W → PsAt W u known) (hl : row.length ≤ 100000) (hl2 : known.length ≤ 100000) :
    Calls Try.prog 43 #[v, .int .i64 most, u] w fun e w' => ∃ v', e = .returned v' ∧ OwnPs base w' v' (ext row most known) ∧ Below base w w' := by
  have HK := Lib.hid hk
  have HBS := Lib.hid hb
  have HOK := Lib.hid (show ∀ k, ∀ q ∈ ext row most (known.take k), q.ok from fun k q hq => by
    rcases ext_mem q hq with h | h
    · exact hok q h
    · exact (hk w (Below.refl _ _)).ok q (List.mem_of_mem_take h))
  obtain ⟨a, cap, rfl, hlen, -, -⟩ := (hk w (Below.refl _ _)).form
  obtain ⟨L, hL⟩ : ∃ L, known.length = L := ⟨_, rfl⟩
  rw [hL] at hlen HK hl2 ⊢
  have HL := Lib.hid hL
  have HLE := Lib.hid (show ∀ k, (ext row most (known.take k)).length ≤ 200000 from fun k => by
    have := ext_len row most (known.take k)
    have := List.length_take (i := k) (l := known)
    have := HL.out
    omega)
  have HO := Lib.hid ho
  have hmf : ∀ (fn : Fn) (first cap : Array Value) (w : World), (Instr.makeFunc fn first cap).run Try.prog w = .ok (.func fn first cap) w := fun _ _ _ _ => rfl
  clear hk hb hok hL ho hl
  go_enter Try.func43, Try.ntmps43
  go_wp2
  go_loopw [0, 12] (fun s i wr => ∃ k : Nat, k ≤ L ∧ i = .int .i64 (k : Nat) ∧ Hid (OwnPs base wr s (ext row most (known.take k)) ∧ Below base w wr)) (fun _ i _ => L - (intOf i).toNat)
  case atStart => exact ⟨0, Nat.zero_le _, rfl, HO.out, Below.refl _ _⟩
  case round =>
    obtain ⟨k, hk, rfl, HR⟩ := hrel
    by_cases hlt : k < L
    · obtain ⟨x, hx⟩ : ∃ x, known[k]? = some x := ⟨_, List.getElem?_eq_getElem (by rw [HL.out]; exact hlt)⟩
      have hltz : (k : Int) < (L : Int) := by omega
      obtain ⟨r3, r4⟩ := HR.out
      have hPK := HK.out wr r4
      obtain ⟨b, off, rfl, hb, hc⟩ := PsAt.cell hPK hx
      obtain ⟨c0, c1⟩ := hc wr (Below.refl _ _)
      have hxo := hPK.ok x (List.mem_of_getElem? hx)
      have hsn := ext_snoc row most (known.take k) x
      rw [← take_snoc hx] at hsn
      have hroks := HOK.out k
      have hle := HLE.out k
      obtain ⟨R, hR⟩ : ∃ R, ext row most (known.take k) = R := ⟨_, rfl⟩
      rw [hR] at r3 hsn hroks hle
      obtain ⟨W, hW⟩ : ∃ W, W = wr.alloc (.cells #[.int .i64 x.n, .int .u64 x.s] 38) := ⟨_, rfl⟩
      have hBr : Below wr.heap.size wr W := by rw [hW]; exact Go.Joins.below_alloc1 wr _
      have hbs : base ≤ wr.heap.size := Nat.le_trans HBS.out r4.size
      have hBW : Below base w W := r4.trans (hBr.mono hbs)
      have hgW : wr.heap.size < W.heap.size := by rw [hW, World.size_alloc]; omega
      have x0 : W.cell? ⟨wr.heap.size, 0, none⟩ = some (.int .i64 x.n) := by rw [hW, World.cell?_alloc_new]; rfl
      have x1 : W.cell? ⟨wr.heap.size, 1, none⟩ = some (.int .u64 x.s) := by rw [hW, World.cell?_alloc_new]; rfl
      have hoW : OwnPs base W u0 R := r3.kept hBr (Nat.le_refl _)
      have hPR : PsAt W u0 R := hoW.at hroks
      obtain ⟨ra, rc, rfl, -, -, -⟩ := hPR.form
      have HCT := Lib.hid (contains_any (.slice ra R.length rc) R 58 (.pointer (some ⟨wr.heap.size, 0, none⟩)) (fun q => q.n == x.n) W hPR (there_asks hgW x0))
      have HXO := Lib.hid hxo
      by_cases hlm : ((R.length : Nat) : Int) < most
      · rw [decide_eq_true hlm] at hsn
        cases hany : R.any (fun q => q.n == x.n)
        · rw [hany] at HCT hsn
          rw [if_pos ⟨rfl, rfl⟩] at hsn
          have HSN := Lib.hid hsn
          have HW1 := Lib.hid (show ∀ w1, Below W.heap.size W w1 → (w1.cell? ⟨wr.heap.size, 0, none⟩ = some (.int .i64 x.n) ∧ w1.cell? ⟨wr.heap.size, 1, none⟩ = some (.int .u64 x.s)) ∧ OwnPs base w1 (.slice ra R.length rc) R ∧ Below base w w1 ∧ base ≤ w1.heap.size from fun w1 h1 =>
            ⟨⟨(h1.cell (p := ⟨wr.heap.size, 0, none⟩) hgW).trans x0, (h1.cell (p := ⟨wr.heap.size, 1, none⟩) hgW).trans x1⟩, hoW.kept h1 (Nat.le_refl _), hBW.trans (h1.mono (by have := hBr.size; omega)), by have := h1.size; have := hBr.size; omega⟩)
          have HLE2 := Lib.hid hle
          clear hany hsn hroks hle r3 r4 hPK hb hc hxo hR hBr hBW hgW x0 x1 hoW hPR HR hbs hx
          subst hW
          go_wp2_with fail
          refine HCT.out.mono ?_
          rintro e w1 ⟨rfl, hb1⟩
          obtain ⟨⟨x0, x1⟩, ho1, hB1, hbs1⟩ := HW1.out w1 hb1
          have HA : Hid (OwnPs base (w1.alloc (.cells #[.int .i64 x.n, .int .u64 x.s] 38)) (.slice ra R.length rc) R ∧ PsAt (w1.alloc (.cells #[.int .i64 x.n, .int .u64 x.s] 38)) (.slice (some ⟨w1.heap.size, 0, none⟩) 1 1) [x] ∧ Below base w (w1.alloc (.cells #[.int .i64 x.n, .int .u64 x.s] 38)) ∧ base ≤ (w1.alloc (.cells #[.int .i64 x.n, .int .u64 x.s] 38)).heap.size) :=
            ⟨ho1.kept (Go.Joins.below_alloc1 w1 _) (Nat.le_refl _), ps_one w1 x HXO.out, hB1.trans ((Go.Joins.below_alloc1 w1 _).mono hbs1), by rw [World.size_alloc]; omega⟩
          clear hb1 ho1 hB1 hbs1 HW1 HCT
          go_wp2_with (at_builtin; refine wpList_append_rows rfl _ _ 23 38 2 16 _ PL.cells rfl Try.underlying23 info38 rfl (by decide) (by decide) (fun _ => rfl) base _ _ R [x] rfl rfl HA.out.1 HA.out.2.1 (ps_oneCell _) (by have := HLE2.out; simp only [List.length_cons, List.length_nil]; omega) HA.out.2.2.2 ?_; intro v2 w2 ho2 hg2; have H2 : Hid (OwnPs base w2 v2 (R ++ [x]) ∧ Below base w w2) := ⟨ho2, HA.out.2.2.1.grown hg2 (Nat.le_trans HBS.out HA.out.2.2.1.size) (fun j hj => (HA.out.1.own j hj))⟩; clear ho2 hg2)
          go_roundw
          case rel => exact ⟨k + 1, by omega, by go_num, by rw [HSN.out]; exact H2.out⟩
          case measure => simp [intOf]; omega
        · rw [hany] at HCT hsn
          rw [if_neg (by simp)] at hsn
          have HSN := Lib.hid hsn
          have HW1 := Lib.hid (show ∀ w1, Below W.heap.size W w1 → OwnPs base w1 (.slice ra R.length rc) R ∧ Below base w w1 from fun w1 h1 =>
            ⟨hoW.kept h1 (Nat.le_refl _), hBW.trans (h1.mono (by have := hBr.size; omega))⟩)
          clear hany hsn hroks hle r3 r4 hPK hb hc hxo hR hBr hBW hgW x0 x1 hoW hPR HR hbs hx
          subst hW
          go_wp2_with fail
          refine HCT.out.mono ?_
          rintro e w1 ⟨rfl, hb1⟩
          have H2 := Lib.hid (HW1.out w1 hb1)
          clear hb1
          go_wp2
          go_roundw
          case rel => exact ⟨k + 1, by omega, by go_num, by rw [HSN.out]; exact H2.out⟩
          case measure => simp [intOf]; omega
      · rw [decide_eq_false hlm] at hsn
        rw [if_neg (by simp)] at hsn
        have HSN := Lib.hid hsn
        have HW1 := Lib.hid (And.intro hoW hBW)
        clear hsn hroks hle r3 r4 hPK hb hc hxo hR hBr hBW hgW x0 x1 hoW hPR HR hbs hx HCT
        subst hW
        go_wp2
        go_roundw
        case rel => exact ⟨k + 1, by omega, by go_num, by rw [HSN.out]; exact HW1.out⟩
        case measure => simp [intOf]; omega
    · obtain rfl : k = L := by omega
      have H := Lib.hid (show OwnPs base wr u0 (ext row most known) ∧ Below base w wr from by have := HR.out; rw [take_all HL.out] at this; exact this)
      clear HR
      go_wp2
      go_ret
      exact ⟨_, rfl, H.out⟩
/-- the nodes that are barred, left out -/
def free (known : List PL) (not : List Int) : List PL := rej (fun x => not.contains x.n) known
def pickOk (e n : Int) : Bool := !(decide (n < 1) || decide (e < n) || decide (5 < e))
def picked (known : List PL) (e : Int) (not : List Int) : List PL := ext [] e (free known not)
theorem picked_len (known : List PL) (e : Int) (not : List Int) : (picked known e not).length ≤ known.length := by
  have := ext_len [] e (free known not)
  have := rej_len (fun x => not.contains x.n) known
  unfold picked free at *
  simp only [List.length_nil] at *
  omega
set_option maxRecDepth 100000 in
set_option maxHeartbeats 1000000 in
theorem pick_any (v u : Value) (known : List PL) (e n : Int) (not : List Int) (w : World) (hp : PsAt w v known) (hq : IntsAt w u not) (hl : known.length ≤ 100000) (hl2 : not.length ≤ 100000) :
    Calls Try.prog 18 #[v, .int .i64 e, .int .i64 n, u] w fun x w' => ∃ v', x = .returned (.tuple #[v', .int .i64 (if pickOk e n = true then (if ((picked known e not).length : Int) < n then 3 else 0) else 1)]) ∧ OwnPs w.heap.size w' v' (if pickOk e n = true then (if ((picked known e not).length : Int) < n then [] else picked known e not) else []) ∧ Below w.heap.size w w' := by
  have HA := Lib.hid (amongI_any u not w hq hl2)
  have HP := Lib.hid hp
  clear hp hq
  cases hpk : pickOk e n
  · simp only [Bool.false_eq_true, if_false]
    have HB := Lib.hid (Below.refl w.heap.size w)
    unfold pickOk at hpk
    by_cases h1 : n < 1
    · go_enter Try.func18, Try.ntmps18
      go_wp2
      go_ret2
      exact ⟨_, rfl, World.ownsRow_nil _ _ _ _, HB.out⟩
    · by_cases h2 : e < n
      · go_enter Try.func18, Try.ntmps18
        go_wp2
        go_ret2
        exact ⟨_, rfl, World.ownsRow_nil _ _ _ _, HB.out⟩
      · have h3 : 5 < e := by simp [h1, h2] at hpk; omega
        go_enter Try.func18, Try.ntmps18
        go_wp2
        go_ret2
        exact ⟨_, rfl, World.ownsRow_nil _ _ _ _, HB.out⟩
  · simp only [if_true]
    unfold pickOk at hpk
    obtain ⟨RA, hRA⟩ : ∃ RA : Int, (if ((picked known e not).length : Int) < n then 3 else 0) = RA := ⟨_, rfl⟩
    obtain ⟨RB, hRB⟩ : ∃ RB : List PL, (if ((picked known e not).length : Int) < n then [] else picked known e not) = RB := ⟨_, rfl⟩
    rw [hRA, hRB]
    have HRA := Lib.hid hRA
    have HRB := Lib.hid hRB
    clear hRA hRB
    have h1 : ¬ n < 1 := by intro h; simp [h] at hpk
    have h2 : ¬ e < n := by intro h; simp [h] at hpk
    have h3 : ¬ 5 < e := by intro h; simp [h] at hpk
    have hmf : ∀ (fn : Fn) (first cap : Array Value) (w : World), (Instr.makeFunc fn first cap).run Try.prog w = .ok (.func fn first cap) w := fun _ _ _ _ => rfl
    clear hpk
    go_enter Try.func18, Try.ntmps18
    go_wp2_with fail
    refine HA.out.mono ?_
    rintro x w1 ⟨rfl, a1, a2, a3, a4⟩
    obtain ⟨W, hW⟩ : ∃ W, W = w1.alloc (.cells #[.func (.func 56) #[] #[.pointer (some ⟨w.heap.size + 1, 0, none⟩)]] 71) := ⟨_, rfl⟩
    have hBr : Below w1.heap.size w1 W := by rw [hW]; exact Go.Joins.below_alloc1 w1 _
    have hB : Below w.heap.size w W := a4.trans (hBr.mono a4.size)
    have hbar : BarAt W w1.heap.size (w.heap.size + 1) w.heap.size not :=
      ⟨by rw [hW, World.size_alloc]; omega, by rw [hW, World.cell?_alloc_new]; rfl, by have := hBr.size; omega, (hBr.cell (p := ⟨w.heap.size + 1, 0, none⟩) a2).trans a1, a3.below hBr (Nat.le_refl _)⟩
    have HWO := Lib.hid (without_any v known 42 (.pointer (some ⟨w1.heap.size, 0, none⟩)) (fun x => not.contains x.n) W (HP.out.below hB) hl hbar.asks)
    have HPK := Lib.hid HP.out.ok
    have HB := Lib.hid hB
    clear a1 a2 a3 a4 hBr hbar hB HA
    subst hW
    go_wp2_with fail
    refine HWO.out.mono ?_
    rintro x w2 ⟨v2, rfl, ho2, hb2⟩
    have hbs : w.heap.size ≤ w2.heap.size := by have := HB.out.size; have := hb2.size; omega
    have hfl := rej_len (fun x => not.contains x.n) known
    have HEX := Lib.hid (extend_any (.slice none 0 0) v2 [] (rej (fun x => not.contains x.n) known) e w2.heap.size w2 (World.ownsRow_nil _ _ _ _) (fun q hq => by cases hq) (Nat.le_refl _) (fun W hW => (ho2.at (rej_ok HPK.out)).below hW) (by simp) (by omega))
    have HB2 := Lib.hid (show Below w.heap.size w w2 ∧ w.heap.size ≤ w2.heap.size from ⟨HB.out.trans (hb2.mono HB.out.size), hbs⟩)
    clear ho2 hb2 hbs hfl HWO HB
    go_wp2_with fail
    refine HEX.out.mono ?_
    rintro x w3 ⟨v3, rfl, ho3, hb3⟩
    change OwnPs w2.heap.size w3 v3 (picked known e not) at ho3
    have hplen := picked_len known e not
    have hok3 : ∀ q ∈ picked known e not, q.ok := fun q hq => by
      rcases ext_mem q hq with h | h
      · cases h
      · exact rej_ok HPK.out q h
    obtain ⟨a3, c3, rfl, -, -, -⟩ := (ho3.at hok3).form
    have H3 := Lib.hid (show OwnPs w.heap.size w3 (.slice a3 (picked known e not).length c3) (picked known e not) ∧ Below w.heap.size w w3 from ⟨ho3.base_le HB2.out.2, HB2.out.1.trans (hb3.mono HB2.out.2)⟩)
    clear ho3 hb3 hok3 HEX
    obtain ⟨M, hM⟩ : ∃ M, (picked known e not).length = M := ⟨_, rfl⟩
    rw [hM] at H3 hplen ⊢
    have HM := Lib.hid hM
    by_cases hlt : (M : Int) < n
    · obtain rfl : RA = 3 := by rw [← HRA.out, hM, if_pos hlt]
      obtain rfl : RB = [] := by rw [← HRB.out, hM, if_pos hlt]
      clear hM
      go_wp2
      go_ret2
      exact ⟨_, rfl, World.ownsRow_nil _ _ _ _, H3.out.2⟩
    · obtain rfl : RA = 0 := by rw [← HRA.out, hM, if_neg hlt]
      obtain rfl : RB = picked known e not := by rw [← HRB.out, hM, if_neg hlt]
      clear hM
      go_wp2
      go_ret2
      exact ⟨_, rfl, H3.out⟩
end Go.Proofs.Ytnfjhpdpeihheaa
