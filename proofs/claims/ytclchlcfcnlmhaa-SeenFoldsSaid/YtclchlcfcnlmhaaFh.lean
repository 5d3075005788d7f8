/- long; rows of entries one behind the other. -/
import Derived.Test.YtclchlcfcnlmhaaAwake
namespace Go.Proofs.Ytclchlcfcnlmhaa
open Go.RowKit Go.Maps Go.Shelf
set_option linter.unusedSimpArgs false
set_option maxHeartbeats 1000000 in
theorem long_any (v : Value) (l : List EN) (w : World) (hp : EsAt w v l) : Calls Try.prog 21 #[v] w fun e w' => ∃ b : Bool, e = .returned (.bool b) ∧ (b = false → l.length ≤ 1000) ∧ Below w.heap.size w w' := by
  have HP := Lib.hid hp
  obtain ⟨a, cap, rfl, hlen, -⟩ := hp
  obtain ⟨L, hL⟩ : ∃ L, l.length = L := ⟨_, rfl⟩
  rw [hL] at hlen HP ⊢
  have HL := Lib.hid hL
  clear hL
  go_enter Try.func21, Try.ntmps21
  go_wp2
  go_loopw [3, 4] (fun s i wr => ∃ (k : Nat) (n : Int), k ≤ L ∧ i = .int .i64 (k : Nat) ∧ s = .int .i64 n ∧ (k : Int) ≤ n ∧ n ≤ 1000 ∧ Hid (Below w.heap.size w wr)) (fun _ i _ => L - (intOf i).toNat)
  case atStart => exact ⟨0, 0, Nat.zero_le _, rfl, rfl, by omega, by omega, Below.refl _ _⟩
  case round =>
    obtain ⟨k, n, hk, rfl, rfl, hkn, hn, HR⟩ := hrel
    by_cases hlt : k < L
    · obtain ⟨x, hx⟩ : ∃ x, l[k]? = some x := ⟨_, List.getElem?_eq_getElem (by rw [HL.out]; exact hlt)⟩
      have hltz : (k : Int) < (L : Int) := by omega
      have hxn := (HP.out.ok x (List.mem_of_getElem? hx)).2.2
      obtain ⟨b, off, rfl, hb, hc⟩ := EsAt.cell (HP.out.below HR.out) hx
      obtain ⟨c0, c1, c2⟩ := hc wr (Below.refl _ _)
      obtain ⟨d, hd⟩ : ∃ d : Int, (x.n : Int).tdiv 64 = d := ⟨_, rfl⟩
      have hd0 : 0 ≤ d ∧ d ≤ 144115188075855872 := by
        rw [← hd, Int.tdiv_eq_ediv_of_nonneg (by omega)]
        omega
      have w1 : IntKind.i64.wrap d = d := wrap_i64 (by omega) (by omega)
      have w2 : IntKind.i64.wrap (1 + d) = 1 + d := wrap_i64 (by omega) (by omega)
      have w3 : IntKind.i64.wrap (n + (1 + d)) = n + (1 + d) := wrap_i64 (by omega) (by omega)
      clear hb hx hc c0 c1 hxn
      by_cases hg : 1000 < n + (1 + d)
      · go_wp2
        go_ret
        first | exact ⟨true, rfl, by simp, HR.out⟩ | exact .inr ⟨rfl, HR.out⟩ | exact HR.out
      · go_wp2
        go_roundw
        case rel => exact ⟨k + 1, n + (1 + d), by omega, by go_num, rfl, by omega, by omega, HR.out⟩
        case measure => simp [intOf]; omega
    · obtain rfl : k = L := by omega
      go_wp2
      go_ret
      first | exact ⟨false, rfl, fun _ => by omega, HR.out⟩ | exact .inl ⟨rfl, by omega, HR.out⟩
abbrev OwnEs (base : Nat) (w : World) (v : Value) (l : List EN) : Prop := OwnRow 51 3 EN.cells base w v l
theorem info51 : (Try.prog.info? 51).map (fun i => (i.zero, i.size, i.bytes)) = some (some (.agg #[.int .i64 0, .int .u64 0, .slice none 0 0]), 3, 40) := by kernel_rfl
theorem es_oneCell (l : List EN) : ∀ u ∈ l.flatMap EN.cells, u.oneCell' = true := by
  intro u hu
  obtain ⟨x, _, hu⟩ := List.mem_flatMap.1 hu
  simp only [EN.cells, List.mem_cons, List.not_mem_nil, or_false] at hu
  rcases hu with rfl | rfl | rfl <;> rfl
theorem OwnEs.at {base : Nat} {w : World} {v : Value} {l : List EN} (h : OwnEs base w v l) (hok : ∀ x ∈ l, x.ok) : EsAt w v l := OwnRow.at (fun _ => rfl) h hok
end Go.Proofs.Ytclchlcfcnlmhaa
