/- Set, of any row of fragments. -/
import Derived.Test.YtpihogkhfmijcaaFragm
namespace Go.Proofs.Ytpihogkhfmijcaa
open Go.RowKit Go.Maps Go.Shelf
/-- the write set of an entry -/
def setL (f : Int) (row : List PL) (n k : Int) : List PL := if f ≤ k ∧ hasB row n = true then rot row ((k - f) % (row.length : Int)).toNat n.toNat else []
set_option maxRecDepth 100000 in
set_option maxHeartbeats 1000000 in
/-- the write set of an entry, by any row -/
def setV (L : List FV) (n k : Int) : List PL := match fragV L k with
  | none => []
  | some x => setL x.f x.ps n k
theorem setL_ok {f n k : Int} {row : List PL} (h : ∀ q ∈ row, q.ok) : ∀ q ∈ setL f row n k, q.ok := by
  unfold setL
  split
  · rename_i hh
    have h0 : 0 < row.length := by
      have := hh.2
      unfold hasB at this
      simp at this
      omega
    exact rot_ok h0 h
  · simp
theorem set_any (v : Value) (n k : Int) (L : List FV) (w : World) (h : FsAt w v L) (hl : ∀ x ∈ L, x.ps.length ≤ 100000) (hk : 0 ≤ k ∧ k ≤ 18446744073709551615) :
    Calls Try.prog 21 #[v, .int .i64 n, .int .u64 k] w fun e w' => ∃ v', e = .returned v' ∧ OwnPs w.heap.size w' v' (setV L n k) ∧ Below w.heap.size w w' := by
  have HF := Lib.hid (fragment_any v k L w h)
  have HL := Lib.hid (RowAt.each h)
  have HLL := Lib.hid hl
  obtain ⟨va, vc, rfl, -⟩ := RowAt.form h
  clear h hl
  unfold setV
  cases hfv : fragV L k with
  | none =>
    rw [hfv] at HF
    go_enter Try.func21, Try.ntmps21
    go_wp2_with fail
    refine HF.out.mono ?_
    rintro e w1 ⟨⟨-, rfl⟩ | ⟨x, hx, -⟩, hb1⟩
    · have HB1 := Lib.hid (hb1.alloc hb1.size (.cells #[.int .u64 0, .slice none 0 0] 70))
      clear hb1
      go_wp2
      go_ret
      exact ⟨_, rfl, World.ownsRow_nil _ _ _ _, HB1.out⟩
    · cases hx
  | some x =>
    obtain ⟨hxm, hfk⟩ := fragV_mem hfv
    obtain ⟨hf, hp⟩ := HL.out x hxm
    have hl := HLL.out x hxm
    obtain ⟨f, a, c, row⟩ := x
    dsimp only at hfk hf hp hl ⊢
    unfold u64ok at hf
    replace HF := Lib.hid (show Calls Try.prog 34 #[.slice va L.length vc, .int .u64 k] w fun e w' => e = .returned (.tuple #[.agg #[.int .u64 f, .slice a row.length c], .bool true]) ∧ Below w.heap.size w w' from HF.out.mono fun e w' ⟨hh, hb⟩ => by
      rcases hh with ⟨hn, -⟩ | ⟨y, hy, he⟩
      · rw [hfv] at hn; cases hn
      · rw [hfv] at hy; cases hy; exact ⟨he, hb⟩)
    generalize L.length = LL at HF ⊢
    clear HL HLL hxm hfv
    have HP := Lib.hid hp
    have HH := Lib.hid (fun w => hasset_any f n a c row w)
    obtain ⟨E, hE⟩ : ∃ E, row.length = E := ⟨_, rfl⟩
    unfold setL
    rw [hE] at HF HP HH hl ⊢
    have HE := Lib.hid hE
    clear hE hp
    cases hb : hasB row n
    · rw [hb] at HH
      rw [if_neg (by simp)]
      go_enter Try.func21, Try.ntmps21
      go_wp2_with fail
      refine HF.out.mono ?_
      rintro e w1 ⟨rfl, hb1⟩
      have HB1 := Lib.hid (hb1.alloc hb1.size (.cells #[.int .u64 f, .slice a E c] 70))
      clear hb1
      go_wp2_with (go_at_call 35; refine (HH.out _).mono ?_; rintro e w2 ⟨rfl, hb2⟩; have HB2 := Lib.hid (HB1.out.trans (hb2.mono HB1.out.size)); clear hb2)
      go_ret
      exact ⟨_, rfl, World.ownsRow_nil _ _ _ _, HB2.out⟩
    · rw [hb] at HH
      have hbn : 1 ≤ n ∧ n ≤ (E : Int) := by
        unfold hasB at hb
        rw [HE.out] at hb
        simpa using hb
      rw [if_pos ⟨hfk, rfl⟩]
      obtain ⟨N, rfl⟩ : ∃ N : Nat, n = N := ⟨n.toNat, by omega⟩
      obtain ⟨J, hJ⟩ : ∃ J : Nat, (k - f) % (E : Int) = J := ⟨((k - f) % (E : Int)).toNat, by have := Int.emod_nonneg (k - f) (show (E : Int) ≠ 0 by omega); omega⟩
      have hJE : J < E := by have := Int.emod_lt_of_pos (k - f) (show (0 : Int) < E by omega); omega
      have HRD := Lib.hid (fun w1 (hb : Below w.heap.size w w1) => round_any (.slice a E c) row J N w1 (HP.out.below hb) (by rw [HE.out]; omega) (by rw [HE.out]; omega) (by omega) (by omega))
      rw [hJ, show ((J : Int)).toNat = J from Int.toNat_natCast J, show ((N : Int)).toNat = N from Int.toNat_natCast N]
      have e1 : IntKind.u64.wrap (k - f) = k - f := by rw [wrapu]; omega
      have e2 : (k - f).tmod (E : Int) = (J : Int) := by rw [Int.tmod_eq_emod_of_nonneg (by omega)]; exact hJ
      have e3 : IntKind.u64.wrap (E : Int) = E := by rw [wrapu]; omega
      have hE0 : (E : Int) ≠ 0 := by omega
      have hEb : ((E : Int) == 0) = false := by simp; omega
      go_enter Try.func21, Try.ntmps21
      go_wp2_with fail
      refine HF.out.mono ?_
      rintro e w1 ⟨rfl, hb1⟩
      obtain ⟨W, hW⟩ : ∃ W, W = w1.alloc (.cells #[.int .u64 f, .slice a E c] 70) := ⟨_, rfl⟩
      have hB1 : Below w.heap.size w W := by rw [hW]; exact hb1.alloc hb1.size _
      have hbx : Box25 W w1.heap.size f (.slice a E c) := by rw [hW]; exact Box25.new _ _ _
      have HX : Hid (∀ w2, Below W.heap.size W w2 → w2.cell? ⟨w1.heap.size, 0, none⟩ = some (.int .u64 f) ∧ w2.cell? ⟨w1.heap.size, 1, none⟩ = some (.slice a E c) ∧ Below w.heap.size w w2) := fun w2 h2 => by
        have hlt : w1.heap.size < W.heap.size := by rw [hW, World.size_alloc]; omega
        exact ⟨(h2.cell (p := ⟨w1.heap.size, 0, none⟩) hlt).trans hbx.c0, (h2.cell (p := ⟨w1.heap.size, 1, none⟩) hlt).trans hbx.c1, hB1.trans (h2.mono hB1.size)⟩
      have HHW := Lib.hid (HH.out W)
      clear hb1 hbx hB1 HH HF
      subst hW
      go_wp2_with fail
      refine HHW.out.mono ?_
      rintro e w2 ⟨rfl, hb2⟩
      obtain ⟨x0, x1, hB2⟩ := HX.out w2 hb2
      have HR := Lib.hid (HRD.out w2 hB2)
      have HB2 := Lib.hid hB2
      clear hb2 hB2 HX HHW
      go_wp2_with fail
      refine HR.out.mono ?_
      rintro e w3 ⟨rfl, ho3, hb3⟩
      have H3 := Lib.hid (And.intro (ho3.base_le HB2.out.size) (HB2.out.trans (hb3.mono HB2.out.size)))
      clear ho3 hb3
      go_wp2
      go_ret
      exact ⟨_, rfl, H3.out⟩
end Go.Proofs.Ytpihogkhfmijcaa
