/- scrivenerref01.Open. -/
import Derived.Test.YtimgbemdkajemaaDoorLawOne
import Derived.Deep.RegionWith
namespace Go.Proofs.YtimgbemdkajemaaDoor
open Go.RowKit Crc
theorem refOpen_short (v : Value) (l : List UInt8) (w : World) (hp : BytesAt w v l) (hs : l.length < 4) :
    Calls Tryd.prog 14 #[v] w (Refuses w) := by
  obtain ⟨a, cap, rfl, hlen, _⟩ := hp.form
  clear hlen hp
  go_enter Tryd.func14, Tryd.ntmps14
  go_wp2
  go_ret2
  exact ⟨rfl, Below.refl _ _⟩
theorem BytesAt.drew {w : World} {v : Value} {l : List UInt8} (h : BytesAt w v l) : BytesAt w.drew v l := h.below (Below.refl _ _).drew (Nat.le_refl _)
set_option maxHeartbeats 2000000 in
theorem refOpen_long (v : Value) (m : List UInt8) (y0 y1 y2 y3 : UInt8) (w : World) (hp : BytesAt w v (m ++ [y0, y1, y2, y3])) (hsmall : m.length ≤ 70000) (ok : Bool) (hok : ok = decide ([y0, y1, y2, y3] = le4 (crc m))) :
    Calls Tryd.prog 14 #[v] w (OpenPost w m ok) := by
  have HP := Lib.hid hp
  rcases hp with ⟨_, h0⟩ | ⟨ad, cap, rfl, hlen, hc⟩
  · exact absurd h0 (by simp)
  · obtain ⟨n, hn⟩ : ∃ n, m.length = n := ⟨_, rfl⟩
    have hl : (m ++ [y0, y1, y2, y3]).length = n + 4 := by simp [hn]
    obtain ⟨b, off, rfl, hb, hc⟩ := hc (by omega)
    rw [hl] at hlen hc HP ⊢
    have HM : Hid (BytesAt w (.slice (some ⟨b, off, none⟩) n cap) m) := by
      rw [← hn]
      exact BytesAt.mk' b off cap (by rw [hn]; unfold maxLen at hlen ⊢; omega) (fun _ => hb) (fun j hj => by
        have := hc j (by omega)
        rw [List.getD_eq_getElem?_getD, List.getElem?_append_left hj, ← List.getD_eq_getElem?_getD] at this
        exact this)
    have hcap : n + 4 ≤ cap := hlen.2
    have HN := Lib.hid hn
    rw [hn] at hsmall
    have HCMP : Hid ((sealed m == m ++ [y0, y1, y2, y3]) = ok) := by
      by_cases he : [y0, y1, y2, y3] = le4 (crc m)
      · rw [hok, decide_eq_true he, he]; exact beq_self_eq_true (m ++ le4 (crc m))
      · rw [hok, decide_eq_false he]; exact beq_eq_false_iff_ne.2 (fun h => he (List.append_cancel_left (show m ++ le4 (crc m) = m ++ [y0, y1, y2, y3] from h)).symm)
    clear hc hl hlen hn hok
    go_enter Tryd.func14, Tryd.ntmps14
    go_wp2_with (first | (at_builtin; refine wpList_append_bytes rfl (.tmp 8) (.tmp 13) rfl w.heap.size _ _ _ m rfl rfl (own_empty w) (HM.out.below ((Below.refl _ _).alloc (Nat.le_refl _) _) (Nat.le_refl _)) (by rw [HN.out]; simp; omega) (by simp) ?_; intro v4 w4 hown4 hgrow4; have HO4 : Hid (OwnBytes w.heap.size w4 v4 m) := hown4; have HB4 : Hid (Below w.heap.size w w4) := ((Below.refl _ _).alloc (Nat.le_refl _) _).grown hgrow4 (by simp) (own_empty w).own; clear hown4 hgrow4))
    have hsb0 := string_bytes (HP.out.below HB4.out (Nat.le_refl _)).drew
    go_region_with (first | (go_at_call 12; refine (refSeal_any _ m _ ?_ ?_).mono ?_; exact HO4.out.bytesAt.drew; (rw [HN.out]; omega); rintro e w5 ⟨v5, rfl, hown, hb⟩; have hs5 := string_bytes hown.bytesAt; have HB5 : Hid (Below w.heap.size w w5) := HB4.out.drew.trans (hb.mono HB4.out.size); have HO5 : Hid (OwnBytes w.heap.size w5 v4 m) := HO4.out.kept ((Below.refl _ _).drew.trans hb) (Nat.le_refl _); have hsb5 := string_bytes (HP.out.below HB5.out (Nat.le_refl _)); clear hown hb))
    all_goals have hcmp := HCMP.out
    all_goals clear hs5 hsb5 hsb0
    all_goals (cases ok)
    all_goals go_wp2
    all_goals go_ret2
    all_goals first
      | exact absurd (show (!(sealed m == m ++ [y0, y1, y2, y3])) = false by assumption) (by rw [hcmp]; decide)
      | exact absurd (show (!(sealed m == m ++ [y0, y1, y2, y3])) = true by assumption) (by rw [hcmp]; decide)
      | exact ⟨(fun h => by cases h), fun _ => ⟨rfl, HB5.out⟩⟩
      | exact ⟨fun _ => ⟨_, rfl, HO5.out, HB5.out⟩, (fun h => by cases h)⟩
end Go.Proofs.YtimgbemdkajemaaDoor
