import Derived.Test.YtkjlkbgdkdcboaaGreatDoorLwA
import Derived.Test.YtkjlkbgdkdcboaaGreatDoorWtA
set_option linter.unusedSimpArgs false
set_option linter.unusedVariables false

namespace Go.Proofs.YtkjlkbgdkdcboaaGreatDoor
open Go.RowKit
attribute [local go_sem ↓] Go.wp_at_zero Go.wp_at_succ

structure AkPost (a b : ByteArray) (op : Int) (w : World) (e : Ending) (w' : World) : Prop where
  bel : Below w.heap.size w w'
  out : ∃ u1 u2, e = .returned (.tuple #[u1, u2, .int .i64 (errP a b op).1, .int .i64 (errP a b op).2]) ∧ ((errP a b op).1 = 0 → w'.ownsRow w.heap.size 86 4 u1 (Acre.edgesOf (readP a).1).length (flatE (Acre.edgesOf (readP a).1)) ∧ w'.ownsRow w.heap.size 86 4 u2 (Acre.edgesOf (readP b).1).length (flatE (Acre.edgesOf (readP b).1)))

set_option maxRecDepth 100000 in
set_option maxHeartbeats 1000000 in
theorem askedE_any (a b : ByteArray) (op : Int) (w : World) : Calls Tryz.prog 7 #[.string a, .string b, .int .i64 op] w (AkPost a b op w) := by
  have HA := hide (fun V => rread_any a V)
  have HB := hide (fun V => rread_any b V)
  unfold RReadPost at HA HB
  rw [← reads_same] at HA HB
  have HFa := hide (read_field (s := a))
  have HFb := hide (read_field (s := b))
  obtain ⟨X, hX⟩ : ∃ X, readP a = X := ⟨_, rfl⟩
  obtain ⟨Y, hY⟩ : ∃ Y, readP b = Y := ⟨_, rfl⟩
  have HE : Hid (errP a b op = if X.2.1 = 0 then if Y.2.1 = 0 then if op < 0 ∨ 3 < op then (6, 0) else (0, 0) else (Y.2.1, wrap64 (Y.2.2 + 1000)) else X.2) := hide (by unfold errP; rw [hX, hY])
  rw [hX] at HA HFa
  rw [hY] at HB HFb
  have HRa := hide (show (readP a).1 = X.1 by rw [hX])
  have HRb := hide (show (readP b).1 = Y.1 by rw [hY])
  clear hX hY
  obtain ⟨R, x1, x2⟩ := X
  obtain ⟨S, y1, y2⟩ := Y
  dsimp only at HA HB HFa HFb HE HRa HRb
  have E1 : Hid (¬ x1 = 0 → errP a b op = (x1, x2)) := hide (fun h => by rw [HE.out, if_neg h])
  have E2 : Hid (x1 = 0 → ¬ y1 = 0 → errP a b op = (y1, wrap64 (y2 + 1000))) := hide (fun h h2 => by rw [HE.out, if_pos h, if_neg h2])
  have E3 : Hid (x1 = 0 → y1 = 0 → op < 0 ∨ 3 < op → errP a b op = (6, 0)) := hide (fun h h2 h3 => by rw [HE.out, if_pos h, if_pos h2, if_pos h3])
  have E4 : Hid (x1 = 0 → y1 = 0 → ¬ (op < 0 ∨ 3 < op) → errP a b op = (0, 0)) := hide (fun h h2 h3 => by rw [HE.out, if_pos h, if_pos h2, if_neg h3])
  clear HE
  go_enter Tryz.func7, Tryz.ntmps7
  go_wp2_with fail
  refine (HA.out _).mono ?_
  rintro e V1 ⟨u1, rfl, hr1, hb1⟩
  by_cases hx : x1 = 0
  · subst hx
    have hFa := HFa.out rfl
    have Hr1 := hide hr1
    have Hb1 := hide hb1
    clear hr1 hb1
    go_wp2_with fail
    refine (HB.out _).mono ?_
    rintro e V2 ⟨u2, rfl, hr2, hb2⟩
    have Hb2 := hide (below_call hb2 Hb1.out)
    have Hr2 := hide hr2
    have Hr3 := hide (Hr1.out.later hb2)
    clear hr2 hb2
    by_cases hy : y1 = 0
    · subst hy
      have hFb := HFb.out rfl
      by_cases ho : op < 0 ∨ 3 < op
      · have HE2 := hide (E3.out (by simp) (by simp) ho)
        clear E1 E2 E3 E4
        rcases ho with ho | ho
        · go_wp2
          refine bodyPost_ret (v := .tuple #[.slice none 0 0, .slice none 0 0, .int .i64 6, .int .i64 0]) ?_ rfl ⟨Hb2.out, _, _, by rw [HE2.out], fun h => by rw [HE2.out] at h; exact absurd h (by first | decide | assumption)⟩
          · simp [results, Tryz.results7, go_sem]
        · have ho2 : ¬ op < 0 := by omega
          go_wp2
          refine bodyPost_ret (v := .tuple #[.slice none 0 0, .slice none 0 0, .int .i64 6, .int .i64 0]) ?_ rfl ⟨Hb2.out, _, _, by rw [HE2.out], fun h => by rw [HE2.out] at h; exact absurd h (by first | decide | assumption)⟩
          · simp [results, Tryz.results7, go_sem]
      · have HE2 := hide (E4.out (by simp) (by simp) ho)
        have ho1 : ¬ op < 0 := by omega
        have ho2 : ¬ 3 < op := by omega
        clear E1 E2 E3 E4 ho
        have HEd := hide (fun V (h : Rings V u1 R) => rEdges_any R u1 V h hFa)
        have HEe := hide (fun V (h : Rings V u2 S) => rEdges_any S u2 V h hFb)
        clear hFa hFb
        go_wp2_with fail
        refine (HEd.out _ Hr3.out).mono ?_
        rintro e V3 ⟨u3, rfl, hrw3, hb3⟩
        have HRw3 := hide hrw3
        clear hrw3
        have Hb3 := hide (below_call hb3 Hb2.out)
        have Hr4 := hide (Hr2.out.later hb3)
        clear hb3
        go_wp2_with fail
        refine (HEe.out _ Hr4.out).mono ?_
        rintro e V4 ⟨u4, rfl, hrw4, hb4⟩
        have HX := hide (show V4.ownsRow w.heap.size 86 4 u3 (Acre.edgesOf (readP a).1).length (flatE (Acre.edgesOf (readP a).1)) by rw [HRa.out]; exact row_base (row_call HRw3.out hb4) Hb2.out.size)
        have HY2 := hide (show V4.ownsRow w.heap.size 86 4 u4 (Acre.edgesOf (readP b).1).length (flatE (Acre.edgesOf (readP b).1)) by rw [HRb.out]; exact row_base hrw4 Hb3.out.size)
        clear hrw4 HRw3
        have Hb4 := hide (below_call hb4 Hb3.out)
        clear hb4
        go_wp2
        refine bodyPost_ret (v := .tuple #[u3, u4, .int .i64 0, .int .i64 0]) ?_ rfl ⟨Hb4.out, _, _, by rw [HE2.out], fun _ => ⟨HX.out, HY2.out⟩⟩
        · simp [results, Tryz.results7, go_sem]
    · have HE2 := hide (E2.out (by simp) hy)
      clear E1 E2 E3 E4
      go_wp2
      refine bodyPost_ret (v := .tuple #[.slice none 0 0, .slice none 0 0, .int .i64 y1, .int .i64 (wrap64 (y2 + 1000))]) ?_ rfl ⟨Hb2.out, _, _, by rw [HE2.out], fun h => by rw [HE2.out] at h; exact absurd h (by first | decide | assumption)⟩
      · simp [results, Tryz.results7, go_sem, wrap64]
  · have HE2 := hide (E1.out hx)
    have Hb1 := hide hb1
    clear E1 E2 E3 E4 hb1
    go_wp2
    refine bodyPost_ret (v := .tuple #[.slice none 0 0, .slice none 0 0, .int .i64 x1, .int .i64 x2]) ?_ rfl ⟨Hb1.out, _, _, by rw [HE2.out], fun h => by rw [HE2.out] at h; exact absurd h (by first | decide | assumption)⟩
    · simp [results, Tryz.results7, go_sem]

end Go.Proofs.YtkjlkbgdkdcboaaGreatDoor
