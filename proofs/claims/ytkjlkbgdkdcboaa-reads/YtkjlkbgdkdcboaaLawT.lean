import Derived.Test.YtkjlkbgdkdcboaaEqual
import Derived.Test.YtkjlkbgdkdcboaaSame
import Derived.Test.YtkjlkbgdkdcboaaLawR
namespace Go.Proofs.Ytkjlkbgdkdcboaa
open Go.RowKit
attribute [local go_sem ↓] Go.wp_at_zero Go.wp_at_succ

theorem read_len (s : ByteArray) : (readP s).1.length ≤ 1000 ∧ ∀ r ∈ (readP s).1, r.length ≤ 1000 := by
  unfold readP
  by_cases hl : 120 < s.size
  · rw [if_pos hl]; simp
  · rw [if_neg hl]
    cases h : (scanP s).1 with
    | none => simp
    | some R =>
      obtain ⟨h1, h2⟩ := scanP_inv h
      simp only
      split
      · refine ⟨by simp; omega, fun r hr => ?_⟩
        obtain ⟨x, hx, rfl⟩ := List.mem_map.1 hr
        have := (h2 x hx).2
        simp; omega
      · simp

/-- a list of rings that may be wiped: its blocks lie from base on -/
def Wip (W : World) (base : Nat) (z : Value) (R : List (List Acre.Pt)) : Prop :=
  ∃ ga bz off cap, z = .slice ga R.length cap ∧ (0 < R.length → ga = some ⟨bz, off, none⟩) ∧ ∀ i (h : i < R.length), ∃ ra rb roff rcap, W.cell? ⟨bz, off + i, none⟩ = some (.slice ra R[i].length rcap) ∧
    (0 < R[i].length → ra = some ⟨rb, roff, none⟩ ∧ base ≤ rb ∧ rb ≠ bz) ∧
    ∀ k, k < R[i].length → (∃ x, W.cell? ⟨rb, roff + k * 2, none⟩ = some x) ∧ (∃ x, W.cell? ⟨rb, roff + k * 2 + 1, none⟩ = some x) ∧ W.frozen? ⟨rb, roff + k * 2, none⟩ = false ∧ W.frozen? ⟨rb, roff + k * 2 + 1, none⟩ = false

theorem Answer.wip {w : World} {base : Nat} {l : Value} {R : List (List Acre.Pt)} (h : Answer w base l R) : Wip w base l R := by
  obtain ⟨vs, h1, _, h2, h3⟩ := h
  rcases h2.2 with ⟨rfl, h0⟩ | ⟨g, cap, cur, rfl, hg, _⟩
  · exact ⟨none, 0, 0, 0, by rw [h0], fun k => absurd k (by omega), fun i hi => absurd hi (by omega)⟩
  · refine ⟨_, g, 0, cap, rfl, fun _ => rfl, fun i hi => ?_⟩
    obtain ⟨ra, rb, roff, rcap, q1, q2, q3⟩ := h3 i hi (by omega)
    have hc : w.cell? ⟨g, 0 + i, none⟩ = some (.slice ra R[i].length rcap) := by
      rw [Nat.zero_add, ← q1]
      exact (h2.cellAt i (by omega)).trans (List.getElem?_eq_getElem (by omega))
    refine ⟨ra, rb, roff, rcap, hc, fun k => ⟨(q2 k).1, (q2 k).2.2.1, fun e => (q2 k).2.2.2.1 (by rw [e]; rfl)⟩, fun k hk => ?_⟩
    have c := q3 k hk
    have f := (q2 (by omega)).2.2.2.2
    exact ⟨⟨_, c.1⟩, ⟨_, c.2⟩, f _, f _⟩

theorem Wip.set2 {W : World} {base : Nat} {z : Value} {R : List (List Acre.Pt)} (h : Wip W base z R) {rb o1 o2 : Nat} {x y : Value} (hz : ∀ a n c, z = .slice (some a) n c → a.block ≠ rb) : Wip ((W.setCell ⟨rb, o1, none⟩ x).setCell ⟨rb, o2, none⟩ y) base z R := by
  obtain ⟨ga, bz, off, cap, rfl, hga, hcs⟩ := h
  refine ⟨ga, bz, off, cap, rfl, hga, fun i hi => ?_⟩
  obtain ⟨ra, rb', roff, rcap, q1, q2, q3⟩ := hcs i hi
  obtain rfl := hga (by omega)
  have hne : rb ≠ bz := fun e => hz _ _ _ rfl e.symm
  refine ⟨ra, rb', roff, rcap, cell_set2 q1 hne hne, q2, fun k hk => ?_⟩
  obtain ⟨⟨x1, c1⟩, ⟨x2, c2⟩, g1, g2⟩ := q3 k hk
  have keep : ∀ (a : Addr) (v : Value), W.cell? a = some v → ∃ v', ((W.setCell ⟨rb, o1, none⟩ x).setCell ⟨rb, o2, none⟩ y).cell? a = some v' := fun a v c => by
    obtain ⟨v1, d1⟩ := cell?_setCell_some (p := ⟨rb, o1, none⟩) (x := x) c
    exact cell?_setCell_some (p := ⟨rb, o2, none⟩) (x := y) d1
  exact ⟨keep _ _ c1, keep _ _ c2, frozen_set2 g1, frozen_set2 g2⟩

set_option maxRecDepth 100000 in
set_option maxHeartbeats 4000000 in
theorem reads_walk (s : ByteArray) (w : World) : Calls Try.prog 3 #[.string s] w fun e w' => e = .returned (.bool true) ∧ Below w.heap.size w w' := by
  have K1 := hide (fun W => read_any s W)
  have K3 := hide (fun W => rread_any s W)
  unfold ReadPost at K1
  unfold RReadPost at K3
  rw [← reads_same s] at K3
  obtain ⟨hn, hm⟩ := read_len s
  generalize (readP s).2.1 = er at *
  generalize (readP s).2.2 = pl at *
  generalize (readP s).1 = R at *
  have K4 := hide (fun W v hv => field_any R v W hv (by omega) (fun r hr => by have := hm r hr; omega))
  have K5 := hide (fun W a c ha hc => same_eq R a c W ha hc (by unfold maxLen; omega) (fun r hr => by have := hm r hr; unfold maxLen; omega))
  have K6 := hide (num_any er)
  go_enter Try.func3, Try.ntmps3
  go_wp2_with fail
  refine (K1.out _).mono ?_
  rintro e w1 ⟨f, rfl, hA1, hb1⟩
  have HA1 := hide hA1.rings
  clear hA1
  go_wp2_with fail
  refine (K1.out _).mono ?_
  rintro e w2 ⟨z, rfl, hA2, hb2⟩
  have hwip := hA2.wip
  have hform : ∃ ga cap, z = .slice ga R.length cap := by
    obtain ⟨ga, b, off, cap, rfl, _⟩ := hwip
    exact ⟨_, _, rfl⟩
  have Hwip := hide hwip
  have Hb2 := hide hb2
  clear hwip hA2 hb2
  obtain ⟨za, zc, rfl⟩ := hform
  go_wp2_with fail
  go_loopw [9] (fun i wr => ∃ k : Nat, i = .int .i64 k ∧ k ≤ R.length ∧ Hid (Wip wr w1.heap.size (.slice za R.length zc) R ∧ Below w1.heap.size w1 wr)) (fun i _ => R.length - (intOf i).toNat)
  case atStart => exact ⟨0, rfl, Nat.zero_le _, Hwip.out, Hb2.out⟩
  case round =>
    obtain ⟨k, rfl, hk, hr⟩ := hrel
    clear Hwip Hb2
    by_cases hlt : k < R.length
    · have hk0 : (0 : Int) ≤ (k : Int) := Int.natCast_nonneg _
      have hk1 : (k : Int) < (R.length : Int) := by omega
      have hml := hm R[k] (List.getElem_mem hlt)
      go_wp2
      go_loopw [10] (fun i w2 => ∃ j : Nat, i = .int .i64 j ∧ j ≤ R[k].length ∧ Hid (Wip w2 w1.heap.size (.slice za R.length zc) R ∧ Below w1.heap.size w1 w2)) (fun i _ => R[k].length - (intOf i).toNat)
      case atStart => exact ⟨0, rfl, Nat.zero_le _, hr⟩
      case round =>
        obtain ⟨j, rfl, hj, hr2⟩ := hrel
        obtain ⟨hwp, hlow⟩ := hr2.out
        have hwp0 := hide hwp
        obtain ⟨ga, bz, off, cap, hz, hga, hcs⟩ := hwp
        obtain ⟨ra, rb, roff, rcap, q1, q2, q3⟩ := hcs k hlt
        obtain rfl := hga (by omega)
        obtain ⟨rfl, rfl⟩ : za = some ⟨bz, off, none⟩ ∧ zc = cap := by
          injection hz with h1 h2 h3
          exact ⟨h1, h3⟩
        clear hr hr2 hcs hga hz
        generalize R[k] = r at *
        by_cases hjl : j < r.length
        · obtain ⟨rfl, hbase, hne⟩ := q2 (by omega)
          obtain ⟨⟨x1, c1⟩, ⟨x2, c2⟩, g1, g2⟩ := q3 j hjl
          have hj0 : (0 : Int) ≤ (j : Int) := Int.natCast_nonneg _
          have hj1 : (j : Int) < (r.length : Int) := by omega
          have N1 := hide (hwp0.out.set2 (rb := rb) (o1 := roff + j * 2) (o2 := roff + j * 2 + 1) (x := .int .i64 0) (y := .int .i64 0) (fun a n c e => by injection e with h1 h2 h3; injection h1 with h1; rw [← h1]; exact hne.symm))
          have N2 := hide ((hlow.setCell (p := ⟨rb, roff + j * 2, none⟩) hbase (.int .i64 0)).setCell (p := ⟨rb, roff + j * 2 + 1, none⟩) hbase (.int .i64 0))
          clear hwp0 q3 q2
          go_wp2
          go_roundw
          case rel => exact ⟨j + 1, by go_num, by omega, N1.out, N2.out⟩
          case measure => simp [intOf]; omega
        · obtain rfl : j = r.length := by omega
          have Hl := hide hlow
          clear hlow q3 q2
          go_wp2
          go_roundw
          case rel => exact ⟨k + 1, by go_num, by omega, hwp0.out, Hl.out⟩
          case measure => simp [intOf]; omega
    · obtain rfl : k = R.length := by omega
      obtain ⟨_, hlow⟩ := hr.out
      have HA3 := hide (HA1.out.later hlow)
      have Hlow := hide (below_call hlow hb1)
      clear hr HA1 hlow hb1
      go_wp2_with fail
      refine (K3.out _).mono ?_
      rintro e w4 ⟨g, rfl, hg4, hb4⟩
      have HA4 := hide (HA3.out.later hb4)
      have Hlow4 := hide (below_call hb4 Hlow.out)
      have HG4 := hide hg4
      clear HA3 Hlow hb4 hg4
      go_wp2_with fail
      refine (K4.out _ f HA4.out).mono ?_
      rintro e w5 ⟨u, rfl, hu5, hb5⟩
      have HU5 := hide hu5
      have HG5 := hide (HG4.out.later hb5)
      have Hlow5 := hide (below_call hb5 Hlow4.out)
      clear HA4 HG4 Hlow4 hu5 hb5
      go_wp2_with fail
      refine (K5.out _ u g HU5.out HG5.out).mono ?_
      rintro e w6 ⟨rfl, hb6⟩
      have Hlow6 := hide (below_call hb6 Hlow5.out)
      clear HU5 HG5 Hlow5 hb6
      go_wp2_with fail
      refine (K6.out _).mono ?_
      rintro e w7 ⟨rfl, rfl⟩
      go_wp2
      go_ret
      exact ⟨ret_bool (by simp), Hlow6.out⟩

end Go.Proofs.Ytkjlkbgdkdcboaa
