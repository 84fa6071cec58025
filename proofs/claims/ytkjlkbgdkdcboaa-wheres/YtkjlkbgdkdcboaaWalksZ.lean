import Derived.Test.YtkjlkbgdkdcboaaWalksT
import Derived.Test.YtkjlkbgdkdcboaaWalksS
import Derived.Test.YtkjlkbgdkdcboaaWalksV
import Derived.Test.YtkjlkbgdkdcboaaWhere
namespace Go.Proofs.Ytkjlkbgdkdcboaa
open Go.RowKit
attribute [local go_sem ↓] Go.wp_at_zero Go.wp_at_succ

def atS (E : List Acre.Ed) (x y : Int × Int) : Int := if E.any (fun e => Acre.isOnE e x y) then 1 else ((E.countP (fun e => Acre.abv e x y) % 2 : Nat) : Int) * 2

theorem cnt_snoc (E : List Acre.Ed) (k : Nat) (h : k < E.length) (P : Acre.Ed → Bool) : (E.take (k + 1)).countP P = (E.take k).countP P + (if P E[k] then 1 else 0) := by
  rw [List.take_succ_eq_append_getElem h, List.countP_append]; simp [List.countP_cons]

set_option maxRecDepth 100000 in
set_option maxHeartbeats 4000000 in
theorem at_any (E : List Acre.Ed) (u : Value) (base : Nat) (x y : Int × Int) (w : World) (hown : w.ownsRow base 53 4 u E.length (flatE E)) (hsm : ∀ e ∈ E, SmE e) (hE : E.length ≤ 12) (hfx : Fr x.1 x.2) (hfy : Fr y.1 y.2) (hxD : 0 ≤ x.2) (hyD : 0 ≤ y.2) :
    Calls Try.prog 32 #[u, .agg #[.int .i64 x.1, .int .i64 x.2], .agg #[.int .i64 y.1, .int .i64 y.2]] w fun e w' => e = .returned (.int .i64 (atS E x y)) ∧ Below w.heap.size w w' := by
  obtain ⟨ga, gb, gcap, rfl, hga⟩ := rowE_form hown
  have m0 := FB.start w x y 42 42
  have q0 := below2 w (.cells #[.int .i64 x.1, .int .i64 x.2] 42) (.cells #[.int .i64 y.1, .int .i64 y.2] 42)
  go_enter Try.func32, Try.ntmps32
  go_wp2
  go_loopw [7, 8] (fun c i wr => ∃ k : Nat, i = .int .i64 k ∧ k ≤ E.length ∧ c = .int .i64 ((E.take k).countP (fun e => Acre.abv e x y) : Nat) ∧ Hid ((∀ j (hj : j < E.length), j < k → Acre.isOnE E[j] x y = false) ∧ FB w.heap.size x y wr ∧ Below w.heap.size w wr)) (fun _ i _ => E.length - (intOf i).toNat)
  case atStart => exact ⟨0, rfl, Nat.zero_le _, by simp, fun j _ h => absurd h (by omega), m0, q0⟩
  case round =>
    clear m0 q0
    obtain ⟨k, rfl, hk, rfl, hr⟩ := hrel
    obtain ⟨hono, mr, qr⟩ := hr.out
    have Hono : Hid _ := hono
    have hcl : ((E.take k).countP (fun e => Acre.abv e x y) : Int) ≤ 12 := by
      have h1 := List.countP_le_length (p := fun e => Acre.abv e x y) (l := E.take k)
      rw [List.length_take] at h1; omega
    have hcl0 : (0 : Int) ≤ ((E.take k).countP (fun e => Acre.abv e x y) : Int) := Int.natCast_nonneg _
    clear hono hr
    by_cases hlt : k < E.length
    · obtain rfl := hga (by omega)
      obtain ⟨x0, x1, x2, x3⟩ := rowE_cells hown k hlt
      have y0 := cell_later qr x0
      have y1 := cell_later qr x1
      have y2 := cell_later qr x2
      have y3 := cell_later qr x3
      have hse := hsm E[k] (List.getElem_mem hlt)
      have hsn := cnt_snoc E k hlt (fun e => Acre.abv e x y)
      have hk0 : (0 : Int) ≤ (k : Int) := Int.natCast_nonneg _
      have hk1 : (k : Int) < (E.length : Int) := by omega
      obtain ⟨e, he⟩ : ∃ e, E[k] = e := ⟨_, rfl⟩
      have hatE : Acre.isOnE e x y = true → atS E x y = 1 := fun h => by
        unfold atS; rw [if_pos]; rw [List.any_eq_true]; exact ⟨E[k], List.getElem_mem hlt, by rw [he]; exact h⟩
      have HatE : Hid _ := hatE
      have Hono2 : Hid (Acre.isOnE e x y = false → ∀ j (hj : j < E.length), j < k + 1 → Acre.isOnE E[j] x y = false) := fun h j hj hjk => by
        rcases Nat.lt_succ_iff_lt_or_eq.1 hjk with h' | h'
        · exact Hono.out j hj h'
        · subst h'; rw [he]; exact h
      rw [he] at y0 y1 y2 y3 hse hsn
      have Hsn : Hid _ := hsn
      clear he hatE x0 x1 x2 x3 hsn
      obtain ⟨⟨e0, e1⟩, ⟨e2, e3⟩⟩ := e
      obtain ⟨⟨g1, g2⟩, ⟨g3, g4⟩⟩ := id hse
      dsimp only at y0 y1 y2 y3 g1 g2 g3 g4
      obtain ⟨l0, l1, X0, X1, Y0, Y1⟩ := id mr
      go_wp2_with fail
      go_region_held3 (fun w' => w'.cell? ⟨gb, k * 4, none⟩ = some (.int .i64 e0) ∧ w'.cell? ⟨gb, k * 4 + 1, none⟩ = some (.int .i64 e1) ∧ w'.cell? ⟨gb, k * 4 + 1 + 1, none⟩ = some (.int .i64 e2) ∧ w'.cell? ⟨gb, k * 4 + 1 + 1 + 1, none⟩ = some (.int .i64 e3) ∧ w'.cell? ⟨w.heap.size, 0, none⟩ = some (.int .i64 x.1) ∧ w'.cell? ⟨w.heap.size, 1, none⟩ = some (.int .i64 x.2) ∧ w'.cell? ⟨w.heap.size + 1, 0, none⟩ = some (.int .i64 y.1) ∧ w'.cell? ⟨w.heap.size + 1, 1, none⟩ = some (.int .i64 y.2) ∧ Below wr.heap.size wr w')
        ((go_split_ands; refine ⟨?_, ?_, ?_, ?_, ?_, ?_, ?_, ?_, ?_⟩ <;> first | assumption | exact Below.drew (Below.refl _ _) | exact cell_later (by assumption) (by assumption) | exact below_call (by assumption) (by assumption)))
        (first | (go_at_call 40; refine (ron_any _ _ _ _ _ _ _ _ _ ⟨by omega, by omega⟩ ⟨by omega, by omega⟩ ⟨by omega, by omega⟩ ⟨by omega, by omega⟩ ⟨⟨by omega, by omega⟩, by omega, by omega⟩ ⟨⟨by omega, by omega⟩, by omega, by omega⟩ ?_ ?_).mono ?_; omega; omega; rintro e w' ⟨rfl, hb⟩))
      go_split_ands
      have hW : Below wr.heap.size wr w' := by assumption
      have m8 := mr.later hW
      have q8 := below_call hW qr
      have z0 := cell_later hW y0
      have z1 := cell_later hW y1
      have z2 := cell_later hW y2
      have z3 := cell_later hW y3
      cases hO : Acre.onE e0 e1 e2 e3 x.1 x.2 y.1 y.2
      · have HO : Hid (Acre.isOnE ((e0, e1), (e2, e3)) x y = false) := hO
        clear hO
        obtain ⟨l08, l18, X08, X18, Y08, Y18⟩ := id m8
        rename_i Wx _ _ _ _ _ _ _ _ _
        go_wp2_with fail
        go_region_held3 (fun w2 => w2.cell? ⟨gb, k * 4, none⟩ = some (.int .i64 e0) ∧ w2.cell? ⟨gb, k * 4 + 1, none⟩ = some (.int .i64 e1) ∧ w2.cell? ⟨gb, k * 4 + 1 + 1, none⟩ = some (.int .i64 e2) ∧ w2.cell? ⟨gb, k * 4 + 1 + 1 + 1, none⟩ = some (.int .i64 e3) ∧ w2.cell? ⟨w.heap.size, 0, none⟩ = some (.int .i64 x.1) ∧ w2.cell? ⟨w.heap.size, 1, none⟩ = some (.int .i64 x.2) ∧ w2.cell? ⟨w.heap.size + 1, 0, none⟩ = some (.int .i64 y.1) ∧ w2.cell? ⟨w.heap.size + 1, 1, none⟩ = some (.int .i64 y.2) ∧ Below w'.heap.size w' w2)
          ((go_split_ands; refine ⟨?_, ?_, ?_, ?_, ?_, ?_, ?_, ?_, ?_⟩ <;> first | assumption | exact Below.drew (Below.refl _ _) | exact cell_later (by assumption) (by assumption) | exact below_call (by assumption) (by assumption)))
          (first | (go_at_call 59; refine (above_any _ _ _ _ x y _ ⟨by omega, by omega⟩ ⟨by omega, by omega⟩ ⟨by omega, by omega⟩ ⟨by omega, by omega⟩ ⟨⟨by omega, by omega⟩, by omega, by omega⟩ ⟨⟨by omega, by omega⟩, by omega, by omega⟩).mono ?_; rintro e w9 ⟨rfl, hb9⟩))
        go_split_ands
        have hW9 : Below w'.heap.size w' w9 := by assumption
        have m9 := m8.later hW9
        have q9 := below_call hW9 q8
        cases hA : Acre.abv ((e0, e1), (e2, e3)) x y
        · have HA : Hid _ := hA
          clear hA
          have NN : Hid ((E.take (k + 1)).countP (fun e => Acre.abv e x y) = (E.take k).countP (fun e => Acre.abv e x y)) := by
            show _ = _; have := Hsn.out; rw [HA.out] at this; simpa using this
          go_wp2
          go_roundw
          case rel => exact ⟨k + 1, by go_num, by omega, by rw [NN.out], Hono2.out HO.out, m9, q9⟩
          case measure => simp [intOf]; omega
        · have HA : Hid _ := hA
          clear hA
          have NN : Hid ((E.take (k + 1)).countP (fun e => Acre.abv e x y) = (E.take k).countP (fun e => Acre.abv e x y) + 1) := by
            show _ = _; have := Hsn.out; rw [HA.out] at this; simpa using this
          go_wp2
          go_roundw
          case rel => exact ⟨k + 1, by go_num, by omega, by rw [NN.out]; go_num, Hono2.out HO.out, m9, q9⟩
          case measure => simp [intOf]; omega
      · have HO : Hid (Acre.isOnE ((e0, e1), (e2, e3)) x y = true) := hO
        clear hO
        go_wp2
        go_ret
        exact ⟨ret_int (HatE.out HO.out).symm, q8⟩
    · obtain rfl : k = E.length := by omega
      have hat : atS E x y = (((E.take E.length).countP (fun e => Acre.abv e x y) % 2 : Nat) : Int) * 2 := by
        unfold atS
        rw [List.take_of_length_le (Nat.le_refl _), if_neg]
        rw [List.any_eq_true]
        rintro ⟨e, he, h⟩
        obtain ⟨j, hj, rfl⟩ := List.getElem_of_mem he
        rw [Hono.out j hj hj] at h; exact absurd h (by simp)
      have Hat : Hid _ := hat
      clear hat
      generalize (E.take E.length).countP (fun e => Acre.abv e x y) = c at *
      have t1 : ((c : Int).tmod 2) = ((c % 2 : Nat) : Int) := by rw [Int.tmod_eq_emod_of_nonneg hcl0]; omega
      have t2 : (c : Int) % 2 = ((c % 2 : Nat) : Int) := by omega
      have t3 : ((c % 2 : Nat) : Int) ≤ 1 := by omega
      have t4 : (0 : Int) ≤ ((c % 2 : Nat) : Int) := Int.natCast_nonneg _
      obtain ⟨c2, hc2⟩ : ∃ c2, c % 2 = c2 := ⟨_, rfl⟩
      rw [hc2] at t1 t2 t3 t4 Hat
      clear hc2
      go_wp2
      go_ret
      exact ⟨ret_int (by rw [Hat.out]), qr⟩

end Go.Proofs.Ytkjlkbgdkdcboaa
