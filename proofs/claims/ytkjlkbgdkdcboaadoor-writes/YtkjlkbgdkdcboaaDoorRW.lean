import Derived.Test.YtkjlkbgdkdcboaaDoorDec
import Derived.Deep.DeepCutAuto
import Derived.Laws.Strings
namespace Go.Proofs.YtkjlkbgdkdcboaaDoor
open Go.RowKit
attribute [local go_sem ↓] Go.wp_at_zero Go.wp_at_succ

/-- texts of a point, of a ring, of a field -/
def ptL (p : Acre.Pt) : List UInt8 := nm p.1 ++ 44 :: nm p.2
def JJ (sep : UInt8) (xs : List (List UInt8)) : List UInt8 := Lib.join xs [sep]
def ringL (r : List Acre.Pt) : List UInt8 := JJ 32 (r.map ptL)
def textL (R : List (List Acre.Pt)) : List UInt8 := JJ 59 (R.map ringL)

/-- what stands ahead of the next -/
def sepL (sep : UInt8) : List (List UInt8) → List UInt8
  | [] => []
  | xs => JJ sep xs ++ [sep]
theorem JJ_nil (sep : UInt8) : JJ sep [] = [] := rfl
theorem JJ_snoc (sep : UInt8) (xs : List (List UInt8)) (x : List UInt8) : JJ sep (xs ++ [x]) = sepL sep xs ++ x := by
  unfold JJ Lib.join
  induction xs with
  | nil => simp [sepL, List.intercalate]
  | cons a t ih =>
    cases t with
    | nil => simp [sepL, JJ, Lib.join, List.intercalate]
    | cons b t' =>
      have e1 : [sep].intercalate (a :: b :: t' ++ [x]) = a ++ [sep] ++ [sep].intercalate (b :: t' ++ [x]) := by simp [List.intercalate]
      have e2 : [sep].intercalate (a :: b :: t') = a ++ [sep] ++ [sep].intercalate (b :: t') := by simp [List.intercalate]
      rw [e1, ih]
      simp only [sepL, JJ, Lib.join, e2, List.append_assoc]

theorem sepL_take {α : Type} (sep : UInt8) (f : α → List UInt8) (R : List α) (k : Nat) (hk : k ≤ R.length) : sepL sep ((R.take k).map f) = if k = 0 then [] else JJ sep ((R.take k).map f) ++ [sep] := by
  by_cases h0 : k = 0
  · subst h0; rfl
  · rw [if_neg h0]
    cases hq : (R.take k).map f with
    | nil =>
      have := congrArg List.length hq
      rw [List.length_map, List.length_take, List.length_nil] at this
      omega
    | cons a t => rfl
theorem cat1 (s : ByteArray) (c : UInt8) : (s ++ ⟨#[c]⟩ : ByteArray).data.toList = s.data.toList ++ [c] ∧ (s ++ ⟨#[c]⟩ : ByteArray).size = s.size + 1 := by
  constructor
  · simp
  · rw [ByteArray.size_append]; rfl
theorem cat3 (s : ByteArray) (a b : List UInt8) : (s ++ (⟨a.toArray⟩ : ByteArray) ++ (⟨#[44]⟩ : ByteArray) ++ (⟨b.toArray⟩ : ByteArray)).data.toList = s.data.toList ++ (a ++ 44 :: b) ∧ (s ++ (⟨a.toArray⟩ : ByteArray) ++ (⟨#[44]⟩ : ByteArray) ++ (⟨b.toArray⟩ : ByteArray)).size = s.size + a.length + 1 + b.length := by
  constructor
  · simp
  · simp only [ByteArray.size_append]; rfl
theorem sep_no {α : Type} {sep : UInt8} {f : α → List UInt8} {R : List α} {s : ByteArray} {A : List UInt8} (h : s.data.toList = A ++ JJ sep ((R.take 0).map f)) : s.data.toList = A ++ sepL sep ((R.take 0).map f) := by
  rw [h]; rfl
theorem sep_yes {α : Type} {sep : UInt8} {f : α → List UInt8} {R : List α} {k : Nat} {s : ByteArray} {A : List UInt8} (hk : k ≤ R.length) (h0 : k ≠ 0) (h : s.data.toList = A ++ JJ sep ((R.take k).map f)) : (s ++ ⟨#[sep]⟩ : ByteArray).data.toList = A ++ sepL sep ((R.take k).map f) := by
  rw [(cat1 s sep).1, h, sepL_take sep f R k hk, if_neg h0, List.append_assoc]

theorem ptL_len (p : Acre.Pt) : (ptL p).length ≤ 7 := by
  unfold ptL
  have h1 := nm_len p.1
  have h2 := nm_len p.2
  simp only [List.length_append, List.length_cons]
  omega

theorem gridOk {p : Acre.Pt} (h : Acre.onGrid p = true) : (-12 ≤ p.1 ∧ p.1 ≤ 12) ∧ (-12 ≤ p.2 ∧ p.2 ≤ 12) := by
  unfold Acre.onGrid at h
  rw [Bool.and_eq_true] at h
  exact ⟨of_decide_eq_true h.1, of_decide_eq_true h.2⟩
theorem ringFacts {r : List Acre.Pt} (h : Acre.ringOk r = true) : 3 ≤ r.length ∧ r.length ≤ 6 ∧ ∀ p ∈ r, Acre.onGrid p = true := by
  unfold Acre.ringOk at h
  simp only [Bool.and_eq_true, decide_eq_true_eq] at h
  exact ⟨h.1.1, h.1.2, List.all_eq_true.1 h.2⟩
theorem fieldFacts {R : List (List Acre.Pt)} (h : Acre.fieldOk R = true) : R.length ≤ 2 ∧ ∀ r ∈ R, Acre.ringOk r = true := by
  unfold Acre.fieldOk at h
  simp only [Bool.and_eq_true, decide_eq_true_eq] at h
  exact ⟨h.1, List.all_eq_true.1 h.2⟩

/-- the two rows that are read, and the world below -/
def TwoS (w : World) (b o rb r0 : Nat) (v : Value) (x y : Int) (W : World) : Prop :=
  W.cell? ⟨b, o, none⟩ = some v ∧ W.cell? ⟨rb, r0, none⟩ = some (.int .i64 x) ∧ W.cell? ⟨rb, r0 + 1, none⟩ = some (.int .i64 y) ∧ Below w.heap.size w W
theorem TwoS.call {w V W : World} {b o rb r0 : Nat} {v : Value} {x y : Int} (hb : Below V.heap.size V W) (h : TwoS w b o rb r0 v x y V) : TwoS w b o rb r0 v x y W := by
  obtain ⟨h1, h2, h3, h4⟩ := h
  exact ⟨cell_later hb h1, cell_later hb h2, cell_later hb h3, below_call hb h4⟩
theorem TwoS.drew {w V : World} {b o rb r0 : Nat} {v : Value} {x y : Int} (h : TwoS w b o rb r0 v x y V) : TwoS w b o rb r0 v x y V.drew := TwoS.call (Below.drew (Below.refl _ _)) h

set_option maxRecDepth 100000 in
set_option maxHeartbeats 4000000 in
theorem rwrite_ok (R : List (List Acre.Pt)) (v : Value) (w : World) (hR : Rings w v R) (hF : Acre.fieldOk R = true) :
    Calls Tryd.prog 6 #[v] w fun e w' => ∃ s : ByteArray, e = .returned (.tuple #[.string s, .int .i64 0]) ∧ s.data.toList = textL R ∧ Below w.heap.size w w' := by
  obtain ⟨hR2, hRk⟩ := fieldFacts hF
  have K1 := hide (rField_any R v w hR (by unfold maxLen; omega) (fun r hr => by have := (ringFacts (hRk r hr)).2.1; unfold maxLen; omega))
  rw [hF] at K1
  obtain ⟨ga, b, off, cap, rfl, hga, hcs⟩ := hR
  go_enter Tryd.func6, Tryd.ntmps6
  go_wp2_with fail
  refine K1.out.mono ?_
  rintro e w0 ⟨rfl, hb0⟩
  clear K1
  go_wp2_with fail
  go_loopw [4, 5] (fun sv i wr => ∃ (k : Nat) (sb : ByteArray), i = .int .i64 k ∧ sv = .string sb ∧ k ≤ R.length ∧ sb.size ≤ 100 * k ∧ Hid (sb.data.toList = JJ 59 ((R.take k).map ringL) ∧ Below w.heap.size w wr)) (fun _ i _ => R.length - (intOf i).toNat)
  case atStart => exact ⟨0, ⟨#[]⟩, rfl, rfl, Nat.zero_le _, by simp [ByteArray.size], rfl, hb0⟩
  case round =>
    obtain ⟨k, sb, rfl, rfl, hk, hsb, hr⟩ := hrel
    obtain ⟨hst, hw⟩ := hr.out
    clear hr hb0
    by_cases hlt : k < R.length
    · obtain rfl := hga (by omega)
      obtain ⟨s1, hs, hring⟩ := hcs k hlt
      obtain ⟨hr3, hr6, hrp⟩ := ringFacts (hRk R[k] (List.getElem_mem hlt))
      have htk : R.take (k + 1) = R.take k ++ [R[k]] := List.take_succ_eq_append_getElem hlt
      have Hnext := hide (show JJ 59 ((R.take (k + 1)).map ringL) = sepL 59 ((R.take k).map ringL) ++ ringL R[k] by rw [htk, List.map_append, List.map_singleton, JJ_snoc])
      have H0 := hide (fun (e : k = 0) => (by subst e; exact hst : sb.data.toList = sepL 59 ((R.take k).map ringL)))
      have H1 := hide (fun (e : k ≠ 0) => sep_yes (A := []) (sep := 59) (f := ringL) (R := R) (k := k) (s := sb) (by omega) e hst)
      have hsz := (cat1 sb 59).2
      obtain ⟨ra, rb, roff, rcap, rfl, hra, hpts⟩ := hring
      generalize R[k] = r at *
      obtain ⟨rfl, hrb⟩ := hra (by omega)
      have Hsz := hide hsz
      have Hw := hide hw
      have Hs := hide hs
      have Hpts := hide hpts
      clear hst hw htk hs hpts hsz
      have hk0 : (0 : Int) ≤ (k : Int) := Int.natCast_nonneg _
      have hk1 : (k : Int) < (R.length : Int) := by omega
      go_upto_if 17 with fail
      go_cut [4] (fun sv wx => wx = wr ∧ ∃ s2 : ByteArray, sv = .string s2 ∧ s2.size ≤ 100 * k + 1 ∧ Hid (s2.data.toList = sepL 59 ((R.take k).map ringL)))
      case first =>
        by_cases h0 : k = 0
        · subst h0
          go_wp2_with fail
          go_meet
          case rel => exact ⟨rfl, sb, rfl, by omega, H0.out trivial⟩
        · have h0' : (0 : Int) < (k : Int) := by omega
          go_wp2_with fail
          go_meet
          case rel => exact ⟨rfl, sb ++ (⟨#[59]⟩ : ByteArray), rfl, by have := Hsz.out; omega, H1.out h0⟩
      case rest =>
        obtain ⟨rfl, s2, rfl, hs2, hs2t⟩ := hcut
        clear hsb H0 H1 Hsz
        go_wp2_with fail
        go_loopw [4, 6] (fun sv i wr => ∃ (j : Nat) (sj : ByteArray), i = .int .i64 j ∧ sv = .string sj ∧ j ≤ r.length ∧ sj.size ≤ 100 * k + 1 + 8 * j ∧ Hid (sj.data.toList = sepL 59 ((R.take k).map ringL) ++ JJ 32 ((r.take j).map ptL) ∧ Below w.heap.size w wr)) (fun _ i _ => r.length - (intOf i).toNat)
        case atStart => exact ⟨0, s2, rfl, rfl, Nat.zero_le _, by omega, by rw [hs2t.out]; simp [JJ_nil], Hw.out⟩
        case round =>
          obtain ⟨j, sj, rfl, rfl, hj, hsj, hr2⟩ := hrel
          obtain ⟨hsjt, hw2⟩ := hr2.out
          clear hr2 Hw hs2t
          have hs5 := cell_later hw2 Hs.out
          by_cases hjl : j < r.length
          · obtain ⟨p0, p1⟩ := (Hpts.out.later hw2) j hjl
            have hgr := gridOk (hrp r[j] (List.getElem_mem hjl))
            have hst : r.take (j + 1) = r.take j ++ [r[j]] := List.take_succ_eq_append_getElem hjl
            have Hst := hide (show JJ 32 ((r.take (j + 1)).map ptL) = sepL 32 ((r.take j).map ptL) ++ ptL r[j] by rw [hst, List.map_append, List.map_singleton, JJ_snoc])
            have H0 := hide (fun (e : j = 0) => (by subst e; exact sep_no hsjt : sj.data.toList = sepL 59 ((R.take k).map ringL) ++ sepL 32 ((r.take j).map ptL)))
            have H1 := hide (fun (e : j ≠ 0) => sep_yes (sep := 32) (f := ptL) (R := r) (k := j) (s := sj) (by omega) e hsjt)
            have Hsz := hide (cat1 sj 32).2
            have hj0 : (0 : Int) ≤ (j : Int) := Int.natCast_nonneg _
            have hj1 : (j : Int) < (r.length : Int) := by omega
            clear hst hsjt
            generalize r[j] = pj at *
            go_upto_if 30 with fail
            go_cut [4] (fun sv wx => wx = wr ∧ ∃ s3 : ByteArray, sv = .string s3 ∧ s3.size ≤ 100 * k + 2 + 8 * j ∧ Hid (s3.data.toList = sepL 59 ((R.take k).map ringL) ++ sepL 32 ((r.take j).map ptL)))
            case first =>
              by_cases h0 : j = 0
              · subst h0
                go_wp2_with fail
                go_meet
                case rel => exact ⟨rfl, sj, rfl, by omega, H0.out trivial⟩
              · have h0' : (0 : Int) < (j : Int) := by omega
                go_wp2_with fail
                go_meet
                case rel => exact ⟨rfl, sj ++ (⟨#[32]⟩ : ByteArray), rfl, by have := Hsz.out; omega, H1.out h0⟩
            case rest =>
              obtain ⟨rfl, s3, rfl, hs3, hs3t⟩ := hcut
              clear hsj H0 H1 Hsz
              have l1 := (nm_len pj.1).1
              have l2 := (nm_len pj.2).1
              have hS : TwoS w b (off + k) rb (roff + j * 2) (.slice (some ⟨rb, roff, none⟩) r.length rcap) pj.1 pj.2 wc := ⟨hs5, p0, p1, hw2⟩
              have z1 : ¬ (9223372036854775807 < s3.size + (nm pj.1).length) := by omega
              have z2 : ¬ (9223372036854775807 < s3.size + (nm pj.1).length + 1) := by omega
              have z3 : ¬ (9223372036854775807 < s3.size + (nm pj.1).length + 1 + (nm pj.2).length) := by omega
              go_wp2_with fail
              go_region_held3 (fun w'' => w''.cell? ⟨b, off + k, none⟩ = some (.slice (some ⟨rb, roff, none⟩) r.length rcap) ∧ w''.cell? ⟨rb, roff + j * 2, none⟩ = some (.int .i64 pj.1) ∧ w''.cell? ⟨rb, roff + j * 2 + 1, none⟩ = some (.int .i64 pj.2) ∧ Below w.heap.size w w'')
                ((show TwoS w b (off + k) rb (roff + j * 2) (.slice (some ⟨rb, roff, none⟩) r.length rcap) pj.1 pj.2 _
                  first
                    | exact hS
                    | exact hS.drew
                    | assumption
                    | exact TwoS.call (by assumption) (by assumption)
                    | (refine ⟨?_, ?_, ?_, ?_⟩ <;> assumption)
                    | exact TwoS.call (by assumption) ⟨by assumption, by assumption, by assumption, by assumption⟩))
                ((go_at_call 14; refine (decimal_any _ ?_ _).mono ?_; omega; rintro e w'' ⟨rfl, hb⟩; unfold str))
              have hwf : Below w.heap.size w w'' := (TwoS.call hb (TwoS.call (by assumption) hS.drew)).2.2.2
              obtain ⟨ct1, ct2⟩ := cat3 s3 (nm pj.1) (nm pj.2)
              have N1 := hide (show (s3 ++ (⟨(nm pj.1).toArray⟩ : ByteArray) ++ (⟨#[44]⟩ : ByteArray) ++ (⟨(nm pj.2).toArray⟩ : ByteArray)).data.toList = sepL 59 ((R.take k).map ringL) ++ JJ 32 ((r.take (j + 1)).map ptL) by
                rw [ct1, hs3t.out, Hst.out, List.append_assoc]; rfl)
              have N2 := hide (show (s3 ++ (⟨(nm pj.1).toArray⟩ : ByteArray) ++ (⟨#[44]⟩ : ByteArray) ++ (⟨(nm pj.2).toArray⟩ : ByteArray)).size ≤ 100 * k + 1 + 8 * (j + 1) by rw [ct2]; omega)
              have Hwf := hide hwf
              clear hwf hS hb ct1 ct2
              generalize s3 ++ (⟨(nm pj.1).toArray⟩ : ByteArray) ++ (⟨#[44]⟩ : ByteArray) ++ (⟨(nm pj.2).toArray⟩ : ByteArray) = s4 at *
              go_wp2
              go_roundw
              case rel => exact ⟨j + 1, s4, by go_num, rfl, by omega, N2.out, N1.out, Hwf.out⟩
              case measure => simp [intOf]; omega
          · obtain rfl : j = r.length := by omega
            rw [List.take_of_length_le (Nat.le_refl _)] at hsjt
            have N1 := hide (show sj.data.toList = JJ 59 ((R.take (k + 1)).map ringL) by rw [Hnext.out, hsjt]; rfl)
            have Hw2 := hide hw2
            clear hsjt hw2
            go_wp2
            go_roundw
            case rel => exact ⟨k + 1, sj, by go_num, rfl, by omega, by omega, N1.out, Hw2.out⟩
            case measure => simp [intOf]; omega
    · obtain rfl : k = R.length := by omega
      rw [List.take_of_length_le (Nat.le_refl _)] at hst
      have Hst := hide hst
      have Hw := hide hw
      clear hst hw
      go_wp2
      go_ret2
      exact ⟨sb, rfl, Hst.out, Hw.out⟩

set_option maxHeartbeats 1000000 in
theorem rwrite_no (R : List (List Acre.Pt)) (v : Value) (w : World) (hR : Rings w v R) (hF : Acre.fieldOk R = false) (hn : R.length ≤ maxLen) (hm : ∀ r ∈ R, r.length ≤ maxLen) :
    Calls Tryd.prog 6 #[v] w fun e w' => e = .returned (.tuple #[.string ⟨#[]⟩, .int .i64 6]) ∧ Below w.heap.size w w' := by
  have K1 := hide (rField_any R v w hR hn hm)
  rw [hF] at K1
  obtain ⟨ga, b, off, cap, rfl, hga, hcs⟩ := hR
  go_enter Tryd.func6, Tryd.ntmps6
  go_wp2_with fail
  refine K1.out.mono ?_
  rintro e w0 ⟨rfl, hb0⟩
  go_wp2
  go_ret2
  exact ⟨rfl, hb0⟩

end Go.Proofs.YtkjlkbgdkdcboaaDoor
