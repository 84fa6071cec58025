import Derived.Test.YtkjlkbgdkdcboaaDoorRW
import Derived.Test.YtkjlkbgdkdcboaaDoorShelf
import Derived.Lib.AppendIntMem
import Derived.Deep.RegionLaw
namespace Go.Proofs.YtkjlkbgdkdcboaaDoor
open Go.RowKit
attribute [local go_sem ↓] Go.wp_at_zero Go.wp_at_succ

/-- the library's table is as it is laid -/
abbrev Tab (w : World) : Prop := Lib.TabIs Tryd.prog w "internal/strconv.uint64pow10" .u64 Lib.pow10Tab
theorem tab_later {w w' : World} (h : Tab w) (hb : Below w.heap.size w w') : Tab w' := Lib.tabBelow_of_tabIs h w' hb

theorem itoa_any (n : Int) (h : -12 ≤ n ∧ n ≤ 12) (w : World) (ht : Tab w) :
    Calls Tryd.prog 19 #[.int .i64 n] w fun e w' => e = .returned (.string ⟨(nm n).toArray⟩) ∧ Below w.heap.size w w' := by
  refine (Tryd.strconv_Itoa n (by omega) (by omega) w ht).mono ?_
  rintro e w' ⟨rfl, k, os, rfl⟩
  exact ⟨by rw [itoa_nm n (by omega)], Lib.below_grow _ _ (Nat.le_refl _) _ _⟩

theorem info9 : (Tryd.prog.info? 9).map (fun i => (i.zero, i.size, i.bytes)) = some (some (.string ⟨#[]⟩), 1, 16) := by kernel_rfl

theorem cat2 (a b : List UInt8) : ((⟨a.toArray⟩ : ByteArray) ++ (⟨#[44]⟩ : ByteArray) ++ (⟨b.toArray⟩ : ByteArray)).data.toList = a ++ 44 :: b := by simp

theorem JJ_len (sep : UInt8) (M : Nat) : ∀ xs : List (List UInt8), (∀ x ∈ xs, x.length ≤ M) → (JJ sep xs).length ≤ xs.length * (M + 1)
  | [], _ => by simp [JJ, Lib.join, List.intercalate]
  | [a], h => by
    have := h a (by simp)
    simp [JJ, Lib.join, List.intercalate]
    omega
  | a :: b :: t, h => by
    have h1 := h a (by simp)
    have h2 := JJ_len sep M (b :: t) (fun x hx => h x (List.mem_cons_of_mem _ hx))
    have e : JJ sep (a :: b :: t) = a ++ [sep] ++ JJ sep (b :: t) := by simp [JJ, Lib.join, List.intercalate]
    rw [e, List.length_append, List.length_append, List.length_singleton]
    have e2 : (a :: b :: t).length * (M + 1) = (b :: t).length * (M + 1) + (M + 1) := by simp only [List.length_cons]; rw [Nat.succ_mul]
    omega
theorem ringL_len {r : List Acre.Pt} (h : r.length ≤ 6) : (ringL r).length ≤ 48 := by
  unfold ringL
  have := JJ_len 32 7 (r.map ptL) (fun x hx => by obtain ⟨p, _, rfl⟩ := List.mem_map.1 hx; exact ptL_len p)
  rw [List.length_map] at this
  omega

/-- a point in a box, and the world below -/
def PS2 (w : World) (P : Nat) (x y : Int) (W : World) : Prop := W.cell? ⟨P, 0, none⟩ = some (.int .i64 x) ∧ W.cell? ⟨P, 1, none⟩ = some (.int .i64 y) ∧ Below w.heap.size w W
theorem PS2.call {w V W : World} {P : Nat} {x y : Int} (hb : Below V.heap.size V W) (h : PS2 w P x y V) : PS2 w P x y W := by
  obtain ⟨h1, h2, h3⟩ := h
  exact ⟨cell_later hb h1, cell_later hb h2, below_call hb h3⟩
theorem PS2.drew {w V : World} {P : Nat} {x y : Int} (h : PS2 w P x y V) : PS2 w P x y V.drew := PS2.call (Below.drew (Below.refl _ _)) h
theorem PS2.alloc {w V : World} {P : Nat} {x y : Int} {o : Obj} (h : PS2 w P x y V) : PS2 w P x y (V.alloc o) := PS2.call (below1 _ _) h
theorem PS2.app {w V W : World} {P : Nat} {x y : Int} {q : Value} (hg : V.grownBy W q.ownBlock) (hu : ∀ c, q.ownBlock = some c → w.heap.size ≤ c ∧ c < P) (h : PS2 w P x y V) : PS2 w P x y W := by
  obtain ⟨h1, h2, h3⟩ := h
  have hne : some P ≠ q.ownBlock := fun e => by have := hu P e.symm; omega
  exact ⟨hg.cell h1 hne, hg.cell h2 hne, h3.grown hg h3.size (fun k hk => (hu k hk).1)⟩

set_option maxRecDepth 100000 in
set_option maxHeartbeats 4000000 in
theorem writeRing_any (r : List Acre.Pt) (v : Value) (w : World) (hR : Ring w v r) (hr : Acre.ringOk r = true) (ht : Tab w) :
    Calls Tryd.prog 11 #[v] w fun e w' => ∃ s : ByteArray, e = .returned (.string s) ∧ s.data.toList = ringL r ∧ Below w.heap.size w w' := by
  obtain ⟨hr3, hr6, hrp⟩ := ringFacts hr
  obtain ⟨ga, b, off, cap, rfl, hga, hpts⟩ := hR
  obtain ⟨rfl, hb⟩ := hga (by omega)
  obtain ⟨i0, hi, hz0, hz1, hz2⟩ := info_parts info9
  go_enter Tryd.func11, Tryd.ntmps11
  go_wp2
  go_loopw [3, 8] (fun q i wr => ∃ (j : Nat) (xs : List ByteArray), i = .int .i64 j ∧ j ≤ r.length ∧ xs.length = j ∧ Hid (wr.ownsRow w.heap.size 9 1 q j (xs.map Value.string) ∧ xs.map (fun x => x.data.toList) = (r.map ptL).take j ∧ Below w.heap.size w wr)) (fun _ i _ => r.length - (intOf i).toNat)
  case atStart => exact ⟨0, [], rfl, Nat.zero_le _, rfl, World.ownsRow_nil _ _ _ _, rfl, Below.refl _ _⟩
  case round =>
    obtain ⟨j, xs, rfl, hj, hxl, hr2⟩ := hrel
    obtain ⟨o2, hxs, hw2⟩ := hr2.out
    by_cases hjl : j < r.length
    · obtain ⟨p0, p1⟩ := (hpts.later hw2) j hjl
      have hgr := gridOk (hrp r[j] (List.getElem_mem hjl))
      have hst : (r.map ptL).take (j + 1) = (r.map ptL).take j ++ [ptL r[j]] := by rw [List.take_succ_eq_append_getElem (by simpa using hjl)]; simp
      have Hst := hide hst
      have Hxs := hide hxs
      have hj0 : (0 : Int) ≤ (j : Int) := Int.natCast_nonneg _
      have hj1 : (j : Int) < (r.length : Int) := by omega
      have l1 := (nm_len r[j].1).1
      have l2 := (nm_len r[j].2).1
      clear hst hxs hr2
      generalize r[j] = pj at *
      have c0 : (wr.alloc (.cells #[.int .i64 pj.1, .int .i64 pj.2] 38)).cell? ⟨wr.heap.size, 0, none⟩ = some (.int .i64 pj.1) := by simp [go_sem]
      have c1 : (wr.alloc (.cells #[.int .i64 pj.1, .int .i64 pj.2] 38)).cell? ⟨wr.heap.size, 1, none⟩ = some (.int .i64 pj.2) := by simp [go_sem]
      have hS : PS2 w wr.heap.size pj.1 pj.2 (wr.alloc (.cells #[.int .i64 pj.1, .int .i64 pj.2] 38)) := ⟨c0, c1, hw2.alloc hw2.size _⟩
      have htW : Tab (wr.alloc (.cells #[.int .i64 pj.1, .int .i64 pj.2] 38)).drew := tab_later (tab_later ht hw2) (Below.drew (below1 _ _))
      have o3 := (o2.alloc (.cells #[.int .i64 pj.1, .int .i64 pj.2] 38)).drew
      have hsz : wr.heap.size < (wr.alloc (.cells #[.int .i64 pj.1, .int .i64 pj.2] 38)).drew.heap.size := by simp
      have hww := hw2.size
      have z1 : ¬ (9223372036854775807 < (nm pj.1).length + 1) := by omega
      have z2 : ¬ (9223372036854775807 < (nm pj.1).length + 1 + (nm pj.2).length) := by omega
      have hu : ∀ c, u3.ownBlock = some c → w.heap.size ≤ c ∧ c < wr.heap.size := o2.lt
      go_wp2_with fail
      go_region_held3 (fun w'' => w''.cell? ⟨wr.heap.size, 0, none⟩ = some (.int .i64 pj.1) ∧ w''.cell? ⟨wr.heap.size, 1, none⟩ = some (.int .i64 pj.2) ∧ Below w.heap.size w w'')
        ((show PS2 w wr.heap.size pj.1 pj.2 _
          first
            | exact hS
            | exact hS.drew
            | assumption
            | exact PS2.call (by assumption) (by assumption)
            | (refine ⟨?_, ?_, ?_⟩ <;> assumption)
            | exact PS2.call (by assumption) ⟨by assumption, by assumption, by assumption⟩
            | exact PS2.alloc (by assumption)
            | exact PS2.alloc ⟨by assumption, by assumption, by assumption⟩
            | exact PS2.app hgrow hu (by assumption)
            | exact PS2.app hgrow hu ⟨by assumption, by assumption, by assumption⟩))
        ((first
          | (go_at_call 19
             refine (itoa_any _ ?_ _ htW).mono ?_
             omega
             rintro e w'' ⟨rfl, hb'⟩
             have htW := tab_later htW hb'
             have o3 := row_call o3 hb'
             have hsz := Nat.lt_of_lt_of_le hsz hb'.size)
          | (refine step_append_lies _ (by rfl) _ _ _ (by rfl) w.heap.size 9 i0 _ 1 16 Tryd.underlying40 hi hz0 hz1 hz2 rfl (by omega) u3 j (xs.map Value.string) (by rfl) (o3.alloc _)
                ⟨w''.heap.size, 0, none⟩ 1 1 [.string ((⟨(nm pj.1).toArray⟩ : ByteArray) ++ (⟨#[44]⟩ : ByteArray) ++ (⟨(nm pj.2).toArray⟩ : ByteArray))] (by rfl) (by rfl) (World.news_of_block (cs := #[.string ((⟨(nm pj.1).toArray⟩ : ByteArray) ++ (⟨#[44]⟩ : ByteArray) ++ (⟨(nm pj.2).toArray⟩ : ByteArray))]) (t := 9) (fr := (0, 0)) (heap_alloc_new w'' _)) (by simp [Value.oneCell'])
                (by omega) (by unfold maxLen; omega) (by omega) (by simp; omega) (w''.heap.size + 1) (by simp) ?_
             intro gg cap' w1 hown1 hgrow hat hlt')))
      go_split_ands
      have hwf : Below w.heap.size w w1 := by assumption
      have N1 := hide (show w1.ownsRow w.heap.size 9 1 (.slice (some ⟨gg, 0, none⟩) (j + 1) cap') (j + 1) ((xs ++ [(⟨(nm pj.1).toArray⟩ : ByteArray) ++ (⟨#[44]⟩ : ByteArray) ++ (⟨(nm pj.2).toArray⟩ : ByteArray)]).map Value.string) by
        rw [List.map_append]; exact hown1)
      have N2 := hide (show (xs ++ [(⟨(nm pj.1).toArray⟩ : ByteArray) ++ (⟨#[44]⟩ : ByteArray) ++ (⟨(nm pj.2).toArray⟩ : ByteArray)]).map (fun x => x.data.toList) = (r.map ptL).take (j + 1) by
        rw [List.map_append, List.map_singleton, cat2, Hxs.out, Hst.out]; rfl)
      have Hwf := hide hwf
      clear hwf hown1 hgrow hat hlt' hS
      generalize (⟨(nm pj.1).toArray⟩ : ByteArray) ++ (⟨#[44]⟩ : ByteArray) ++ (⟨(nm pj.2).toArray⟩ : ByteArray) = X at *
      go_wp2
      go_roundw
      case rel => exact ⟨j + 1, xs ++ [X], by go_num, by omega, by simp [hxl], N1.out, N2.out, Hwf.out⟩
      case measure => simp [intOf]; omega
    · obtain rfl : j = r.length := by omega
      rw [List.take_of_length_le (by simp)] at hxs
      have hform := o2.2
      rcases hform with ⟨_, h0⟩ | ⟨g, cap', cur, rfl, hg1, hg2, hg3, _⟩
      · omega
      · have hcells : ∀ (k : Nat) x, xs[k]? = some x → wr.cell? ⟨g, 0 + k, none⟩ = some (.string x) := fun k x hx => by
          have hk : k < xs.length := (List.getElem?_eq_some_iff.1 hx).1
          rw [Nat.zero_add]
          have := o2.cellAt k (by omega)
          rw [List.getElem?_map, hx] at this
          exact this
        have hlen2 : (Lib.join (xs.map (fun x => x.data.toList)) ((⟨#[32]⟩ : ByteArray).data.toList)).length ≤ 140737488355328 := by
          have h1 := ringL_len hr6
          rw [hxs]
          have : Lib.join (r.map ptL) ((⟨#[32]⟩ : ByteArray).data.toList) = ringL r := rfl
          rw [this]; omega
        have KJ := hide (Tryd.strings_Join g 0 cap' xs ⟨#[32]⟩ wr hcells (Array.getElem?_eq_some_iff.1 hg2).1 (by omega) (by omega) hlen2)
        rw [hxl] at KJ
        have HT := hide (show (⟨(Lib.join (xs.map (fun x => x.data.toList)) ((⟨#[32]⟩ : ByteArray).data.toList)).toArray⟩ : ByteArray).data.toList = ringL r by rw [hxs]; rfl)
        have Hw := hide hw2
        generalize (⟨(Lib.join (xs.map (fun x => x.data.toList)) ((⟨#[32]⟩ : ByteArray).data.toList)).toArray⟩ : ByteArray) = S at KJ HT
        clear hw2 hcells hlen2 hxs hr2 o2
        go_wp2_with fail
        refine KJ.out.mono ?_
        rintro e w5 ⟨rfl, hb5⟩
        go_wp2
        go_ret
        exact ⟨S, rfl, HT.out, below_call hb5 Hw.out⟩

set_option maxRecDepth 100000 in
set_option maxHeartbeats 4000000 in
theorem write_ok (R : List (List Acre.Pt)) (v : Value) (w : World) (hR : Rings w v R) (hF : Acre.fieldOk R = true) (ht : Tab w) :
    Calls Tryd.prog 5 #[v] w fun e w' => ∃ s : ByteArray, e = .returned (.tuple #[.string s, .int .i64 0]) ∧ s.data.toList = textL R ∧ Below w.heap.size w w' := by
  obtain ⟨hR2, hRk⟩ := fieldFacts hF
  have K1 := hide (isField_any R v w hR (by unfold maxLen; omega) (fun r hr => by have := (ringFacts (hRk r hr)).2.1; unfold maxLen; omega))
  rw [hF] at K1
  obtain ⟨ga, b, off, cap, rfl, hga, hcs⟩ := hR
  obtain ⟨i0, hi, hz0, hz1, hz2⟩ := info_parts info9
  go_enter Tryd.func5, Tryd.ntmps5
  go_wp2_with fail
  refine K1.out.mono ?_
  rintro e w0 ⟨rfl, hb0⟩
  clear K1
  go_wp2_with fail
  go_loopw [4, 12] (fun q i wr => ∃ (k : Nat) (xs : List ByteArray), i = .int .i64 k ∧ k ≤ R.length ∧ xs.length = k ∧ Hid (wr.ownsRow w.heap.size 9 1 q k (xs.map Value.string) ∧ xs.map (fun x => x.data.toList) = (R.map ringL).take k ∧ Below w.heap.size w wr)) (fun _ i _ => R.length - (intOf i).toNat)
  case atStart => exact ⟨0, [], rfl, Nat.zero_le _, rfl, World.ownsRow_nil _ _ _ _, rfl, hb0⟩
  case round =>
    obtain ⟨k, xs, rfl, hk, hxl, hr2⟩ := hrel
    obtain ⟨o2, hxs, hw2⟩ := hr2.out
    by_cases hlt : k < R.length
    · obtain rfl := hga (by omega)
      obtain ⟨s1, hs, hring⟩ := hcs k hlt
      have hrk := hRk R[k] (List.getElem_mem hlt)
      have hst : (R.map ringL).take (k + 1) = (R.map ringL).take k ++ [ringL R[k]] := by rw [List.take_succ_eq_append_getElem (by simpa using hlt)]; simp
      have KW := hide (writeRing_any R[k] s1 wr (hring.later hw2) hrk (tab_later ht hw2))
      have hs' := cell_later hw2 hs
      have hform : ∃ ra n rcap, s1 = .slice ra n rcap := by
        obtain ⟨ra, rb, roff, rcap, rfl, _⟩ := hring
        exact ⟨_, _, _, rfl⟩
      obtain ⟨ra, n, rcap, rfl⟩ := hform
      have Hst := hide hst
      have Hxs := hide hxs
      have hk0 : (0 : Int) ≤ (k : Int) := Int.natCast_nonneg _
      have hk1 : (k : Int) < (R.length : Int) := by omega
      clear hst hxs hr2 hs hring hrk
      generalize R[k] = r at *
      go_wp2_with fail
      refine KW.out.mono ?_
      rintro e w3 ⟨X, rfl, hX, hb3⟩
      have o3 := row_call o2 hb3
      have hw3 := below_call hb3 hw2
      have HX := hide hX
      clear hX KW
      go_wp2_with (first
        | (at_builtin; refine wpList_append_own_at _ rfl _ _ 40 rfl w.heap.size 9 i0 (.string ⟨#[]⟩) 1 16 Tryd.underlying40 hi hz0 hz1 hz2 rfl (by decide) _ _ _ rfl (o3.alloc _) ⟨w3.heap.size, 0, none⟩ 1 1 [.string X] rfl rfl (cell_one_new _ _ _) (by simp [Value.oneCell']) (by unfold maxLen; omega) (by omega) (by have := hw3.size; simp; omega) ?_)
        | go_in)
      intro v' w' hown hgrow hne hob
      have hwf : Below w.heap.size w w' := (hw3.alloc hw3.size _).grown hgrow (by have := hw3.size; simp; omega) (fun c hc => (o3.lt c hc).1)
      have N1 := hide (show w'.ownsRow w.heap.size 9 1 v' (k + 1) ((xs ++ [X]).map Value.string) by rw [List.map_append]; exact hown)
      have N2 := hide (show (xs ++ [X]).map (fun x => x.data.toList) = (R.map ringL).take (k + 1) by rw [List.map_append, List.map_singleton, HX.out, Hxs.out, Hst.out])
      have Hwf := hide hwf
      clear hwf hown hgrow hne hob
      go_wp2
      go_roundw
      case rel => exact ⟨k + 1, xs ++ [X], by go_num, by omega, by simp [hxl], N1.out, N2.out, Hwf.out⟩
      case measure => simp [intOf]; omega
    · obtain rfl : k = R.length := by omega
      rw [List.take_of_length_le (by simp)] at hxs
      have hform := o2.2
      rcases hform with ⟨rfl, h0⟩ | ⟨g, cap', cur, rfl, hg1, hg2, hg3, _⟩
      · have hR0 : R = [] := List.length_eq_zero_iff.1 h0
        subst hR0
        have KJ := hide (Tryd.strings_Join_none none 0 ⟨#[59]⟩ wr)
        have Hw := hide hw2
        clear hw2 hxs hr2 o2
        go_wp2_with fail
        refine KJ.out.mono ?_
        rintro e w5 ⟨rfl, rfl⟩
        go_wp2
        go_ret2
        exact ⟨⟨#[]⟩, rfl, rfl, Hw.out⟩
      · have hcells : ∀ (k : Nat) x, xs[k]? = some x → wr.cell? ⟨g, 0 + k, none⟩ = some (.string x) := fun k x hx => by
          have hk : k < xs.length := (List.getElem?_eq_some_iff.1 hx).1
          rw [Nat.zero_add]
          have := o2.cellAt k (by omega)
          rw [List.getElem?_map, hx] at this
          exact this
        have hlen2 : (Lib.join (xs.map (fun x => x.data.toList)) ((⟨#[59]⟩ : ByteArray).data.toList)).length ≤ 140737488355328 := by
          rw [hxs]
          have h1 := JJ_len 59 48 (R.map ringL) (fun x hx => by obtain ⟨r, hr, rfl⟩ := List.mem_map.1 hx; exact ringL_len (ringFacts (hRk r hr)).2.1)
          rw [List.length_map] at h1
          have : Lib.join (R.map ringL) ((⟨#[59]⟩ : ByteArray).data.toList) = JJ 59 (R.map ringL) := rfl
          rw [this]; omega
        have KJ := hide (Tryd.strings_Join g 0 cap' xs ⟨#[59]⟩ wr hcells (Array.getElem?_eq_some_iff.1 hg2).1 (by omega) (by omega) hlen2)
        rw [hxl] at KJ
        have HT := hide (show (⟨(Lib.join (xs.map (fun x => x.data.toList)) ((⟨#[59]⟩ : ByteArray).data.toList)).toArray⟩ : ByteArray).data.toList = textL R by rw [hxs]; rfl)
        have Hw := hide hw2
        generalize (⟨(Lib.join (xs.map (fun x => x.data.toList)) ((⟨#[59]⟩ : ByteArray).data.toList)).toArray⟩ : ByteArray) = S at KJ HT
        clear hw2 hcells hlen2 hxs hr2 o2
        go_wp2_with fail
        refine KJ.out.mono ?_
        rintro e w5 ⟨rfl, hb5⟩
        go_wp2
        go_ret2
        exact ⟨S, rfl, HT.out, below_call hb5 Hw.out⟩

set_option maxHeartbeats 1000000 in
theorem write_no (R : List (List Acre.Pt)) (v : Value) (w : World) (hR : Rings w v R) (hF : Acre.fieldOk R = false) (hn : R.length ≤ maxLen) (hm : ∀ r ∈ R, r.length ≤ maxLen) :
    Calls Tryd.prog 5 #[v] w fun e w' => e = .returned (.tuple #[.string ⟨#[]⟩, .int .i64 6]) ∧ Below w.heap.size w w' := by
  have K1 := hide (isField_any R v w hR hn hm)
  rw [hF] at K1
  obtain ⟨ga, b, off, cap, rfl, hga, hcs⟩ := hR
  go_enter Tryd.func5, Tryd.ntmps5
  go_wp2_with fail
  refine K1.out.mono ?_
  rintro e w0 ⟨rfl, hb0⟩
  go_wp2
  go_ret2
  exact ⟨rfl, hb0⟩

end Go.Proofs.YtkjlkbgdkdcboaaDoor
