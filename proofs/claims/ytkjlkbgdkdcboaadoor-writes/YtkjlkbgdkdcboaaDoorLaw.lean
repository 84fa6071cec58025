import Derived.Test.YtkjlkbgdkdcboaaDoorRound
import Derived.Test.YtkjlkbgdkdcboaaDoorPW
import Derived.Test.YtkjlkbgdkdcboaaDoorSame
namespace Go.Proofs.YtkjlkbgdkdcboaaDoor
open Go.RowKit
attribute [local go_sem ↓] Go.wp_at_zero Go.wp_at_succ

theorem bytes_ext {s t : ByteArray} (h : s.data.toList = t.data.toList) : s = t := by
  obtain ⟨⟨a⟩⟩ := s
  obtain ⟨⟨b⟩⟩ := t
  simp only at h
  rw [h]

set_option maxRecDepth 100000 in
set_option maxHeartbeats 4000000 in
theorem writes_no (R : List (List Acre.Pt)) (v : Value) (w : World) (hR : Rings w v R) (hn : R.length * 24 ≤ 140737488351232) (hm : ∀ r ∈ R, r.length * 16 ≤ 140737488351232) (hF : Acre.fieldOk R = false) :
    Calls Tryd.prog 3 #[v] w fun e w' => e = .returned (.bool true) ∧ Below w.heap.size w w' := by
  have hn' : R.length ≤ maxLen := by unfold maxLen; omega
  have hm' : ∀ r ∈ R, r.length ≤ maxLen := fun r hr => by have := hm r hr; unfold maxLen; omega
  have KF := hide (fun W x hx => field_any R x W hx hn hm)
  have KS := hide (fun W a c ha hc => same_eq R a c W ha hc hn' hm')
  have KW := hide (fun W x hx => write_no R x W hx hF hn' hm')
  have KR := hide (fun W x hx => rwrite_no R x W hx hF hn' hm')
  have KN := hide (num_any 6)
  have HR := hide hR
  clear hR
  go_enter Tryd.func3, Tryd.ntmps3
  go_wp2_with fail
  refine (KF.out _ v HR.out).mono ?_
  rintro e w1 ⟨u, rfl, hu1, hb1⟩
  have HU1 := hide hu1
  have HV1 := hide (HR.out.later hb1)
  clear hu1
  go_wp2_with fail
  refine (KW.out _ v HV1.out).mono ?_
  rintro e w2 ⟨rfl, hb2⟩
  have HU2 := hide (HU1.out.later hb2)
  have HV2 := hide (HV1.out.later hb2)
  have B2 := below_call hb2 hb1
  clear hb1 hb2 HU1 HV1
  go_wp2_with fail
  refine (KR.out _ u HU2.out).mono ?_
  rintro e w3 ⟨rfl, hb3⟩
  have HU3 := hide (HU2.out.later hb3)
  have HV3 := hide (HV2.out.later hb3)
  have B3 := below_call hb3 B2
  clear B2 hb3 HU2 HV2
  go_wp2_with fail
  refine (KF.out _ v HV3.out).mono ?_
  rintro e w4 ⟨u', rfl, hu4, hb4⟩
  have HU4 := hide (HU3.out.later hb4)
  have HN4 := hide hu4
  have B4 := below_call hb4 B3
  clear B3 hb4 HU3 HV3 hu4
  go_wp2_with fail
  refine (KS.out _ u' u HN4.out HU4.out).mono ?_
  rintro e w5 ⟨rfl, hb5⟩
  have B5 := below_call hb5 B4
  clear B4 hb5
  go_wp2_with fail
  refine (KN.out _).mono ?_
  rintro e w6 ⟨rfl, rfl⟩
  go_wp2
  go_ret
  exact ⟨rfl, B5⟩

set_option maxRecDepth 100000 in
set_option maxHeartbeats 4000000 in
theorem writes_ok (R : List (List Acre.Pt)) (v : Value) (w : World) (hR : Rings w v R) (hn : R.length * 24 ≤ 140737488351232) (hm : ∀ r ∈ R, r.length * 16 ≤ 140737488351232) (hF : Acre.fieldOk R = true) (ht : Tab w) :
    Calls Tryd.prog 3 #[v] w fun e w' => e = .returned (.bool true) ∧ Below w.heap.size w w' := by
  have hn' : R.length ≤ maxLen := by unfold maxLen; omega
  have hm' : ∀ r ∈ R, r.length ≤ maxLen := fun r hr => by have := hm r hr; unfold maxLen; omega
  have KF := hide (fun W x hx => field_any R x W hx hn hm)
  have KS := hide (fun W a c ha hc => same_eq R a c W ha hc hn' hm')
  have KW := hide (fun W x hx hT => write_ok R x W hx hF hT)
  have KR := hide (fun W x hx => rwrite_ok R x W hx hF)
  have KN := hide (num_any 0)
  have HR := hide hR
  clear hR
  go_enter Tryd.func3, Tryd.ntmps3
  go_wp2_with fail
  refine (KF.out _ v HR.out).mono ?_
  rintro e w1 ⟨u, rfl, hu1, hb1⟩
  have HU1 := hide hu1
  have HV1 := hide (HR.out.later hb1)
  clear hu1
  go_wp2_with fail
  refine (KW.out _ v HV1.out (tab_later ht hb1)).mono ?_
  rintro e w2 ⟨s, rfl, hs, hb2⟩
  have HU2 := hide (HU1.out.later hb2)
  have HV2 := hide (HV1.out.later hb2)
  have B2 := below_call hb2 hb1
  clear hb1 hb2 HU1 HV1
  go_wp2_with fail
  refine (KR.out _ u HU2.out).mono ?_
  rintro e w3 ⟨t, rfl, ht3, hb3⟩
  obtain rfl : s = t := bytes_ext (hs.trans ht3.symm)
  have HU3 := hide (HU2.out.later hb3)
  have HV3 := hide (HV2.out.later hb3)
  have B3 := below_call hb3 B2
  clear B2 hb3 HU2 HV2 ht3
  have KD := hide (fun W => read_any s W)
  have HS := hide hs
  clear hs
  go_wp2_with fail
  refine (KF.out _ v HV3.out).mono ?_
  rintro e w4 ⟨u', rfl, hu4, hb4⟩
  have HU4 := hide (HU3.out.later hb4)
  have HN4 := hide hu4
  have B4 := below_call hb4 B3
  clear B3 hb4 HU3 HV3 hu4
  go_wp2_with fail
  refine (KS.out _ u' u HN4.out HU4.out).mono ?_
  rintro e w5 ⟨rfl, hb5⟩
  have HU5 := hide (HU4.out.later hb5)
  have B5 := below_call hb5 B4
  clear B4 hb5 HU4 HN4
  by_cases h120 : 120 < s.size
  · have h120' : (120 : Int) < (s.size : Int) := by omega
    go_wp2_with fail
    refine (KN.out _).mono ?_
    rintro e w6 ⟨rfl, rfl⟩
    go_wp2
    go_ret
    exact ⟨rfl, B5⟩
  · have h120' : ¬ (120 : Int) < (s.size : Int) := by omega
    have hrt := round_trip s R hF HS.out (by omega)
    unfold ReadPost at KD
    rw [hrt] at KD
    clear hrt
    go_wp2_with fail
    refine (KN.out _).mono ?_
    rintro e w6 ⟨rfl, rfl⟩
    go_wp2_with fail
    refine (KD.out _).mono ?_
    rintro e w7 ⟨f, rfl, hA, hb7⟩
    have HF7 := hide hA.rings
    have HU7 := hide (HU5.out.later hb7)
    have B7 := below_call hb7 B5
    clear hA hb7 B5 HU5
    go_wp2_with fail
    refine (KF.out _ f HF7.out).mono ?_
    rintro e w8 ⟨f', rfl, hf8, hb8⟩
    have HF8 := hide hf8
    have HU8 := hide (HU7.out.later hb8)
    have B8 := below_call hb8 B7
    clear hf8 hb8 B7 HU7 HF7
    go_wp2_with fail
    refine (KS.out _ f' u HF8.out HU8.out).mono ?_
    rintro e w9 ⟨rfl, hb9⟩
    have B9 := below_call hb9 B8
    clear B8 hb9
    go_wp2_with fail
    refine (KN.out _).mono ?_
    rintro e w10 ⟨rfl, rfl⟩
    go_wp2
    go_ret
    exact ⟨rfl, B9⟩

theorem writes_walk (R : List (List Acre.Pt)) (v : Value) (w : World) (hR : Rings w v R) (hn : R.length * 24 ≤ 140737488351232) (hm : ∀ r ∈ R, r.length * 16 ≤ 140737488351232) (ht : Tab w) :
    Calls Tryd.prog 3 #[v] w fun e w' => e = .returned (.bool true) ∧ Below w.heap.size w w' := by
  cases hF : Acre.fieldOk R with
  | false => exact writes_no R v w hR hn hm hF
  | true => exact writes_ok R v w hR hn hm hF ht

end Go.Proofs.YtkjlkbgdkdcboaaDoor
