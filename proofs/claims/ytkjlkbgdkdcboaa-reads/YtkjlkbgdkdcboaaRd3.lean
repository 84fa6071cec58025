import Derived.Test.YtkjlkbgdkdcboaaRd2
namespace Go.Proofs.Ytkjlkbgdkdcboaa
open Go.RowKit
attribute [local go_sem ↓] Go.wp_at_zero Go.wp_at_succ

/-- how far the program has read, with what it has -/
structure PS where
  r : RS
  acc : List Sp
  accs : List (List Sp)

def takeP (s : PS) (a c : Int) : Option PS :=
  if (c = 45 ∨ c = 8722) ∧ s.r.step = 0 then some ⟨s.r.begin a true, s.acc, s.accs⟩
  else if (48 ≤ c ∧ c ≤ 57) ∧ s.r.step ≠ 3 then some ⟨s.r.digit a (c - 48), s.acc, s.accs⟩
  else if c = 44 ∧ mayE s.r false = true then some ⟨{ s.r.endN with half := true }, s.acc, s.accs⟩
  else if c = 32 ∧ mayE s.r true = true then some ⟨{ s.r.endN with half := false }, s.acc ++ [s.r.endN.sp], s.accs⟩
  else if c = 59 ∧ mayE s.r true = true then some ⟨{ s.r.endN with half := false }, [], s.accs ++ [s.acc ++ [s.r.endN.sp]]⟩
  else none

def PSAt (w0 W : World) (it : Option Obj) (s : PS) : Prop := ∃ x y, ScAt w0 W it s.r x y s.acc s.accs

def TakePost (w0 : World) (it : Option Obj) (s : PS) (a c : Int) (w : World) (e : Ending) (w' : World) : Prop :=
  match takeP s a c with
  | none => e = .returned (.bool false) ∧ w' = w
  | some s' => e = .returned (.bool true) ∧ PSAt w0 w' it s'

theorem tp_none {w0 w w' : World} {it : Option Obj} {s : PS} {a c : Int} {e : Ending} (h : takeP s a c = none) (he : e = .returned (.bool false)) (hw : w' = w) : TakePost w0 it s a c w e w' := by
  unfold TakePost; rw [h]; exact ⟨he, hw⟩
theorem tp_some {w0 w w' : World} {it : Option Obj} {s s' : PS} {a c : Int} {e : Ending} (h : takeP s a c = some s') (he : e = .returned (.bool true)) (hw : PSAt w0 w' it s') : TakePost w0 it s a c w e w' := by
  unfold TakePost; rw [h]; exact ⟨he, hw⟩

set_option maxHeartbeats 1000000 in
theorem take_minus (w0 w : World) (it : Option Obj) (s : PS) (a c : Int) (x y : Value) (h : ScAt w0 w it s.r x y s.acc s.accs) (hc : c = 45 ∨ c = 8722) (h0 : s.r.step = 0) :
    Calls Try.prog 42 #[.pointer (some ⟨w0.heap.size, 0, none⟩), .int .i64 a, .int .i32 c] w (TakePost w0 it s a c w) := by
  have ht := hide (show takeP s a c = some ⟨s.r.begin a true, s.acc, s.accs⟩ by unfold takeP; rw [if_pos ⟨hc, h0⟩])
  have hp := hide (fun e w' => @tp_some w0 w w' it s _ a c e ht.out)
  have k := hide (begin_any _ s.r x y a true w h.rd)
  have hH := hide h
  obtain ⟨c0, c1, c2, c3, c4, c5, c6, c7, c8, f0, f1, f2, f3, f4, f5, f6, f7, f8⟩ := id h.rd
  rw [h0] at c0
  clear h ht
  rcases hc with rfl | rfl
  · go_enter Try.func42, Try.ntmps42
    go_wp2_with fail
    refine k.out.mono ?_
    rintro e w1 ⟨rfl, h1, g1⟩
    go_wp2
    go_ret
    exact hp.out _ _ rfl ⟨_, _, hH.out.set h1 g1⟩
  · go_enter Try.func42, Try.ntmps42
    go_wp2_with fail
    refine k.out.mono ?_
    rintro e w1 ⟨rfl, h1, g1⟩
    go_wp2
    go_ret
    exact hp.out _ _ rfl ⟨_, _, hH.out.set h1 g1⟩

set_option maxHeartbeats 1000000 in
theorem take_minus_no (w0 w : World) (it : Option Obj) (s : PS) (a c : Int) (x y : Value) (h : ScAt w0 w it s.r x y s.acc s.accs) (hc : c = 45 ∨ c = 8722) (h0 : s.r.step ≠ 0) :
    Calls Try.prog 42 #[.pointer (some ⟨w0.heap.size, 0, none⟩), .int .i64 a, .int .i32 c] w (TakePost w0 it s a c w) := by
  have ht := hide (show takeP s a c = none by unfold takeP; rw [if_neg (by omega), if_neg (by omega), if_neg (by omega), if_neg (by omega), if_neg (by omega)])
  have hp := hide (fun e w' => @tp_none w0 w w' it s a c e ht.out)
  obtain ⟨c0, c1, c2, c3, c4, c5, c6, c7, c8, f0, f1, f2, f3, f4, f5, f6, f7, f8⟩ := id h.rd
  obtain ⟨st, hst⟩ : ∃ st, s.r.step = st := ⟨_, rfl⟩
  rw [hst] at c0 h0
  have hb : (st == 0) = false := by simpa using h0
  clear h ht hst
  rcases hc with rfl | rfl
  · go_enter Try.func42, Try.ntmps42
    go_wp2
    go_ret
    exact hp.out _ _ rfl rfl
  · go_enter Try.func42, Try.ntmps42
    go_wp2
    go_ret
    exact hp.out _ _ rfl rfl

set_option maxHeartbeats 1000000 in
theorem take_digit (w0 w : World) (it : Option Obj) (s : PS) (a c : Int) (x y : Value) (h : ScAt w0 w it s.r x y s.acc s.accs) (hf : Few s.r) (hc : 48 ≤ c ∧ c ≤ 57) (h3 : s.r.step ≠ 3) :
    Calls Try.prog 42 #[.pointer (some ⟨w0.heap.size, 0, none⟩), .int .i64 a, .int .i32 c] w (TakePost w0 it s a c w) := by
  have ht := hide (show takeP s a c = some ⟨s.r.digit a (c - 48), s.acc, s.accs⟩ by unfold takeP; rw [if_neg (by omega), if_pos ⟨hc, h3⟩])
  have hp := hide (fun e w' => @tp_some w0 w w' it s _ a c e ht.out)
  have k := hide (digit_any _ s.r x y a (c - 48) w h.rd (by omega) hf)
  have hH := hide h
  obtain ⟨c0, c1, c2, c3, c4, c5, c6, c7, c8, f0, f1, f2, f3, f4, f5, f6, f7, f8⟩ := id h.rd
  obtain ⟨st, hst⟩ : ∃ st, s.r.step = st := ⟨_, rfl⟩
  rw [hst] at c0 h3
  have hb : (st == 3) = false := by simpa using h3
  have n1 : (c == 45) = false := by simp; omega
  have n2 : (c == 8722) = false := by simp; omega
  have n3 : IntKind.i32.wrap (c - 48) = c - 48 := by rw [IntKind.wrap_i32]; omega
  obtain ⟨hc1, hc2⟩ := hc
  clear h ht hst
  go_enter Try.func42, Try.ntmps42
  go_wp2_with fail
  refine k.out.mono ?_
  rintro e w1 ⟨rfl, h1, g1⟩
  go_wp2
  go_ret
  exact hp.out _ _ rfl ⟨_, _, hH.out.set h1 g1⟩

set_option maxHeartbeats 1000000 in
theorem take_digit_no (w0 w : World) (it : Option Obj) (s : PS) (a c : Int) (x y : Value) (h : ScAt w0 w it s.r x y s.acc s.accs) (hc : 48 ≤ c ∧ c ≤ 57) (h3 : s.r.step = 3) :
    Calls Try.prog 42 #[.pointer (some ⟨w0.heap.size, 0, none⟩), .int .i64 a, .int .i32 c] w (TakePost w0 it s a c w) := by
  have ht := hide (show takeP s a c = none by unfold takeP; rw [if_neg (by omega), if_neg (by omega), if_neg (by omega), if_neg (by omega), if_neg (by omega)])
  have hp := hide (fun e w' => @tp_none w0 w w' it s a c e ht.out)
  obtain ⟨c0, c1, c2, c3, c4, c5, c6, c7, c8, f0, f1, f2, f3, f4, f5, f6, f7, f8⟩ := id h.rd
  rw [h3] at c0
  have n1 : (c == 45) = false := by simp; omega
  have n2 : (c == 8722) = false := by simp; omega
  have n4 : (c == 44) = false := by simp; omega
  have n5 : (c == 32) = false := by simp; omega
  have n6 : (c == 59) = false := by simp; omega
  obtain ⟨hc1, hc2⟩ := hc
  clear h ht
  go_enter Try.func42, Try.ntmps42
  go_wp2
  go_ret
  exact hp.out _ _ rfl rfl

set_option maxHeartbeats 1000000 in
theorem take_other (w0 w : World) (it : Option Obj) (s : PS) (a c : Int) (hc : c ≠ 45 ∧ c ≠ 8722 ∧ ¬ (48 ≤ c ∧ c ≤ 57) ∧ c ≠ 44 ∧ c ≠ 32 ∧ c ≠ 59) :
    Calls Try.prog 42 #[.pointer (some ⟨w0.heap.size, 0, none⟩), .int .i64 a, .int .i32 c] w (TakePost w0 it s a c w) := by
  have ht := hide (show takeP s a c = none by unfold takeP; rw [if_neg (by omega), if_neg (by omega), if_neg (by omega), if_neg (by omega), if_neg (by omega)])
  have hp := hide (fun e w' => @tp_none w0 w w' it s a c e ht.out)
  have n1 : (c == 45) = false := by simp; omega
  have n2 : (c == 8722) = false := by simp; omega
  have n4 : (c == 44) = false := by simp; omega
  have n5 : (c == 32) = false := by simp; omega
  have n6 : (c == 59) = false := by simp; omega
  obtain ⟨_, _, hc3, _, _, _⟩ := hc
  by_cases h48 : 48 ≤ c
  · have h57 : ¬ c ≤ 57 := by omega
    go_enter Try.func42, Try.ntmps42
    go_wp2
    go_ret
    exact hp.out _ _ rfl rfl
  · go_enter Try.func42, Try.ntmps42
    go_wp2
    go_ret
    exact hp.out _ _ rfl rfl

set_option maxHeartbeats 1000000 in
theorem take_sep_no (w0 w : World) (it : Option Obj) (s : PS) (a c : Int) (x y : Value) (h : ScAt w0 w it s.r x y s.acc s.accs) (hb : Bool) (hc : (c = 44 ∧ hb = false) ∨ (c = 32 ∧ hb = true) ∨ (c = 59 ∧ hb = true)) (hm : mayE s.r hb = false) :
    Calls Try.prog 42 #[.pointer (some ⟨w0.heap.size, 0, none⟩), .int .i64 a, .int .i32 c] w (TakePost w0 it s a c w) := by
  have ht := hide (show takeP s a c = none by
    unfold takeP
    rw [if_neg (by omega), if_neg (by omega), if_neg (by rcases hc with ⟨h1, rfl⟩ | ⟨h1, h2⟩ | ⟨h1, h2⟩ <;> first | (rw [hm]; simp) | omega), if_neg (by rcases hc with ⟨h1, rfl⟩ | ⟨h1, rfl⟩ | ⟨h1, h2⟩ <;> first | (rw [hm]; simp; done) | omega), if_neg (by rcases hc with ⟨h1, rfl⟩ | ⟨h1, rfl⟩ | ⟨h1, rfl⟩ <;> first | (rw [hm]; simp; done) | omega)])
  have hp := hide (fun e w' => @tp_none w0 w w' it s a c e ht.out)
  have k := hide (fun W hW => mayEnd_any w0.heap.size s.r x y hb W hW)
  rw [hm] at k
  have hH := hide h
  have hrd := h.rd
  clear h ht hm
  rcases hc with ⟨rfl, rfl⟩ | ⟨rfl, rfl⟩ | ⟨rfl, rfl⟩
  · go_enter Try.func42, Try.ntmps42
    go_wp2_with fail
    refine (k.out _ hrd).mono ?_
    rintro e w1 ⟨rfl, rfl⟩
    go_wp2
    go_ret
    exact hp.out _ _ rfl rfl
  · go_enter Try.func42, Try.ntmps42
    go_wp2_with fail
    refine (k.out _ hrd).mono ?_
    rintro e w1 ⟨rfl, rfl⟩
    go_wp2
    go_ret
    exact hp.out _ _ rfl rfl
  · go_enter Try.func42, Try.ntmps42
    go_wp2_with fail
    refine (k.out _ hrd).mono ?_
    rintro e w1 ⟨rfl, rfl⟩
    go_wp2
    go_ret
    exact hp.out _ _ rfl rfl

set_option maxHeartbeats 1000000 in
theorem take_comma (w0 w : World) (it : Option Obj) (s : PS) (a : Int) (x y : Value) (h : ScAt w0 w it s.r x y s.acc s.accs) (hf : Few s.r) (hm : mayE s.r false = true) :
    Calls Try.prog 42 #[.pointer (some ⟨w0.heap.size, 0, none⟩), .int .i64 a, .int .i32 44] w (TakePost w0 it s a 44 w) := by
  have ht := hide (show takeP s a 44 = some ⟨{ s.r.endN with half := true }, s.acc, s.accs⟩ by
    unfold takeP
    rw [if_neg (by omega), if_neg (by omega), if_pos ⟨rfl, hm⟩])
  have hp := hide (fun e w' => @tp_some w0 w w' it s _ a 44 e ht.out)
  have k := hide (mayEnd_any w0.heap.size s.r x y false w h.rd)
  have k2 := hide (endNumber_any _ s.r x y w h.rd hf)
  rw [hm] at k
  have hH := hide h
  clear h ht hm
  go_enter Try.func42, Try.ntmps42
  go_wp2_with fail
  refine k.out.mono ?_
  rintro e w1 ⟨rfl, rfl⟩
  go_wp2_with fail
  refine k2.out.mono ?_
  rintro e w2 ⟨rfl, h2, g2⟩
  have s2 := hH.out.set h2 g2
  obtain ⟨c0, c1, c2, c3, c4, c5, c6, c7, c8, f0, f1, f2, f3, f4, f5, f6, f7, f8⟩ := id h2
  go_wp2
  go_ret
  exact hp.out _ _ rfl ⟨_, _, s2.set (h2.s2 true) (gb_set _ _ _ _)⟩

set_option maxHeartbeats 1000000 in
theorem take_blank (w0 w : World) (it : Option Obj) (s : PS) (a : Int) (x y : Value) (h : ScAt w0 w it s.r x y s.acc s.accs) (hf : Few s.r) (hn : s.acc.length ≤ 1000) (hm : mayE s.r true = true) :
    Calls Try.prog 42 #[.pointer (some ⟨w0.heap.size, 0, none⟩), .int .i64 a, .int .i32 32] w (TakePost w0 it s a 32 w) := by
  have ht := hide (show takeP s a 32 = some ⟨{ s.r.endN with half := false }, s.acc ++ [s.r.endN.sp], s.accs⟩ by
    unfold takeP
    rw [if_neg (by omega), if_neg (by omega), if_neg (by omega), if_pos ⟨rfl, hm⟩])
  have hp := hide (fun e w' => @tp_some w0 w w' it s _ a 32 e ht.out)
  have k := hide (mayEnd_any w0.heap.size s.r x y true w h.rd)
  have k2 := hide (endPoint_any w0 w it s.r x y s.acc s.accs h hf hn)
  rw [hm] at k
  clear h ht hm
  go_enter Try.func42, Try.ntmps42
  go_wp2_with fail
  refine k.out.mono ?_
  rintro e w1 ⟨rfl, rfl⟩
  go_wp2_with fail
  refine k2.out.mono ?_
  rintro e w2 ⟨rfl, x2, h2⟩
  go_wp2
  go_ret
  exact hp.out _ _ rfl ⟨_, _, h2⟩

set_option maxHeartbeats 1000000 in
theorem take_semi (w0 w : World) (it : Option Obj) (s : PS) (a : Int) (x y : Value) (h : ScAt w0 w it s.r x y s.acc s.accs) (hf : Few s.r) (hn : s.acc.length ≤ 1000) (hn2 : s.accs.length ≤ 1000) (hm : mayE s.r true = true) :
    Calls Try.prog 42 #[.pointer (some ⟨w0.heap.size, 0, none⟩), .int .i64 a, .int .i32 59] w (TakePost w0 it s a 59 w) := by
  have ht := hide (show takeP s a 59 = some ⟨{ s.r.endN with half := false }, [], s.accs ++ [s.acc ++ [s.r.endN.sp]]⟩ by
    unfold takeP
    rw [if_neg (by omega), if_neg (by omega), if_neg (by omega), if_neg (by omega), if_pos ⟨rfl, hm⟩])
  have hp := hide (fun e w' => @tp_some w0 w w' it s _ a 59 e ht.out)
  have k := hide (mayEnd_any w0.heap.size s.r x y true w h.rd)
  have k2 := hide (endRing_any w0 w it s.r x y s.acc s.accs h hf hn hn2)
  rw [hm] at k
  clear h ht hm
  go_enter Try.func42, Try.ntmps42
  go_wp2_with fail
  refine k.out.mono ?_
  rintro e w1 ⟨rfl, rfl⟩
  go_wp2_with fail
  refine k2.out.mono ?_
  rintro e w2 ⟨rfl, x2, h2⟩
  go_wp2
  go_ret
  exact hp.out _ _ rfl ⟨_, _, h2⟩

/-- one code point more -/
theorem take_any (w0 w : World) (it : Option Obj) (s : PS) (a c : Int) (h : PSAt w0 w it s) (hf : Few s.r) (hn : s.acc.length ≤ 1000) (hn2 : s.accs.length ≤ 1000) :
    Calls Try.prog 42 #[.pointer (some ⟨w0.heap.size, 0, none⟩), .int .i64 a, .int .i32 c] w (TakePost w0 it s a c w) := by
  obtain ⟨x, y, h⟩ := h
  by_cases h1 : c = 45 ∨ c = 8722
  · by_cases h0 : s.r.step = 0
    · exact take_minus w0 w it s a c x y h h1 h0
    · exact take_minus_no w0 w it s a c x y h h1 h0
  · by_cases h2 : 48 ≤ c ∧ c ≤ 57
    · by_cases h3 : s.r.step = 3
      · exact take_digit_no w0 w it s a c x y h h2 h3
      · exact take_digit w0 w it s a c x y h hf h2 h3
    · by_cases h44 : c = 44
      · subst h44
        cases hm : mayE s.r false with
        | false => exact take_sep_no w0 w it s a 44 x y h false (Or.inl ⟨rfl, rfl⟩) hm
        | true => exact take_comma w0 w it s a x y h hf hm
      · by_cases h32 : c = 32
        · subst h32
          cases hm : mayE s.r true with
          | false => exact take_sep_no w0 w it s a 32 x y h true (Or.inr (Or.inl ⟨rfl, rfl⟩)) hm
          | true => exact take_blank w0 w it s a x y h hf hn hm
        · by_cases h59 : c = 59
          · subst h59
            cases hm : mayE s.r true with
            | false => exact take_sep_no w0 w it s a 59 x y h true (Or.inr (Or.inr ⟨rfl, rfl⟩)) hm
            | true => exact take_semi w0 w it s a x y h hf hn hn2 hm
          · exact take_other w0 w it s a c ⟨by omega, by omega, h2, h44, h32, h59⟩

end Go.Proofs.Ytkjlkbgdkdcboaa
