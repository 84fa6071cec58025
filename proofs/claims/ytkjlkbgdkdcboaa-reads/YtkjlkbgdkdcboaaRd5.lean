import Derived.Test.YtkjlkbgdkdcboaaRd4
namespace Go.Proofs.Ytkjlkbgdkdcboaa
open Go.RowKit
attribute [local go_sem ↓] Go.wp_at_zero Go.wp_at_succ

theorem ScAt.iter {w0 W : World} {s : ByteArray} {pos : Nat} {r : RS} {x y : Value} {acc : List Sp} {accs : List (List Sp)} (h : ScAt w0 W (some (.stringIter s pos)) r x y acc accs) (p : Nat) : ScAt w0 (W.iterAt (w0.heap.size + 1) s p) (some (.stringIter s p)) r x y acc accs := by
  have hg : W.grownBy (W.iterAt (w0.heap.size + 1) s p) (some (w0.heap.size + 1)) :=
    ⟨rfl, rfl, rfl, by rw [Lib.iterAt_size]; exact Nat.le_refl _, fun k _ hne => Lib.iterAt_other _ _ _ _ _ (fun e => hne (by rw [e]))⟩
  obtain ⟨vs, e1, e2, e3⟩ := h.rows
  refine ⟨h.rd.kept hg (by simp), h.low.grown hg h.low.size (fun k hk => by cases hk; omega), Lib.iterAt_heap _ _ _ _ _ h.itr, by rw [Lib.iterAt_size]; exact h.more, h.row.kept hg (Or.inr (fun e => by have := h.row.lt _ e; omega)), ⟨vs, e1, e2.kept hg (Or.inr (fun e => by have := e2.lt _ e; omega)), fun i hi hi' => ?_⟩, h.apart⟩
  obtain ⟨ga, b, off, cap, h1, h2, h3⟩ := e3 i hi hi'
  refine ⟨ga, b, off, cap, h1, fun q => ?_, fun k hk => ?_⟩
  · obtain ⟨q1, q2, q3, q4, q5⟩ := h2 q
    exact ⟨q1, by rw [Lib.iterAt_size]; exact q2, q3, q4, q5⟩
  · obtain ⟨q1, q2, q3, q4, q5⟩ := h2 (by omega)
    have c := h3 k hk
    have f : some b ≠ some (w0.heap.size + 1) := by intro e; have := Option.some.inj e; omega
    exact ⟨hg.cell c.1 f, hg.cell c.2.1 f, hg.cell c.2.2.1 f, hg.cell c.2.2.2 f⟩

theorem ScAt.start (w : World) (s : ByteArray) : ScAt w ((w.alloc (.cells #[.int .i64 0, .bool false, .int .i64 0, .int .i64 0, .int .i64 0, .int .i64 0, .int .i64 0, .slice none 0 0, .slice none 0 0] 97)).iter s 0) (some (.stringIter s 0)) init.r (.slice none 0 0) (.slice none 0 0) [] [] := by
  have hg : (w.alloc (.cells #[.int .i64 0, .bool false, .int .i64 0, .int .i64 0, .int .i64 0, .int .i64 0, .int .i64 0, .slice none 0 0, .slice none 0 0] 97)).grownBy ((w.alloc (.cells #[.int .i64 0, .bool false, .int .i64 0, .int .i64 0, .int .i64 0, .int .i64 0, .int .i64 0, .slice none 0 0, .slice none 0 0] 97)).iter s 0) none := gb_alloc _ (.stringIter s 0) none
  have h0 : RdAt (w.alloc (.cells #[.int .i64 0, .bool false, .int .i64 0, .int .i64 0, .int .i64 0, .int .i64 0, .int .i64 0, .slice none 0 0, .slice none 0 0] 97)) w.heap.size init.r (.slice none 0 0) (.slice none 0 0) := by
    constructor <;> simp [go_sem, init, hI]
  refine ⟨h0.kept hg (by simp), ?_, ?_, ?_, World.ownsRow_nil _ _ _ _, ⟨[], rfl, World.ownsRow_nil _ _ _ _, fun i h => by simp at h⟩, fun c hc => by cases hc⟩
  · exact ((Below.refl _ w).alloc (Nat.le_refl _) _).alloc (by simp) (.stringIter s 0)
  · have := World.iter_heap (w.alloc (.cells #[.int .i64 0, .bool false, .int .i64 0, .int .i64 0, .int .i64 0, .int .i64 0, .int .i64 0, .slice none 0 0, .slice none 0 0] 97)) s 0
    simpa using this
  · have : w.heap.size + 1 < ((w.alloc (.cells #[.int .i64 0, .bool false, .int .i64 0, .int .i64 0, .int .i64 0, .int .i64 0, .int .i64 0, .slice none 0 0, .slice none 0 0] 97)).alloc (.stringIter s 0)).heap.size := by simp
    exact this

/-- what scan answers: the rings, or where it breaks off -/
def finP (s : ByteArray) (F : Option PS × Int) : Option (List (List Sp)) × Int :=
  match F.1 with
  | none => (none, F.2)
  | some st => if mayE st.r true = true then (some (st.accs ++ [st.acc ++ [st.r.endN.sp]]), 0) else (none, s.size)
def scanP (s : ByteArray) : Option (List (List Sp)) × Int := if s.size = 0 then (some [], 0) else finP s (scanF s s.size 0 init)

/-- rings of points of a text, in memory -/
def RingSp (w : World) (u : Value) (ps : List Sp) : Prop :=
  ∃ ga b off cap, u = .slice ga ps.length cap ∧ (0 < ps.length → ga = some ⟨b, off, none⟩ ∧ b < w.heap.size) ∧ SpsAt w b off ps
def RSpots (w : World) (v : Value) (R : List (List Sp)) : Prop :=
  ∃ ga b off cap, v = .slice ga R.length cap ∧ (0 < R.length → ga = some ⟨b, off, none⟩) ∧ ∀ i (h : i < R.length), ∃ u, w.cell? ⟨b, off + i, none⟩ = some u ∧ RingSp w u R[i]
theorem ScAt.spots {w0 W : World} {it : Option Obj} {r : RS} {x y : Value} {acc : List Sp} {accs : List (List Sp)} (h : ScAt w0 W it r x y acc accs) : RSpots W y accs := by
  obtain ⟨vs, h1, h2, h3⟩ := h.rows
  rcases h2.2 with ⟨rfl, h0⟩ | ⟨g, cap, cur, rfl, _⟩
  · exact ⟨none, 0, 0, 0, by rw [h0], fun k => absurd k (by omega), fun i hi => absurd hi (by omega)⟩
  · refine ⟨_, g, 0, cap, rfl, fun _ => rfl, fun i hi => ⟨vs[i], ?_, ?_⟩⟩
    · rw [Nat.zero_add]
      exact (h2.cellAt i (by omega)).trans (List.getElem?_eq_getElem (by omega))
    · obtain ⟨ga, b, off, cap, q1, q2, q3⟩ := h3 i hi (by omega)
      exact ⟨ga, b, off, cap, q1, fun k => ⟨(q2 k).1, (q2 k).2.1⟩, q3⟩

theorem bgF_bd (t : ByteArray) (f k : Nat) : k ≤ bgF t f k ∧ bgF t f k ≤ k + f := by
  induction f generalizing k with
  | zero => simp [bgF]
  | succ f ih =>
    rw [bgF]
    split
    · have := ih (k + 1); omega
    · omega
theorem bgP_bd (st : Int) (t : ByteArray) : 0 ≤ bgP st t ∧ bgP st t ≤ 3 := by
  unfold bgP
  have := bgF_bd t 3 0
  split <;> omega
theorem scanF_end (s : ByteArray) (f pos : Nat) (st : PS) (h : ¬ pos < s.size) : scanF s f pos st = (some st, 0) := by
  cases f with
  | zero => rfl
  | succ f => rw [scanF, if_neg h]

def ScanPost (s : ByteArray) (w : World) (e : Ending) (w' : World) : Prop :=
  ∃ v, e = .returned (.tuple #[v, .int .i64 (scanP s).2, .bool (scanP s).1.isSome]) ∧ Below w.heap.size w w' ∧ ∀ R, (scanP s).1 = some R → RSpots w' v R

theorem wd_pos (s : ByteArray) (pos : Nat) (h : pos < s.size) : 1 ≤ (Utf8.decode s pos).2 := by
  by_cases ha : (s[pos]'h).toNat < 128
  · rw [decode_ascii s pos h ha]
    exact Nat.le_refl _
  · exact (decode_high s pos h (by omega)).2

set_option maxRecDepth 100000 in
set_option maxHeartbeats 4000000 in
theorem scan_some (s : ByteArray) (w : World) (hs : s.size ≤ 200) (h0 : s.size ≠ 0) (hemp : s.toList.isEmpty = false) :
    Calls Try.prog 18 #[.string s] w (ScanPost s w) := by
  have S0 := hide (ScAt.start w s)
  obtain ⟨F, hF⟩ : ∃ F, scanF s s.size 0 init = F := ⟨_, rfl⟩
  have HP := hide (show scanP s = finP s F by rw [scanP, if_neg h0, hF])
  have HF := hide hF
  clear hF
  go_enter Try.func18, Try.ntmps18
  go_wp2
  go_loopw [6, 7] (fun a c wr => ∃ (pos fuel : Nat) (st : PS), Hid (PSAt w wr (some (.stringIter s pos)) st ∧ scanF s fuel pos st = F ∧ Inv st.r ∧ s.size ≤ pos + fuel ∧ st.acc.length + fuel ≤ s.size ∧ st.accs.length + fuel ≤ s.size)) (fun _ _ wr => s.size - wr.iterPos (w.heap.size + 1))
  case atStart =>
    refine ⟨0, s.size, init, ⟨_, _, S0.out⟩, HF.out, ?_, by omega, by simp [init], by simp [init]⟩
    constructor <;> simp [init, cur]
  case round =>
    obtain ⟨pos, fuel, st, hr⟩ := hrel
    obtain ⟨⟨x, y, hsc⟩, hFe, hinv, hfu, hl1, hl2⟩ := hr.out
    have hit := hsc.itr
    clear hr S0
    by_cases hp : pos < s.size
    · obtain ⟨f, rfl⟩ : ∃ f, fuel = f + 1 := ⟨fuel - 1, by omega⟩
      have hnx : ∀ ty, (Instr.next (.pointer (some ⟨w.heap.size + 1, 0, none⟩)) true ty).run Try.prog wr = _ := fun ty => Lib.run_next_any_at wr (w.heap.size + 1) s pos ty hit hp
      have hwd := wd_pos s pos hp
      have s2 := hsc.iter (pos + (Utf8.decode s pos).2)
      rw [scanF, if_pos hp] at hFe
      have kt := take_any w _ _ st (pos : Int) ((Utf8.decode s pos).1 : Int) ⟨_, _, s2⟩ hinv.few (by omega) (by omega)
      cases hT : takeP st pos (Utf8.decode s pos).1 with
      | none =>
        have hpost : ∀ e w', TakePost w (some (.stringIter s (pos + (Utf8.decode s pos).2))) st pos (Utf8.decode s pos).1 (wr.iterAt (w.heap.size + 1) s (pos + (Utf8.decode s pos).2)) e w' → e = .returned (.bool false) ∧ w' = wr.iterAt (w.heap.size + 1) s (pos + (Utf8.decode s pos).2) := fun e w' h => by
          unfold TakePost at h; rw [hT] at h; exact h
        rw [hT] at hFe
        have Kt := hide (kt.mono hpost)
        have Ks := hide s2
        have HFe := hide hFe
        have kb := hide (begun_any w.heap.size st.r x y (s.extract pos s.size) _ s2.rd)
        have hlow := s2.low
        clear kt hpost hsc hit s2 hFe
        have hp1 : (pos : Int) ≤ (s.size : Int) := by omega
        go_wp2_with fail
        refine Kt.out.mono ?_
        rintro e w1 ⟨rfl, rfl⟩
        go_wp2_with fail
        refine kb.out.mono ?_
        rintro e w2 ⟨rfl, hb2⟩
        have hbg := bgP_bd st.r.step (s.extract pos s.size)
        generalize bgP st.r.step (s.extract pos s.size) = bg at *
        go_wp2
        refine bodyPost_ret (v := .tuple #[.slice none 0 0, .int .i64 ((pos : Int) + bg), .bool false]) (by simp [results, Try.results18, go_sem]) rfl ⟨.slice none 0 0, ?_, below_call hb2 hlow, ?_⟩
        · rw [HP.out, ← HFe.out]; rfl
        · rw [HP.out, ← HFe.out]; intro R hR; cases hR
      | some st' =>
        have hpost : ∀ e w', TakePost w (some (.stringIter s (pos + (Utf8.decode s pos).2))) st pos (Utf8.decode s pos).1 (wr.iterAt (w.heap.size + 1) s (pos + (Utf8.decode s pos).2)) e w' → e = .returned (.bool true) ∧ PSAt w w' (some (.stringIter s (pos + (Utf8.decode s pos).2))) st' := fun e w' h => by
          unfold TakePost at h; rw [hT] at h; exact h
        rw [hT] at hFe
        have Kt := hide (kt.mono hpost)
        have HFe := hide hFe
        have Hinv := hide (hinv.take hT)
        obtain ⟨hl3, hl4⟩ := take_len hT
        have Hit := hide hit
        have Hm := hide (show wr.iterPos (w.heap.size + 1) = pos by simp only [World.iterPos, hit])
        clear kt hpost hsc s2 hFe hT
        go_wp2_with fail
        refine Kt.out.mono ?_
        rintro e w1 ⟨rfl, x1, y1, h1⟩
        have h1i := hide h1.itr
        have H1 := hide h1
        clear h1
        go_wp2
        go_roundw
        case rel => exact ⟨pos + (Utf8.decode s pos).2, f, st', ⟨_, _, H1.out⟩, HFe.out, Hinv.out, by omega, by omega, by omega⟩
        case measure =>
          have e1 : w1.iterPos (w.heap.size + 1) = pos + (Utf8.decode s pos).2 := by simp only [World.iterPos, h1i.out]
          have e2 := Hm.out
          omega
    · have hnx : ∀ ty, (Instr.next (.pointer (some ⟨w.heap.size + 1, 0, none⟩)) true ty).run Try.prog wr = _ := fun ty => Lib.run_next_end_at wr (w.heap.size + 1) s pos ty hit hp
      rw [scanF_end s fuel pos st hp] at hFe
      have HFe := hide hFe
      have km := mayEnd_any w.heap.size st.r x y true wr hsc.rd
      have ke := hide (endRing_any w wr _ st.r x y st.acc st.accs hsc hinv.few (by omega) (by omega))
      have hlow := hsc.low
      cases hm : mayE st.r true with
      | false =>
        rw [hm] at km
        have Km := hide km
        have HR := hide (show finP s F = (none, (s.size : Int)) by rw [← HFe.out]; simp [finP, hm])
        clear km hm hsc ke hFe
        go_wp2_with fail
        refine Km.out.mono ?_
        rintro e w1 ⟨rfl, rfl⟩
        go_wp2
        refine bodyPost_ret (v := .tuple #[.slice none 0 0, .int .i64 (s.size : Int), .bool false]) (by simp [results, Try.results18, go_sem]) rfl ⟨.slice none 0 0, ?_, hlow, ?_⟩
        · rw [HP.out, HR.out]; rfl
        · rw [HP.out, HR.out]; intro R hR; cases hR
      | true =>
        rw [hm] at km
        have Km := hide km
        have HR := hide (show finP s F = (some (st.accs ++ [st.acc ++ [st.r.endN.sp]]), 0) by rw [← HFe.out]; simp [finP, hm])
        clear km hm hsc hFe
        go_wp2_with fail
        refine Km.out.mono ?_
        rintro e w1 ⟨rfl, rfl⟩
        go_wp2_with fail
        refine ke.out.mono ?_
        rintro e w2 ⟨rfl, y2, h2⟩
        have hsp := h2.spots
        have hform : ∃ ga cap, y2 = .slice ga (st.accs ++ [st.acc ++ [st.r.endN.sp]]).length cap := by
          obtain ⟨ga, b, off, cap, rfl, _⟩ := hsp
          exact ⟨_, _, rfl⟩
        obtain ⟨ga, cap, rfl⟩ := hform
        have c8 := h2.rd.c8
        have hlow2 := h2.low
        have Hsp := hide hsp
        clear hsp h2 ke Km
        go_wp2
        refine bodyPost_ret (v := .tuple #[.slice ga (st.accs ++ [st.acc ++ [st.r.endN.sp]]).length cap, .int .i64 0, .bool true]) (by simp [results, Try.results18, go_sem]) rfl ⟨.slice ga (st.accs ++ [st.acc ++ [st.r.endN.sp]]).length cap, ?_, hlow2, ?_⟩
        · rw [HP.out, HR.out]; rfl
        · rw [HP.out, HR.out]; intro R hR
          obtain rfl := Option.some.inj hR
          exact Hsp.out

set_option maxRecDepth 100000 in
set_option maxHeartbeats 400000 in
theorem scan_none (s : ByteArray) (w : World) (h0 : s.size = 0) (hemp : s.toList.isEmpty = true) :
    Calls Try.prog 18 #[.string s] w (ScanPost s w) := by
  have HP := hide (show scanP s = (some [], 0) by rw [scanP, if_pos h0])
  go_enter Try.func18, Try.ntmps18
  go_wp2
  refine bodyPost_ret (v := .tuple #[.slice none 0 0, .int .i64 0, .bool true]) (by simp [results, Try.results18, go_sem]) rfl ⟨.slice none 0 0, ?_, (Below.refl _ _).alloc (Nat.le_refl _) _, ?_⟩
  · rw [HP.out]; rfl
  · rw [HP.out]; intro R hR
    obtain rfl := Option.some.inj hR
    exact ⟨none, 0, 0, 0, rfl, fun k => absurd k (by simp), fun i hi => absurd hi (by simp)⟩

theorem scan_any (s : ByteArray) (w : World) (hs : s.size ≤ 200) : Calls Try.prog 18 #[.string s] w (ScanPost s w) := by
  have he : s.toList.isEmpty = decide (s.size = 0) := by
    rw [ByteArray.toList_eq]
    have : s.data.toList.length = s.size := Array.length_toList
    cases hl : s.data.toList with
    | nil => rw [hl] at this; simp at this; simp [← this]
    | cons a r =>
      rw [hl] at this
      have h1 : ¬ s.size = 0 := by simp at this; omega
      rw [decide_eq_false h1]
      rfl
  by_cases h0 : s.size = 0
  · exact scan_none s w h0 (by rw [he]; simp [h0])
  · exact scan_some s w hs h0 (by rw [he]; simp [h0])

end Go.Proofs.Ytkjlkbgdkdcboaa
