import Derived.Test.YtkjlkbgdkdcboaaGreatDoorWtA
import Derived.Test.YtkjlkbgdkdcboaaGreatDoorCtA
import Derived.Test.YtkjlkbgdkdcboaaGreatDoorRtA
import Derived.Test.YtkjlkbgdkdcboaaGreatDoorSw

set_option linter.unusedSimpArgs false
set_option linter.unusedVariables false

set_option linter.unusedSimpArgs false
set_option linter.unusedVariables false
namespace Go.Proofs.YtkjlkbgdkdcboaaGreatDoor
open Ref

theorem AtB.skip {s : ByteArray} {k : Nat} {A B : List UInt8} (h : AtB s k (A ++ B)) : AtB s (k + A.length) B := by
  have hl := h.len
  obtain ⟨h1, h2⟩ := h
  rw [List.length_append] at hl
  refine ⟨?_, by omega⟩
  rw [← List.drop_drop, h1]
  simp
theorem digP_of {s : ByteArray} {k d : Nat} (h : bt s k = ((48 + d : Nat) : Int)) (hd : d < 10) : digP s k (-1) = true := by
  unfold digP
  simp only [Bool.and_eq_true, decide_eq_true_eq]
  omega
theorem digP_not {s : ByteArray} {k : Nat} {B : List UInt8} (h : AtB s k B) (hB : NoD B) : digP s k (-1) = false := by
  unfold digP
  cases B with
  | nil =>
    rw [bt_out h.nil]
    rfl
  | cons c r =>
    obtain ⟨a1, _, _⟩ := h.cons
    have := hB c r rfl
    rw [a1]
    by_cases h1 : (48 : Int) ≤ (c.toNat : Int)
    · have : ¬ (c.toNat : Int) ≤ 57 := by omega
      simp [this]
    · simp [h1]
/-- the digits of a number that is written: each, and their worth -/
theorem dec_digits (s : ByteArray) (i : Nat) : ∀ (u : Nat) (B : List UInt8), AtB s i (Lib.decDigits u ++ B) → digV s i (Lib.decDigits u).length = (u : Int) ∧ ∀ j, j < (Lib.decDigits u).length → digP s (i + j) (-1) = true := by
  intro u
  induction u using Nat.strongRecOn with
  | ind u ih =>
    intro B hA
    by_cases h10 : u < 10
    · rw [dec_small h10] at hA ⊢
      obtain ⟨a1, a2, a3⟩ := AtB.cons (c := UInt8.ofNat (48 + u)) (B := B) hA
      rw [dig_nat h10] at a1
      refine ⟨?_, fun j hj => ?_⟩
      · show 10 * 0 + (bt s (i + 0) - 48) = (u : Int)
        rw [Nat.add_zero]
        omega
      · simp at hj
        subst hj
        exact digP_of a1 h10
    · rw [dec_more h10] at hA ⊢
      rw [List.append_assoc] at hA
      obtain ⟨i1, i2⟩ := ih (u / 10) (by omega) _ hA
      obtain ⟨a1, a2, a3⟩ := AtB.cons (c := UInt8.ofNat (48 + u % 10)) (B := B) hA.skip
      rw [dig_nat (by omega)] at a1
      rw [List.length_append, List.length_singleton]
      refine ⟨?_, fun j hj => ?_⟩
      · show 10 * digV s i (Lib.decDigits (u / 10)).length + (bt s (i + (Lib.decDigits (u / 10)).length) - 48) = (u : Int)
        rw [i1]
        omega
      · by_cases hj2 : j < (Lib.decDigits (u / 10)).length
        · exact i2 j hj2
        · have : j = (Lib.decDigits (u / 10)).length := by omega
          rw [this]
          exact digP_of a1 (by omega)
theorem natG_run {s : ByteArray} {i L : Nat} (hd : ∀ j, j < L → digP s (i + j) (-1) = true) (hn : digP s (i + L) (-1) = false) (h0 : L ≤ 1 ∨ bt s i ≠ 48) : ∀ (n q : Nat), q ≤ L → L ≤ q + n → natG s i (-1) n q = L
  | 0, q, h1, h2 => by
    show q = L
    omega
  | n + 1, q, h1, h2 => by
    unfold natG
    by_cases hq : q < L
    · have hc : (digP s (i + q) (-1) && (decide (q = 0) || !decide (bt s i = 48))) = true := by
        rw [hd q hq]
        by_cases hq0 : q = 0
        · simp [hq0]
        · rcases h0 with h0 | h0
          · omega
          · simp [h0]
      rw [if_pos hc]
      exact natG_run hd hn h0 n (q + 1) (by omega) (by omega)
    · have : q = L := by omega
      subst this
      rw [hn]
      simp
theorem nat_text {s : ByteArray} {m k u : Nat} {B : List UInt8} (hA : AtB s k (Lib.decDigits u ++ B)) (hm : (Lib.decDigits u).length ≤ m) (hB : NoD B) : natN s m k (-1) = ((u : Int), k + (Lib.decDigits u).length, -1) := by
  obtain ⟨h1, h2⟩ := dec_digits s k u B hA
  have hp := dec_pos u
  have h0 : (Lib.decDigits u).length ≤ 1 ∨ bt s k ≠ 48 := by
    by_cases h10 : u < 10
    · left; rw [dec_small h10]; simp
    · right
      obtain ⟨d, r, e, hd, hpos⟩ := dec_head u
      rw [e] at hA
      obtain ⟨a1, _, _⟩ := AtB.cons (c := UInt8.ofNat (48 + d)) (B := r ++ B) hA
      rw [dig_nat hd] at a1
      have := hpos (by omega)
      omega
  have hg := natG_run h2 (digP_not hA.skip hB) h0 m 0 (Nat.zero_le _) (by omega)
  have hf := h2 0 hp
  rw [Nat.add_zero] at hf
  unfold natN
  rw [if_pos hf, hg, h1]

theorem on_yes {s : ByteArray} {i : Nat} {c : Int} (h : bt s i = c) : onP s i (-1) c = true := by
  unfold onP
  simp [h]
theorem on_no {s : ByteArray} {i : Nat} {c : Int} (h : bt s i ≠ c) : onP s i (-1) c = false := by
  unfold onP
  simp [h]
theorem got_yes {s : ByteArray} {i : Nat} {c : Int} (h : bt s i = c) : gotI s i (-1) c = i + 1 ∧ mustB s i (-1) c = -1 := by
  unfold gotI mustB
  rw [on_yes h]
  exact ⟨rfl, rfl⟩
theorem ref_frac {s : ByteArray} {k : Nat} {f : Acre.Fc} {B : List UInt8} (hA : AtB s k (frT f ++ B)) (hn : -99999 ≤ f.1 ∧ f.1 ≤ 99999) (hd : 0 < f.2 ∧ f.2 ≤ 9999) (hB : NoD B) : (fracP s k (-1)).2 = (k + (frT f).length, -1) := by
  obtain ⟨n, d⟩ := f
  simp only at hn hd
  have e2 : Lib.itoa d = Lib.decDigits d.toNat := by unfold Lib.itoa; rw [if_neg (by omega)]
  have core : ∀ (k u : Nat), u ≤ 99999 → AtB s k (Lib.decDigits u ++ 47 :: (Lib.decDigits d.toNat ++ B)) → natN s 5 k (-1) = ((u : Int), k + (Lib.decDigits u).length, -1) ∧ (gotI s (k + (Lib.decDigits u).length) (-1) 47 = k + (Lib.decDigits u).length + 1 ∧ mustB s (k + (Lib.decDigits u).length) (-1) 47 = -1) ∧ (natN s 4 (k + (Lib.decDigits u).length + 1) (-1)).2 = (k + (Lib.decDigits u).length + 1 + (Lib.decDigits d.toNat).length, -1) := by
    intro k u hu hA
    have a := nat_text hA (dec_le 4 u (by omega)) (noD_cons (by decide))
    obtain ⟨b1, _, b3⟩ := hA.skip.cons
    refine ⟨a, got_yes b1, ?_⟩
    rw [nat_text b3 (dec_le 3 d.toNat (by omega)) hB]
  by_cases hneg : n < 0
  · have e1 : Lib.itoa n = 45 :: Lib.decDigits n.natAbs := by unfold Lib.itoa; rw [if_pos hneg]
    have eT : frT (n, d) = 45 :: (Lib.decDigits n.natAbs ++ 47 :: Lib.decDigits d.toNat) := by unfold frT; simp only; rw [e1, e2]; rfl
    rw [eT] at hA ⊢
    obtain ⟨a1, a2, a3⟩ := AtB.cons (c := 45) (B := (Lib.decDigits n.natAbs ++ 47 :: Lib.decDigits d.toNat) ++ B) hA
    rw [List.append_assoc] at a3
    obtain ⟨c1, ⟨c2, c3⟩, c4⟩ := core (k + 1) n.natAbs (by omega) a3
    obtain ⟨dd, rr, ed, hdd, hdp⟩ := dec_head n.natAbs
    have hz : zeroB s k (-1) = -1 := by
      unfold zeroB
      rw [(got_yes (c := 45) a1).1]
      have : onP s (k + 1) (-1) 48 = false := by
        rw [ed] at a3
        obtain ⟨b1, _, _⟩ := AtB.cons (c := UInt8.ofNat (48 + dd)) (B := rr ++ 47 :: (Lib.decDigits d.toNat ++ B)) a3
        rw [dig_nat hdd] at b1
        have := hdp (by omega)
        exact on_no (by omega)
      rw [this]
      simp
    unfold fracP
    rw [(got_yes (c := 45) a1).1, hz, c1]
    simp only
    rw [c2, c3, c4]
    simp only [List.length_cons, List.length_append]
    congr 1
    omega
  · have e1 : Lib.itoa n = Lib.decDigits n.toNat := by unfold Lib.itoa; rw [if_neg hneg]
    have eT : frT (n, d) = Lib.decDigits n.toNat ++ 47 :: Lib.decDigits d.toNat := by unfold frT; simp only; rw [e1, e2]
    rw [eT] at hA ⊢
    rw [List.append_assoc] at hA
    obtain ⟨c1, ⟨c2, c3⟩, c4⟩ := core k n.toNat (by omega) hA
    obtain ⟨dd, rr, ed, hdd, hdp⟩ := dec_head n.toNat
    have hno : onP s k (-1) 45 = false := by
      rw [ed] at hA
      obtain ⟨b1, _, _⟩ := AtB.cons (c := UInt8.ofNat (48 + dd)) (B := rr ++ 47 :: (Lib.decDigits d.toNat ++ B)) hA
      rw [dig_nat hdd] at b1
      exact on_no (by omega)
    have hg : gotI s k (-1) 45 = k := by unfold gotI; rw [hno]; rfl
    have hz : zeroB s k (-1) = -1 := by unfold zeroB; rw [hno]; rfl
    unfold fracP
    rw [hg, hz, c1]
    simp only
    rw [c2, c3, c4]
    simp only [List.length_cons, List.length_append]
    congr 1
    omega
theorem must_yes {s : ByteArray} {p : Nat × Int} {i : Nat} (hp : p = (i, -1)) (h : bt s i = 32) : mustS s p 32 = (i + 1, -1) := by
  subst hp
  unfold mustS
  rw [(got_yes h).1, (got_yes h).2]
theorem ref_piece {s : ByteArray} {k : Nat} {p : Wr} {B : List UInt8} (hA : AtB s k (wrT p ++ B)) (hp : WrOk p) (hB : NoD B) : (pieceP s k (-1)).2 = (k + (wrT p).length, -1) := by
  obtain ⟨⟨f, t⟩, lo, hi⟩ := p
  obtain ⟨⟨f1, f2⟩, ⟨t1, t2⟩, hlo, hhi⟩ := hp
  simp only at f1 f2 t1 t2 hlo hhi
  have eT : wrT ((f, t), (lo, hi)) ++ B = frT f ++ 32 :: (frT t ++ 32 :: (Lib.decDigits lo ++ 32 :: (Lib.decDigits hi ++ B))) := by
    unfold wrT; simp
  rw [eT] at hA
  have h32 : ∀ r : List UInt8, NoD (32 :: r) := fun r => noD_cons (by decide)
  have a1 := ref_frac hA f1 f2 (h32 _)
  obtain ⟨b1, _, b3⟩ := hA.skip.cons
  have m1 := must_yes a1 b1
  have c1 := ref_frac b3 t1 t2 (h32 _)
  obtain ⟨d1, _, d3⟩ := b3.skip.cons
  have m2 := must_yes c1 d1
  have g1 := nat_text (m := 4) d3 (Nat.le_trans (dec_le 1 lo (by omega)) (by omega)) (h32 _)
  obtain ⟨i1, _, i3⟩ := d3.skip.cons
  have m3 := must_yes (p := (natN s 4 (k + (frT f).length + 1 + (frT t).length + 1) (-1)).2) (by rw [g1]) i1
  have j1 := nat_text (m := 4) i3 (Nat.le_trans (dec_le 1 hi (by omega)) (by omega)) hB
  unfold pieceP
  simp only
  rw [m1]
  simp only
  rw [m2]
  simp only
  rw [m3]
  simp only
  rw [j1]
  simp only
  unfold wrT
  simp only [List.length_cons, List.length_append]
  congr 1
  omega
theorem ref_parseF {s : ByteArray} : ∀ (r : List Wr) (p : Wr) (n k : Nat), (∀ q ∈ p :: r, WrOk q) → AtB s k (wrT p ++ restT r) → r.length < n → (parseF s n k (-1)).2 = (s.size, -1)
  | [], p, n + 1, k, hok, hA, hn => by
    have h1 := ref_piece hA (hok p (by simp)) (noD_rest [])
    have hl := hA.len
    have hb : ¬ k + (wrT p).length < s.size := by
      rw [List.length_append] at hl
      simp [restT] at hl
      omega
    unfold parseF
    rw [h1]
    have : onP s (k + (wrT p).length) (-1) 59 = false := on_no (by rw [bt_out hb]; decide)
    simp only
    rw [this, if_neg (by decide)]
    show (k + (wrT p).length, (-1 : Int)) = (s.size, -1)
    rw [List.length_append] at hl
    simp [restT] at hl
    rw [← hl]
  | q :: r, p, n + 1, k, hok, hA, hn => by
    have h1 := ref_piece hA (hok p (by simp)) (noD_rest (q :: r))
    have hs := hA.skip
    have e : restT (q :: r) = 59 :: (wrT q ++ restT r) := by unfold restT; simp
    rw [e] at hs
    obtain ⟨a1, _, a3⟩ := hs.cons
    have ih := ref_parseF r q n _ (fun x hx => hok x (by simp at hx ⊢; right; exact hx)) a3 (by simp at hn; omega)
    unfold parseF
    rw [h1]
    simp only
    rw [on_yes (c := 59) a1, if_pos rfl]
    exact ih
  | r, p, 0, k, hok, hA, hn => by omega
theorem rest_ge : ∀ l : List Wr, l.length ≤ (restT l).length
  | [] => by simp
  | q :: r => by
    have ih := rest_ge r
    have e : restT (q :: r) = 59 :: (wrT q ++ restT r) := by unfold restT; simp
    rw [e]
    simp only [List.length_cons, List.length_append]
    omega
/-- **what is written the document's reader finds right** -/
theorem ref_text {s : ByteArray} {l : List Wr} (hs : s.data.toList = certT l) (hok : ∀ p ∈ l, WrOk p) : (parseP s).2 = -1 := by
  have hA : AtB s 0 (certT l) := ⟨by rw [List.drop_zero]; exact hs, Nat.zero_le _⟩
  unfold parseP
  cases l with
  | nil =>
    have : s.size = 0 := by have := hA.nil; omega
    rw [if_pos this]
  | cons p r =>
    have hl := hA.len
    have hr := rest_ge r
    have hc : (certT (p :: r)).length = (wrT p).length + (restT r).length := by unfold certT; rw [List.length_append]
    have hw : 0 < (wrT p).length := by unfold wrT frT; simp only [List.length_append, List.length_cons]; omega
    have h := ref_parseF r p (s.size + 1) 0 hok hA (by omega)
    rw [if_neg (by omega), h]
    simp

/-- what is sound for the program is so for the document -/
theorem piece_sound {E : List Acre.Ed} {q : PcT} {p : Acre.Pc} (h : pieceC E (toDr q) = some p) : soundB E q = true ∧ toPc E q = p := by
  unfold pieceC toDr at h
  dsimp only at h
  split at h
  · rename_i hc
    obtain ⟨h1, h2, h3, h4, h5⟩ := hc
    refine ⟨?_, ?_⟩
    · unfold soundB
      simp only [Bool.and_eq_true, decide_eq_true_eq]
      rw [fair_within] at h1 h2
      refine ⟨⟨h1, h2⟩, ?_, h4, h5⟩
      exact ordF_lt h3
    · simp only [Option.some.injEq] at h
      exact h
  · simp at h
theorem pieces_sound {E : List Acre.Ed} : ∀ (qs : List PcT) (ps : List Acre.Pc), allC (pieceC E) (qs.map toDr) = some ps → qs.all (soundB E) = true ∧ qs.map (toPc E) = ps
  | [], ps, h => by
    simp [allC] at h
    subst h
    exact ⟨rfl, rfl⟩
  | q :: r, ps, h => by
    simp only [List.map_cons, allC] at h
    rw [Option.bind_eq_some_iff] at h
    obtain ⟨p, h1, h2⟩ := h
    rw [Option.map_eq_some_iff] at h2
    obtain ⟨ps', h3, h4⟩ := h2
    obtain ⟨a1, a2⟩ := piece_sound h1
    obtain ⟨b1, b2⟩ := pieces_sound r ps' h3
    refine ⟨by simp [a1, b1], ?_⟩
    rw [← h4, List.map_cons, a2, b2]
/-- **a written certificate of good pieces is one for the document too, and of those pieces** -/
theorem ref_cert {s : ByteArray} {E : List Acre.Ed} {ps : List Acre.Pc} (hs : s.data.toList = certT (ps.map (wrOf E))) (hE : E.length ≤ 24) (hl : ps.length ≤ 4000) (hz : s.size ≤ 200000) (hg : ∀ p ∈ ps, Acre.Good E p) (hc : ∀ p ∈ ps, CutOk p.1.1 ∧ CutOk p.1.2) : certErr E s = 0 ∧ (parseP s).1.map (toPc E) = ps := by
  have hok : ∀ q ∈ ps.map (wrOf E), WrOk q := fun q hq => by
    obtain ⟨p, hp, rfl⟩ := List.mem_map.1 hq
    exact wrOf_ok (hg p hp) (hc p hp).1 (hc p hp).2 hE
  have h1 := ref_text hs hok
  have h2 := parse_drafts (s := s) (by omega)
  have h3 := cert_text hs hE hl hg hc
  unfold certC at h3
  rw [h2] at h3
  have h3' : (if ((parseP s).1.map toDr).length ≤ 4000 then allC (pieceC E) ((parseP s).1.map toDr) else none) = some ps := h3
  split at h3'
  · rename_i hle
    rw [List.length_map] at hle
    obtain ⟨b1, b2⟩ := pieces_sound _ _ h3'
    refine ⟨?_, b2⟩
    unfold certErr
    rw [if_neg (by omega), if_neg (by omega), if_pos (by simp only [Bool.and_eq_true, decide_eq_true_eq]; exact ⟨hle, b1⟩)]
  · simp at h3'

end Go.Proofs.YtkjlkbgdkdcboaaGreatDoor

set_option linter.unusedSimpArgs false
set_option linter.unusedVariables false
namespace Go.Proofs.YtkjlkbgdkdcboaaGreatDoor
open Ref

/-- **and for the document's** -/
theorem slow_right {a b : ByteArray} {op : Int} {s : ByteArray} (h : (errP a b op).1 = 0) (hs : s.data.toList = certT ((cutAB a b op).map (wrOf (pairE a b)))) : rckErr a b op s = 0 := by
  obtain ⟨F, hsm, hl, hk⟩ := pair_ok h
  obtain ⟨h1, h2, _⟩ := pair_fields h
  obtain ⟨g, c⟩ := cut_ok F (Acre.edgesOf (readP a).1).length op
  have hcl := cut_len (E := pairE a b) (Acre.edgesOf (readP a).1).length op hl
  have hsz := cut_size F (Acre.edgesOf (readP a).1).length op hl hs
  obtain ⟨c1, c2⟩ := ref_cert (E := pairE a b) (ps := cutAB a b op) hs hl (by unfold cutAB; omega) (by omega) g c
  have hf := Acre.fill_cut F (Acre.edgesOf (readP a).1).length op (fun X o => Acre.even_two (read_field h1) (read_field h2) X o)
  have hr : Acre.rightP (Acre.edgesOf (readP a).1) (Acre.edgesOf (readP b).1) op (cutAB a b op) = true :=
    Acre.fill_doc F op g hf (Acre.inX_even (read_field h1)) (Acre.inX_even (read_field h2))
  unfold rckErr
  rw [if_pos h, if_pos c1, c2, if_pos hr]

end Go.Proofs.YtkjlkbgdkdcboaaGreatDoor

set_option linter.unusedSimpArgs false
set_option linter.unusedVariables false
namespace Go.Proofs.YtkjlkbgdkdcboaaGreatDoor
open Go.RowKit Go.Maps Ref
attribute [local go_sem ↓] Go.wp_at_zero Go.wp_at_succ

set_option maxRecDepth 100000 in
set_option maxHeartbeats 1000000 in
theorem slows_any (HWC : WCok) (a b : ByteArray) (op : Int) (w : World) (ht : Tab w) :
    Calls Tryz.prog 3 #[.string a, .string b, .int .i64 op] w fun e w' => e = .returned (.bool true) ∧ Below w.heap.size w w' := by
  have HS := hide (slow_any HWC a b op w ht)
  have HA := hide (fun V => askedE_any a b op V)
  have HK := hide (fun s V => rcheck_any a b op s V)
  have HR := hide (fun (s : ByteArray) (h : (errP a b op).1 = 0) (hs : s.data.toList = certT ((cutAB a b op).map (wrOf (pairE a b)))) => slow_right h hs)
  clear HWC ht
  go_enter Tryz.func3, Tryz.ntmps3
  go_wp2_with fail
  refine HS.out.mono ?_
  rintro e V1 ⟨hb1, hout⟩
  have HB1 := hide hb1
  clear hb1 HS
  rcases hout with ⟨hne, rfl⟩ | ⟨h0, s, rfl, hs⟩
  · go_wp2_with fail
    refine (HA.out V1).mono ?_
    rintro e V2 ⟨hb2, u1, u2, rfl, _⟩
    have HB2 := hide (below_call hb2 HB1.out)
    clear hb2
    generalize errP a b op = er at *
    obtain ⟨e1, e2⟩ := er
    dsimp only at hne ⊢
    have hne2 : (e1 != 0) = true := by simpa using hne
    go_wp2_with (go_at_call 8; refine (num_any _ _).mono ?_; rintro e w9 ⟨rfl, hw9⟩; rw [hw9]; clear hw9)
    go_ret
    exact ⟨rfl, HB2.out⟩
  · have HR0 := hide (HR.out s h0 hs)
    have h02 := err_zero h0
    clear hs HR
    go_wp2_with fail
    refine (HA.out V1).mono ?_
    rintro e V2 ⟨hb2, u1, u2, rfl, _⟩
    have HB2 := hide (below_call hb2 HB1.out)
    have HK2 := hide (HK.out s)
    rw [HR0.out] at HK2
    clear hb2 HK HR0
    generalize errP a b op = er at *
    obtain ⟨e1, e2⟩ := er
    dsimp only at h0 h02 ⊢
    subst h0 h02
    go_wp2_with (go_at_call 8; refine (num_any _ _).mono ?_; rintro e w9 ⟨rfl, hw9⟩; rw [hw9]; clear hw9)
    refine (HK2.out _).mono ?_
    rintro e V3 ⟨at', rfl, hb3⟩
    have HB3 := hide (below_call hb3 HB2.out)
    clear hb3
    go_wp2
    go_ret
    exact ⟨rfl, HB3.out⟩

end Go.Proofs.YtkjlkbgdkdcboaaGreatDoor
