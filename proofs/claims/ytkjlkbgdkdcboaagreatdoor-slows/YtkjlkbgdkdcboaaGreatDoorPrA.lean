import Derived.Test.YtkjlkbgdkdcboaaGreatDoorNaA
import Derived.Test.YtkjlkbgdkdcboaaGreatDoorCeC
import Derived.Test.YtkjlkbgdkdcboaaGreatDoorCutR
import Derived.Test.YtkjlkbgdkdcboaaGreatDoorPnA
import Derived.Test.YtkjlkbgdkdcboaaGreatDoorDoA
import Derived.Deep.DeepCutAuto

set_option linter.unusedSimpArgs false
set_option linter.unusedVariables false

set_option linter.unusedSimpArgs false
set_option linter.unusedVariables false

namespace Go.Proofs.YtkjlkbgdkdcboaaGreatDoor.Ref
open Go.RowKit

theorem failed_neg {i : Nat} {bad : Int} (h : failed i bad < 0) : False := by
  unfold failed at h
  split at h
  · have := Int.natCast_nonneg i; omega
  · omega
theorem must_neg {s : ByteArray} {i : Nat} {bad c : Int} (h : mustB s i bad c < 0) : bad < 0 ∧ onP s i bad c = true ∧ mustB s i bad c = bad ∧ gotI s i bad c = i + 1 := by
  unfold mustB at h
  split at h
  · rename_i ho
    exact ⟨h, ho, by unfold mustB; rw [if_pos ho], by unfold gotI; rw [if_pos ho]⟩
  · exact (failed_neg h).elim
theorem on_bt {s : ByteArray} {i : Nat} {bad c : Int} (h : onP s i bad c = true) : bt s i = c := by
  unfold onP at h
  simp at h
  exact h.2
theorem digP_digB {s : ByteArray} {i : Nat} {bad : Int} (h : bad < 0) : digP s i bad = digB s i := by
  unfold digP digB
  simp [h]
theorem digB_lt {s : ByteArray} {k : Nat} (h : digB s k = true) : k < s.size := by
  unfold digB at h
  simp at h
  exact bt_pos (by omega)
theorem leastP_small {n : Int} (h : n ≤ 1048576) : leastP 1048576 [n] = n := by
  unfold leastP
  simp only [List.foldl_cons, List.foldl_nil]
  split <;> omega

theorem numR_nat (s : ByteArray) (i lim : Nat) (bad : Int) (hb : bad < 0) : ∀ (n q : Nat), q + n ≤ 5 → (q = 0 ∨ (bt s i ≠ 48 ∧ 0 < digV s i q)) → (0 ≤ digV s i q ∧ digV s i q < 10 ^ q) →
    (lim = i + q + n ∨ (i + q + n ≤ lim ∧ digB s (i + natG s i bad n q) = false)) → numR s lim (digV s i q) (i + q) = (digV s i (natG s i bad n q), i + natG s i bad n q)
  | 0, q, _, _, _, hl => by
    unfold natG
    refine numR_stop ?_
    rintro ⟨h1, h2, h3⟩
    rcases hl with hl | ⟨_, hl⟩
    · omega
    · unfold natG at hl
      rw [h3] at hl; simp at hl
  | n + 1, q, hq, hst, hv, hl => by
    by_cases hd : digB s (i + q) = true
    · have hc : (digP s (i + q) bad && (decide (q = 0) || !decide (bt s i = 48))) = true := by
        rw [digP_digB hb, hd]
        rcases hst with h | h
        · simp [h]
        · simp [h.1]
      have hG : natG s i bad (n + 1) q = natG s i bad n (q + 1) := by
        conv => lhs; unfold natG
        rw [if_pos hc]
      have hdp : digP s (i + q) bad = true := by rw [digP_digB hb]; exact hd
      have hv2 := digV_step hdp hv
      have hp5 := pow_five (q := q + 1) (by omega)
      have hdv : digV s i (q + 1) = 10 * digV s i q + (bt s (i + q) - 48) := rfl
      have hle : leastP 1048576 [10 * digV s i q + (bt s (i + q) - 48)] = digV s i (q + 1) := by
        rw [← hdv]
        exact leastP_small (by omega)
      have hlt := digB_lt hd
      have hlim : i + q < lim := by rcases hl with hl | ⟨hl, _⟩ <;> omega
      have hbt : 48 ≤ bt s (i + q) := by unfold digB at hd; simp at hd; exact hd.1
      rw [hG] at hl ⊢
      by_cases hz : digV s i (q + 1) = 0
      · have hq0 : q = 0 := by
          rcases hst with h | h
          · exact h
          · omega
        subst hq0
        have h48 : bt s i = 48 := by
          have : digV s i 0 = 0 := rfl
          rw [hdv, this] at hz
          simp at hz
          omega
        have hG1 : natG s i bad n 1 = 1 := by
          cases n with
          | zero => rfl
          | succ n => unfold natG; simp [h48]
        rw [hG1, hz]
        exact numR_zero ⟨hlt, hlim, hd⟩ (by rw [hle, hz])
      · rw [numR_more ⟨hlt, hlim, hd⟩ (by rw [hle]; exact hz), hle]
        refine numR_nat s i lim bad hb n (q + 1) (by omega) (.inr ⟨?_, by omega⟩) hv2 ?_
        · intro h48
          rcases hst with h | h
          · subst h
            have : digV s i 0 = 0 := rfl
            rw [hdv, this] at hz
            simp at hz
            omega
          · exact h.1 h48
        · rcases hl with hl | ⟨hl, hl2⟩
          · left; omega
          · right; exact ⟨by omega, hl2⟩
    · have hG : natG s i bad (n + 1) q = q := by
        unfold natG
        rw [digP_digB hb]
        simp [hd]
      rw [hG]
      exact numR_stop (fun h => hd h.2.2)

theorem natG_pos (s : ByteArray) (i : Nat) (bad : Int) (n : Nat) (h : digP s i bad = true) : 0 < natG s i bad (n + 1) 0 := by
  have hm : ∀ (n q : Nat), q ≤ natG s i bad n q := by
    intro n
    induction n with
    | zero => intro q; exact Nat.le_refl _
    | succ n ih =>
      intro q
      unfold natG
      split
      · have := ih (q + 1); omega
      · exact Nat.le_refl _
  unfold natG
  rw [if_pos (by simp [h])]
  have := hm n (0 + 1)
  omega
/-- a number that the document takes -/
theorem nat_sim {s : ByteArray} {m i : Nat} {bad : Int} (h : (natN s m i bad).2.2 < 0) (hm : m ≤ 5) (hm0 : 0 < m) : bad < 0 ∧ (natN s m i bad).2.2 = bad ∧ ∀ M, (M = m ∨ (m ≤ M ∧ digB s (natN s m i bad).2.1 = false)) → numC s M i = some ((natN s m i bad).1, (natN s m i bad).2.1) := by
  unfold natN at h ⊢
  split at h
  · rename_i hd
    have hb : bad < 0 := h
    rw [if_pos hd]
    refine ⟨hb, rfl, fun M hM => ?_⟩
    have := numR_nat s i (i + M) bad hb m 0 (by omega) (.inl rfl) (by simp [digV]) (by
      rcases hM with rfl | ⟨h1, h2⟩
      · left; omega
      · right; exact ⟨by omega, h2⟩)
    rw [Nat.add_zero] at this
    have hp := natG_pos s i bad (m - 1) hd
    rw [show m - 1 + 1 = m by omega] at hp
    have hz : digV s i 0 = 0 := rfl
    rw [hz] at this
    unfold numC
    rw [this]
    dsimp only
    rw [if_pos (by omega)]
  · exact (failed_neg h).elim
theorem see_on {s : ByteArray} {i : Nat} {bad c : Int} (hb : bad < 0) : seesP s i c = onP s i bad c := by
  unfold seesP onP
  simp [hb]
theorem frac_sim {s : ByteArray} {i : Nat} {bad : Int} (h : (fracP s i bad).2.2 < 0) : bad < 0 ∧ (fracP s i bad).2.2 = bad ∧ fracC s i = some ((fracP s i bad).1, (fracP s i bad).2.1) := by
  obtain ⟨a, ha⟩ : ∃ a, natN s 5 (gotI s i bad 45) (zeroB s i bad) = a := ⟨_, rfl⟩
  obtain ⟨c, hc⟩ : ∃ c, natN s 4 (gotI s a.2.1 a.2.2 47) (mustB s a.2.1 a.2.2 47) = c := ⟨_, rfl⟩
  have hF : fracP s i bad = ((if onP s i bad 45 then -a.1 else a.1, c.1), c.2) := by
    unfold fracP
    rw [ha]
    dsimp only
    rw [hc]
  rw [hF] at h ⊢
  dsimp only at h ⊢
  rw [← hc] at h
  obtain ⟨h1, h2, h3⟩ := nat_sim h (by omega) (by omega)
  rw [hc] at h2 h3
  obtain ⟨g1, g2, g3, g4⟩ := must_neg h1
  rw [g4] at h3
  rw [← ha] at g1
  obtain ⟨k1, k2, k3⟩ := nat_sim g1 (by omega) (by omega)
  rw [ha] at k2 k3
  have hz : zeroB s i bad = bad ∧ bad < 0 ∧ ¬ (onP s i bad 45 && onP s (gotI s i bad 45) bad 48) = true := by
    unfold zeroB at k1 ⊢
    split at k1
    · exact (failed_neg k1).elim
    · rename_i hn
      rw [if_neg hn]
      exact ⟨rfl, k1, hn⟩
  obtain ⟨z1, z2, z3⟩ := hz
  have hab : a.2.2 = bad := k2.trans z1
  refine ⟨z2, by rw [h2, g3, hab], ?_⟩
  have n5 := k3 5 (.inl rfl)
  have n4 := h3 4 (.inl rfl)
  have hB : ∀ f, fracB s f (gotI s i bad 45) = some ((f * a.1, c.1), c.2.1) := fun f => by
    rw [fracB_s (r := (a.1, a.2.1)) n5 (by rw [see_on (bad := a.2.2) (by omega)]; exact g2) n4]
  unfold fracC
  rw [see_on z2]
  cases hm : onP s i bad 45
  · have hg : gotI s i bad 45 = i := by unfold gotI; rw [hm]; rfl
    have := hB 1
    rw [hg] at this
    simp [this]
  · have hg : gotI s i bad 45 = i + 1 := by unfold gotI; rw [hm]; rfl
    rw [hm, hg] at z3
    have := hB (-1)
    rw [hg] at this
    rw [see_on z2]
    simp at z3
    simp [this, z3]

def toDr (p : PcT) : Dr := ⟨p.fr, p.tt, p.lo, p.hi, p.t0, p.t1, p.t2, p.t3⟩
theorem piece_sim {s : ByteArray} {i : Nat} {bad : Int} (h : (pieceP s i bad).2.2 < 0) (hn : digB s (pieceP s i bad).2.1 = false) (hs : 4 ≤ s.size) : bad < 0 ∧ (pieceP s i bad).2.2 = bad ∧ draftC s i = some (toDr (pieceP s i bad).1, (pieceP s i bad).2.1) := by
  obtain ⟨f, hf⟩ : ∃ f, fracP s i bad = f := ⟨_, rfl⟩
  obtain ⟨m1, hm1⟩ : ∃ m, mustS s f.2 32 = m := ⟨_, rfl⟩
  obtain ⟨g, hg⟩ : ∃ f, fracP s m1.1 m1.2 = f := ⟨_, rfl⟩
  obtain ⟨m2, hm2⟩ : ∃ m, mustS s g.2 32 = m := ⟨_, rfl⟩
  obtain ⟨l, hl⟩ : ∃ f, natN s 4 m2.1 m2.2 = f := ⟨_, rfl⟩
  obtain ⟨m3, hm3⟩ : ∃ m, mustS s l.2 32 = m := ⟨_, rfl⟩
  obtain ⟨u, hu⟩ : ∃ f, natN s 4 m3.1 m3.2 = f := ⟨_, rfl⟩
  have hP : pieceP s i bad = (⟨f.1, g.1, l.1, u.1, i, m1.1, m2.1, m3.1⟩, u.2) := by
    subst hf; subst hm1; subst hg; subst hm2; subst hl; subst hm3; subst hu
    rfl
  rw [hP] at h hn ⊢
  dsimp only at h hn ⊢
  rw [← hu] at h
  obtain ⟨a1, a2, a3⟩ := nat_sim h (by omega) (by omega)
  rw [hu] at a2 a3
  have must : ∀ {p m : Nat × Int}, mustS s p 32 = m → m.2 < 0 → p.2 < 0 ∧ m.2 = p.2 ∧ bld s p.1 = some m.1 ∧ digB s p.1 = false := by
    intro p m e h
    rw [← e] at h ⊢
    unfold mustS at h ⊢
    dsimp only at h ⊢
    obtain ⟨b1, b2, b3, b4⟩ := must_neg h
    have b5 := on_bt b2
    refine ⟨b1, b3, ?_, ?_⟩
    · rw [bld_yes (by rw [see_on b1]; exact b2), b4]
    · unfold digB; rw [b5]; rfl
  obtain ⟨b1, b2, b3, b4⟩ := must hm3 a1
  rw [← hl] at b1
  obtain ⟨c1, c2, c3⟩ := nat_sim b1 (by omega) (by omega)
  rw [hl] at c2 c3
  obtain ⟨d1, d2, d3, d4⟩ := must hm2 c1
  rw [← hg] at d1
  obtain ⟨e1, e2, e3⟩ := frac_sim d1
  rw [hg] at e2 e3
  obtain ⟨k1, k2, k3, k4⟩ := must hm1 e1
  rw [← hf] at k1
  obtain ⟨q1, q2, q3⟩ := frac_sim k1
  rw [hf] at q2 q3
  refine ⟨q1, by rw [a2, b2, c2, d2, e2, k2, q2], ?_⟩
  unfold draftC
  rw [q3]
  simp only [Option.bind_some]
  rw [k3]
  simp only [Option.bind_some]
  rw [e3]
  simp only [Option.bind_some]
  rw [d3]
  simp only [Option.bind_some]
  rw [c3 s.size (.inr ⟨hs, b4⟩)]
  simp only [Option.bind_some]
  rw [b3]
  simp only [Option.bind_some]
  rw [a3 s.size (.inr ⟨hs, hn⟩)]
  rfl

/-- the pieces from there on -/
def parseF (s : ByteArray) : Nat → Nat → Int → List PcT × Nat × Int
  | 0, i, bad => ([], i, bad)
  | n + 1, i, bad =>
    if onP s (pieceP s i bad).2.1 (pieceP s i bad).2.2 59 = true then
      ((pieceP s i bad).1 :: (parseF s n ((pieceP s i bad).2.1 + 1) (pieceP s i bad).2.2).1, (parseF s n ((pieceP s i bad).2.1 + 1) (pieceP s i bad).2.2).2)
    else ([(pieceP s i bad).1], (pieceP s i bad).2)
def parseP (s : ByteArray) : List PcT × Int :=
  if s.size = 0 then ([], -1)
  else ((parseF s (s.size + 1) 0 (-1)).1, if (parseF s (s.size + 1) 0 (-1)).2.1 < s.size then failed (parseF s (s.size + 1) 0 (-1)).2.1 (parseF s (s.size + 1) 0 (-1)).2.2 else (parseF s (s.size + 1) 0 (-1)).2.2)
theorem bad_on {s : ByteArray} {i : Nat} {bad c : Int} (h : ¬ bad < 0) : onP s i bad c = false := by unfold onP; simp [h]
theorem pieceP_le (s : ByteArray) (i : Nat) (bad : Int) : i ≤ (pieceP s i bad).2.1 := by
  have gl : ∀ i bad c, i ≤ gotI s i bad c := fun i bad c => by unfold gotI; split <;> omega
  have fl : ∀ i bad, i ≤ (fracP s i bad).2.1 := fun i bad => by
    unfold fracP
    dsimp only
    have a := gl i bad 45
    have b := natN_le s 5 (gotI s i bad 45) (zeroB s i bad)
    have c := gl (natN s 5 (gotI s i bad 45) (zeroB s i bad)).2.1 (natN s 5 (gotI s i bad 45) (zeroB s i bad)).2.2 47
    have d := natN_le s 4 (gotI s (natN s 5 (gotI s i bad 45) (zeroB s i bad)).2.1 (natN s 5 (gotI s i bad 45) (zeroB s i bad)).2.2 47) (mustB s (natN s 5 (gotI s i bad 45) (zeroB s i bad)).2.1 (natN s 5 (gotI s i bad 45) (zeroB s i bad)).2.2 47)
    omega
  have ml : ∀ (p : Nat × Int) c, p.1 ≤ (mustS s p c).1 := fun p c => gl p.1 p.2 c
  unfold pieceP
  dsimp only
  have a := fl i bad
  have b := ml (fracP s i bad).2 32
  generalize mustS s (fracP s i bad).2 32 = m1 at *
  have c := fl m1.1 m1.2
  have d := ml (fracP s m1.1 m1.2).2 32
  generalize mustS s (fracP s m1.1 m1.2).2 32 = m2 at *
  have e := natN_le s 4 m2.1 m2.2
  have f := ml (natN s 4 m2.1 m2.2).2 32
  generalize mustS s (natN s 4 m2.1 m2.2).2 32 = m3 at *
  have g := natN_le s 4 m3.1 m3.2
  omega
theorem parse_sim (s : ByteArray) (hs : 4 ≤ s.size) : ∀ (n i : Nat) (acc : List Dr), s.size + 1 - i ≤ n → i ≤ s.size → (parseF s n i (-1)).2.2 < 0 → s.size ≤ (parseF s n i (-1)).2.1 →
    ∃ r, draftC s i = some r ∧ draftsR s r.2 (acc ++ [r.1]) = some (acc ++ (parseF s n i (-1)).1.map toDr) := by
  intro n
  induction n with
  | zero =>
    intro i acc hn hi _ _
    exact absurd hi (by omega)
  | succ n ih =>
    intro i acc hn hi hb he
    have hle := pieceP_le s i (-1)
    unfold parseF at hb he ⊢
    obtain ⟨p, hp⟩ : ∃ p, pieceP s i (-1) = p := ⟨_, rfl⟩
    rw [hp] at hb he ⊢
    rw [hp] at hle
    by_cases ho : onP s p.2.1 p.2.2 59 = true
    · rw [if_pos ho] at hb he ⊢
      dsimp only at hb he ⊢
      have hpb : p.2.2 < 0 := by
        unfold onP at ho
        simp at ho
        exact ho.1
      have h59 := on_bt ho
      have hps := piece_sim (s := s) (i := i) (bad := -1) (by rw [hp]; exact hpb) (by rw [hp]; unfold digB; rw [h59]; rfl) hs
      rw [hp] at hps
      obtain ⟨_, h2, h3⟩ := hps
      rw [h2] at hb he ⊢
      have hlt : p.2.1 < s.size := bt_pos (by rw [h59]; omega)
      obtain ⟨r, hr, hd⟩ := ih (p.2.1 + 1) (acc ++ [toDr p.1]) (by omega) (by omega) hb he
      refine ⟨_, h3, ?_⟩
      dsimp only
      rw [draftsR_more hlt (by unfold seesP; simp [h59]) hr, hd]
      simp
    · rw [if_neg ho] at hb he ⊢
      dsimp only at hb he ⊢
      have hend : bt s p.2.1 = -1 := bt_out (by omega)
      have hps := piece_sim (s := s) (i := i) (bad := -1) (by rw [hp]; exact hb) (by rw [hp]; unfold digB; rw [hend]; rfl) hs
      rw [hp] at hps
      obtain ⟨_, h2, h3⟩ := hps
      refine ⟨_, h3, ?_⟩
      dsimp only
      rw [draftsR_end (by omega)]
      simp
theorem piece_size {s : ByteArray} {i : Nat} {bad : Int} (h : (pieceP s i bad).2.2 < 0) : i + 4 ≤ (pieceP s i bad).2.1 ∧ (pieceP s i bad).2.1 ≤ s.size := by
  obtain ⟨f, hf⟩ : ∃ f, fracP s i bad = f := ⟨_, rfl⟩
  obtain ⟨m1, hm1⟩ : ∃ m, mustS s f.2 32 = m := ⟨_, rfl⟩
  obtain ⟨g, hg⟩ : ∃ f, fracP s m1.1 m1.2 = f := ⟨_, rfl⟩
  obtain ⟨m2, hm2⟩ : ∃ m, mustS s g.2 32 = m := ⟨_, rfl⟩
  obtain ⟨l, hl⟩ : ∃ f, natN s 4 m2.1 m2.2 = f := ⟨_, rfl⟩
  obtain ⟨m3, hm3⟩ : ∃ m, mustS s l.2 32 = m := ⟨_, rfl⟩
  obtain ⟨u, hu⟩ : ∃ f, natN s 4 m3.1 m3.2 = f := ⟨_, rfl⟩
  have hP : pieceP s i bad = (⟨f.1, g.1, l.1, u.1, i, m1.1, m2.1, m3.1⟩, u.2) := by
    subst hf; subst hm1; subst hg; subst hm2; subst hl; subst hm3; subst hu
    rfl
  rw [hP] at h ⊢
  dsimp only at h ⊢
  rw [← hu] at h
  obtain ⟨a1, a2, a3⟩ := nat_sim h (by omega) (by omega)
  have must : ∀ {p m : Nat × Int}, mustS s p 32 = m → m.2 < 0 → p.2 < 0 ∧ m.1 = p.1 + 1 ∧ p.1 < s.size := by
    intro p m e h
    rw [← e] at h ⊢
    unfold mustS at h ⊢
    dsimp only at h ⊢
    obtain ⟨b1, b2, b3, b4⟩ := must_neg h
    exact ⟨b1, b4, bt_pos (by rw [on_bt b2]; omega)⟩
  have fl : ∀ i bad, i ≤ (fracP s i bad).2.1 := fun i bad => by
    have gl : ∀ i bad c, i ≤ gotI s i bad c := fun i bad c => by unfold gotI; split <;> omega
    unfold fracP
    dsimp only
    have a := gl i bad 45
    have b := natN_le s 5 (gotI s i bad 45) (zeroB s i bad)
    have c := gl (natN s 5 (gotI s i bad 45) (zeroB s i bad)).2.1 (natN s 5 (gotI s i bad 45) (zeroB s i bad)).2.2 47
    have d := natN_le s 4 (gotI s (natN s 5 (gotI s i bad 45) (zeroB s i bad)).2.1 (natN s 5 (gotI s i bad 45) (zeroB s i bad)).2.2 47) (mustB s (natN s 5 (gotI s i bad 45) (zeroB s i bad)).2.1 (natN s 5 (gotI s i bad 45) (zeroB s i bad)).2.2 47)
    omega
  obtain ⟨b1, b2, b3⟩ := must hm3 a1
  rw [← hl] at b1
  obtain ⟨c1, c2, c3⟩ := nat_sim b1 (by omega) (by omega)
  obtain ⟨d1, d2, d3⟩ := must hm2 c1
  rw [← hg] at d1
  obtain ⟨e1, e2, e3⟩ := frac_sim d1
  obtain ⟨k1, k2, k3⟩ := must hm1 e1
  have w1 := fl i bad
  have w2 := fl m1.1 m1.2
  have w3 := natN_le s 4 m2.1 m2.2
  rw [hf] at w1
  rw [hg] at w2
  rw [hl] at w3
  have w4 := a3 4 (.inl rfl)
  have w5 := numC_bd w4 (by omega)
  rw [hu] at w5
  dsimp only at w5
  omega

/-- **what the document takes as a certificate's text, the program takes, with the same pieces** -/
theorem parse_drafts {s : ByteArray} (h : (parseP s).2 < 0) : draftsC s = some ((parseP s).1.map toDr) := by
  unfold parseP at h ⊢
  by_cases h0 : s.size = 0
  · rw [if_pos h0]
    unfold draftsC
    rw [if_pos h0]
    rfl
  · rw [if_neg h0] at h ⊢
    dsimp only at h ⊢
    by_cases hl : (parseF s (s.size + 1) 0 (-1)).2.1 < s.size
    · rw [if_pos hl] at h
      exact (failed_neg h).elim
    · rw [if_neg hl] at h
      have h4 : 4 ≤ s.size := by
        by_cases hp : (pieceP s 0 (-1)).2.2 < 0
        · have := piece_size hp; omega
        · exfalso
          unfold parseF at h
          rw [bad_on hp] at h
          simp at h
          omega
      obtain ⟨r, hr, hd⟩ := parse_sim s h4 (s.size + 1) 0 [] (by omega) (by omega) h (by omega)
      unfold draftsC
      rw [if_neg h0, hr]
      dsimp only
      simpa using hd

end Go.Proofs.YtkjlkbgdkdcboaaGreatDoor.Ref

set_option linter.unusedSimpArgs false
set_option linter.unusedVariables false

namespace Go.Proofs.YtkjlkbgdkdcboaaGreatDoor.Ref
open Go.RowKit Go.Maps
attribute [local go_sem ↓] Go.wp_at_zero Go.wp_at_succ

theorem info53 : (Tryz.prog.info? 93).map (fun i => (i.zero, i.size, i.bytes)) = some (some (.agg #[.int .i64 0, .int .i64 0, .int .i64 0, .int .i64 0, .int .i64 0, .int .i64 0, .int .i64 0, .int .i64 0, .int .i64 0, .int .i64 0, .int .i64 0]), 11, 88) := by kernel_rfl
theorem flatT_snoc (l : List PcT) (q : PcT) : flatT (l ++ [q]) = flatT l ++ ptL q := by simp [flatT]
theorem ptL_one (q : PcT) : ∀ u ∈ ptL q, u.oneCell' = true := by
  intro u hu
  unfold ptL at hu
  obtain ⟨v, _, rfl⟩ := List.mem_map.1 hu
  rfl
/-- while pieces are read -/
structure PsAt (w W : World) (b : Nat) (s : ByteArray) (j : Nat) (bad : Int) (l : Value) (acc : List PcT) : Prop where
  pen : PenAt W b s j bad
  row : W.ownsRow (b + 1) 93 11 l acc.length (flatT acc)
  low : Below w.heap.size w W
theorem PsAt.call {w W W' : World} {b : Nat} {s : ByteArray} {j j' : Nat} {bad bad' : Int} {l : Value} {acc : List PcT} (h : PsAt w W b s j bad l acc) (hb : w.heap.size ≤ b) (hp : PenAt W' b s j' bad') (hg : W.grownBy W' (some b)) : PsAt w W' b s j' bad' l acc :=
  ⟨hp, h.row.kept hg (Or.inr (fun e => by have := h.row.lt b e; omega)), h.low.grown hg h.low.size (fun k hk => by cases hk; exact hb)⟩
theorem PsAt.alloc {w W : World} {b : Nat} {s : ByteArray} {j : Nat} {bad : Int} {l : Value} {acc : List PcT} (h : PsAt w W b s j bad l acc) (o : Obj) : PsAt w (W.alloc o) b s j bad l acc :=
  ⟨h.pen.alloc o, h.row.alloc o, h.low.alloc h.low.size o⟩
theorem PsAt.app {w W W' : World} {b : Nat} {s : ByteArray} {j : Nat} {bad : Int} {l l' : Value} {acc : List PcT} {q : PcT} (h : PsAt w W b s j bad l acc) (hb : w.heap.size ≤ b) (hg : W.grownBy W' l.ownBlock) (hown : W'.ownsRow (b + 1) 93 11 l' (acc.length + 1) (flatT acc ++ ptL q)) : PsAt w W' b s j bad l' (acc ++ [q]) :=
  ⟨h.pen.kept hg (fun e => by have := h.row.lt b e; omega), by rw [flatT_snoc, List.length_append]; exact hown, h.low.grown hg h.low.size (fun k hk => by have := h.row.lt k hk; omega)⟩

set_option maxRecDepth 100000 in
set_option maxHeartbeats 4000000 in
theorem parse_some (s : ByteArray) (w : World) (hs : s.size ≤ 200000) (h0 : s.size ≠ 0) (hemp : s.toList.isEmpty = false) :
    Calls Tryz.prog 31 #[.string s] w fun e w' => ∃ l, e = .returned (.tuple #[l, .int .i64 (parseP s).2]) ∧ w'.ownsRow w.heap.size 93 11 l (parseP s).1.length (flatT (parseP s).1) ∧ Below w.heap.size w w' := by
  obtain ⟨i1, hi1, hy0, hy1, hy2⟩ := info_parts info53
  obtain ⟨F, hF⟩ : ∃ F, parseF s (s.size + 1) 0 (-1) = F := ⟨_, rfl⟩
  have hP : parseP s = (F.1, badAt s.size F.2.1 F.2.2) := by rw [parseP, if_neg h0, hF]; rfl
  rw [hP]
  have HF := hide hF
  clear hF hP
  have p0 : PenAt (w.alloc (.cells #[.string s, .int .i64 0, .int .i64 (-1)] 148)) w.heap.size s (0 : Nat) (-1) := by constructor <;> simp [go_sem]
  have q0 : PsAt w (w.alloc (.cells #[.string s, .int .i64 0, .int .i64 (-1)] 148)) w.heap.size s 0 (-1) (.slice none 0 0) [] :=
    ⟨p0, World.ownsRow_nil _ _ _ _, below1 _ _⟩
  clear p0
  have Q0 := hide q0
  clear q0
  go_enter Tryz.func31, Tryz.ntmps31
  go_wp2_with fail
  go_loopw [4, 6] (fun l ag wr => ∃ A : Bool, ag = .bool A ∧ Hid (∃ (j : Nat) (bd : Int) (acc : List PcT) (n : Nat), PsAt w wr w.heap.size s j bd l acc ∧ (A = true → F = (acc ++ (parseF s n j bd).1, (parseF s n j bd).2) ∧ s.size < j + n ∧ j ≤ s.size ∧ acc.length ≤ j) ∧ (A = false → F = (acc, j, bd)))) (fun _ ag wr => rowM s.size w.heap.size ag wr)
  case atStart => exact ⟨true, rfl, 0, -1, [], s.size + 1, Q0.out, fun _ => ⟨by rw [HF.out]; rfl, by omega, by omega, by simp⟩, fun e => by cases e⟩
  case round =>
    obtain ⟨A, rfl, hr⟩ := hrel
    obtain ⟨j, bd, acc, n, r0, hT, hFa⟩ := hr.out
    cases A with
    | false =>
      have hFe := hFa rfl
      obtain ⟨c0, c1, c2, f1, f2⟩ := id r0.pen
      have HFe := hide hFe
      clear hFe hFa hT hr
      by_cases hlt : j < s.size
      · have hlt2 : (j : Int) < (s.size : Int) := by omega
        go_wp2_with fail
        refine (fail_any w.heap.size s j bd wr r0.pen).mono ?_
        rintro e w1 ⟨rfl, h1, g1⟩
        have r1 := r0.call (Nat.le_refl _) h1 g1
        clear c0 c1 c2 f1 f2
        obtain ⟨c0, c1, c2, f1, f2⟩ := id h1
        go_wp2
        go_quiet (fail)
        go_wp2
        refine bodyPost_ret (v := .tuple #[u4, .int .i64 (failed j bd)]) (by simp [results, Tryz.results31, go_sem]) rfl ⟨u4, ?_, ?_, below_drewN r1.low _⟩
        · rw [HFe.out]; simp only [badAt, if_pos hlt]
        · rw [HFe.out]; exact row_base (row_call r1.row (below_drewN (Below.refl _ _) _)) (by omega)
      · have hlt2 : ¬ (j : Int) < (s.size : Int) := by omega
        go_wp2
        go_quiet (fail)
        go_wp2
        refine bodyPost_ret (v := .tuple #[u4, .int .i64 bd]) (by simp [results, Tryz.results31, go_sem]) rfl ⟨u4, ?_, ?_, below_drewN r0.low _⟩
        · rw [HFe.out]; simp only [badAt, if_neg hlt]
        · rw [HFe.out]; exact row_base (row_call r0.row (below_drewN (Below.refl _ _) _)) (by omega)
    | true =>
      obtain ⟨hFe, hn, hjs, hal⟩ := hT rfl
      obtain ⟨m, rfl⟩ : ∃ m, n = m + 1 := ⟨n - 1, by omega⟩
      have HFe := hide hFe
      clear hFe hFa hT hr
      have hple := pieceP_le s j bd
      have P0 := hide (rowM_true (n := s.size) r0.pen)
      have lbr : w.heap.size < wr.heap.size := r0.pen.lt
      have k1 := piece_any w.heap.size s j bd wr r0.pen (by omega)
      obtain ⟨X, hX⟩ : ∃ X, pieceP s j bd = X := ⟨_, rfl⟩
      rw [hX] at k1 hple
      have HX := hide hX
      have K4 := hide (fun W hp => got_any w.heap.size s X.2.1 X.2.2 59 W hp (by decide) (by omega))
      obtain ⟨⟨⟨f1, f2⟩, ⟨t1, t2⟩, lo, hi, ta, tb, tc, td⟩, hXq⟩ : ∃ q, X.1 = q := ⟨_, rfl⟩
      rw [hXq] at k1
      have hpt : ((PcT.mk (f1, f2) (t1, t2) lo hi ta tb tc td).cells.map (fun v => Value.int .i64 v)).toArray = #[.int .i64 f1, .int .i64 f2, .int .i64 t1, .int .i64 t2, .int .i64 lo, .int .i64 hi, .int .i64 ta, .int .i64 ta, .int .i64 tb, .int .i64 tc, .int .i64 td] := rfl
      rw [hpt] at k1
      have K1 := hide k1
      have HXq := hide hXq
      clear k1 hX hpt hXq
      go_wp2_with fail
      refine K1.out.mono ?_
      rintro e w1 ⟨rfl, h1, g1⟩
      have r1 := (r0.call (Nat.le_refl _) h1 g1).alloc (.cells #[.int .i64 f1, .int .i64 f2, .int .i64 t1, .int .i64 t2, .int .i64 lo, .int .i64 hi, .int .i64 ta, .int .i64 ta, .int .i64 tb, .int .i64 tc, .int .i64 td] 93)
      have bX := Box.new w1 [.int .i64 f1, .int .i64 f2, .int .i64 t1, .int .i64 t2, .int .i64 lo, .int .i64 hi, .int .i64 ta, .int .i64 ta, .int .i64 tb, .int .i64 tc, .int .i64 td] 93
      clear r0 h1 g1 K1
      have R1 := hide r1
      have e2 := r1.row
      have hlow := r1.low.size
      have hpl := r1.pen.lt
      clear r1 bX
      go_wp2_with (first
        | (at_builtin; refine wpList_append_own_at _ rfl _ _ 57 rfl (w.heap.size + 1) 93 i1 _ 11 88 Tryz.underlying57 hi1 hy0 hy1 hy2 rfl (by decide) _ _ _ rfl (e2.alloc _) ⟨w1.heap.size + 1, 0, none⟩ 1 1 [.int .i64 f1, .int .i64 f2, .int .i64 t1, .int .i64 t2, .int .i64 lo, .int .i64 hi, .int .i64 ta, .int .i64 ta, .int .i64 tb, .int .i64 tc, .int .i64 td] rfl rfl (World.news_of_block (cs := #[.int .i64 f1, .int .i64 f2, .int .i64 t1, .int .i64 t2, .int .i64 lo, .int .i64 hi, .int .i64 ta, .int .i64 ta, .int .i64 tb, .int .i64 tc, .int .i64 td]) (t := 93) (fr := (0, 0)) ?_) (ptL_one ⟨(f1, f2), (t1, t2), lo, hi, ta, tb, tc, td⟩) ?_ ?_ ?_ ?_)
        | go_in)
      · have := heap_alloc_new (w1.alloc (.cells #[.int .i64 f1, .int .i64 f2, .int .i64 t1, .int .i64 t2, .int .i64 lo, .int .i64 hi, .int .i64 ta, .int .i64 ta, .int .i64 tb, .int .i64 tc, .int .i64 td] 93)) (.cells #[.int .i64 f1, .int .i64 f2, .int .i64 t1, .int .i64 t2, .int .i64 lo, .int .i64 hi, .int .i64 ta, .int .i64 ta, .int .i64 tb, .int .i64 tc, .int .i64 td] 93)
        simpa using this
      · unfold maxLen; omega
      · omega
      · simp at hpl ⊢; omega
      · intro v' w4 hown hgrow hne hob
        have r5 : PsAt w w4 w.heap.size s X.2.1 X.2.2 v' (acc ++ [X.1]) := by
          rw [HXq.out]
          exact (R1.out.alloc _).app (Nat.le_refl _) hgrow hown
        clear hown hgrow hne hob e2 R1
        go_wp2_with fail
        refine (K4.out _ r5.pen).mono ?_
        rintro e w6 ⟨rfl, h6, g6⟩
        have r6 := r5.call (Nat.le_refl _) h6 g6
        have hstep : Hid (∃ (j' : Nat) (bd' : Int) (acc' : List PcT) (n' : Nat), PsAt w w6 w.heap.size s j' bd' v' acc' ∧ (onP s X.2.1 X.2.2 59 = true → F = (acc' ++ (parseF s n' j' bd').1, (parseF s n' j' bd').2) ∧ s.size < j' + n' ∧ j' ≤ s.size ∧ acc'.length ≤ j') ∧ (onP s X.2.1 X.2.2 59 = false → F = (acc', j', bd'))) := by
          refine ⟨_, _, _, m, r6, fun ho => ?_, fun ho => ?_⟩
          · have hlt := onP_in ho (by decide)
            have hg : gotI s X.2.1 X.2.2 59 = X.2.1 + 1 := by rw [gotI, ho]; rfl
            rw [hg]
            refine ⟨?_, by omega, by omega, by simp; omega⟩
            rw [HFe.out, parseF]
            simp only [HX.out, ho, if_true]
            simp
          · have hg : gotI s X.2.1 X.2.2 59 = X.2.1 := by rw [gotI, ho]; rfl
            rw [hg, HFe.out, parseF]
            simp [HX.out, ho]
        have hmeas : Hid (rowM s.size w.heap.size (.bool (onP s X.2.1 X.2.2 59)) w6 < s.size + 2 - j) := by
          cases ho : onP s X.2.1 X.2.2 59 with
          | false => show rowM _ _ _ _ < _; rw [rowM_false]; omega
          | true =>
            have hlt := onP_in ho (by decide)
            have hg : gotI s X.2.1 X.2.2 59 = X.2.1 + 1 := by rw [gotI, ho]; rfl
            show rowM _ _ _ _ < _
            rw [rowM_true h6, hg]
            omega
        clear r5 r6 h6 g6 K4 HX
        generalize onP s X.2.1 X.2.2 59 = D at *
        go_wp2
        go_roundw
        case rel => exact ⟨D, rfl, hstep⟩
        case measure =>
          have e1 := hmeas.out
          have e2 := P0.out
          rw [← e2] at e1
          exact e1

set_option maxRecDepth 100000 in
set_option maxHeartbeats 400000 in
theorem parse_none (s : ByteArray) (w : World) (h0 : s.size = 0) (hemp : s.toList.isEmpty = true) :
    Calls Tryz.prog 31 #[.string s] w fun e w' => ∃ l, e = .returned (.tuple #[l, .int .i64 (parseP s).2]) ∧ w'.ownsRow w.heap.size 93 11 l (parseP s).1.length (flatT (parseP s).1) ∧ Below w.heap.size w w' := by
  have hP : parseP s = ([], -1) := by rw [parseP, if_pos h0]
  rw [hP]
  clear hP
  go_enter Tryz.func31, Tryz.ntmps31
  go_wp2
  refine bodyPost_ret (v := .tuple #[.slice none 0 0, .int .i64 (-1)]) (by simp [results, Tryz.results31, go_sem]) rfl ?_
  exact ⟨_, rfl, World.ownsRow_nil _ _ _ _, Below.refl _ _⟩
theorem parse_any (s : ByteArray) (w : World) (hs : s.size ≤ 200000) :
    Calls Tryz.prog 31 #[.string s] w fun e w' => ∃ l, e = .returned (.tuple #[l, .int .i64 (parseP s).2]) ∧ w'.ownsRow w.heap.size 93 11 l (parseP s).1.length (flatT (parseP s).1) ∧ Below w.heap.size w w' := by
  have he : s.toList.isEmpty = decide (s.size = 0) := by
    rw [ByteArray.toList_eq]
    have : s.data.toList.length = s.size := Array.length_toList
    cases hl : s.data.toList with
    | nil => rw [hl] at this; simp at this; simp [← this]
    | cons a r =>
      rw [hl] at this
      have h1 : ¬ s.size = 0 := by simp at this; omega
      simp [h1]
  by_cases h0 : s.size = 0
  · exact parse_none s w h0 (by rw [he]; simp [h0])
  · exact parse_some s w hs h0 (by rw [he]; simp [h0])

/-- a piece as a text may have it -/
structure PtRaw (q : PcT) : Prop where
  f : (-100000 ≤ q.fr.1 ∧ q.fr.1 ≤ 100000) ∧ (0 ≤ q.fr.2 ∧ q.fr.2 ≤ 100000)
  t : (-100000 ≤ q.tt.1 ∧ q.tt.1 ≤ 100000) ∧ (0 ≤ q.tt.2 ∧ q.tt.2 ≤ 100000)
  lo : 0 ≤ q.lo ∧ q.lo ≤ 100000
  hi : 0 ≤ q.hi ∧ q.hi ≤ 100000
theorem fracP_raw (s : ByteArray) (i : Nat) (bad : Int) : (-100000 ≤ (fracP s i bad).1.1 ∧ (fracP s i bad).1.1 ≤ 100000) ∧ (0 ≤ (fracP s i bad).1.2 ∧ (fracP s i bad).1.2 ≤ 100000) := by
  unfold fracP
  dsimp only
  have a := natN_bd s 5 (gotI s i bad 45) (zeroB s i bad) (by omega)
  have c := natN_bd s 4 (gotI s (natN s 5 (gotI s i bad 45) (zeroB s i bad)).2.1 (natN s 5 (gotI s i bad 45) (zeroB s i bad)).2.2 47) (mustB s (natN s 5 (gotI s i bad 45) (zeroB s i bad)).2.1 (natN s 5 (gotI s i bad 45) (zeroB s i bad)).2.2 47) (by omega)
  refine ⟨?_, ⟨c.1, by omega⟩⟩
  split <;> omega
theorem pieceP_raw (s : ByteArray) (i : Nat) (bad : Int) : PtRaw (pieceP s i bad).1 := by
  unfold pieceP
  dsimp only
  refine ⟨fracP_raw _ _ _, fracP_raw _ _ _, ?_, ?_⟩
  · have := natN_bd s 4 (mustS s (fracP s (mustS s (fracP s i bad).2 32).1 (mustS s (fracP s i bad).2 32).2).2 32).1 (mustS s (fracP s (mustS s (fracP s i bad).2 32).1 (mustS s (fracP s i bad).2 32).2).2 32).2 (by omega)
    dsimp only
    exact ⟨this.1, Int.le_of_lt this.2⟩
  · dsimp only
    generalize mustS s (natN s 4 (mustS s (fracP s (mustS s (fracP s i bad).2 32).1 (mustS s (fracP s i bad).2 32).2).2 32).1 (mustS s (fracP s (mustS s (fracP s i bad).2 32).1 (mustS s (fracP s i bad).2 32).2).2 32).2).2 32 = m3
    have := natN_bd s 4 m3.1 m3.2 (by omega)
    exact ⟨this.1, Int.le_of_lt this.2⟩
theorem parseF_succ (s : ByteArray) (n i : Nat) (bad : Int) : parseF s (n + 1) i bad = if onP s (pieceP s i bad).2.1 (pieceP s i bad).2.2 59 = true then ((pieceP s i bad).1 :: (parseF s n ((pieceP s i bad).2.1 + 1) (pieceP s i bad).2.2).1, (parseF s n ((pieceP s i bad).2.1 + 1) (pieceP s i bad).2.2).2) else ([(pieceP s i bad).1], (pieceP s i bad).2) := rfl
theorem parseF_raw (s : ByteArray) (n : Nat) : ∀ (i : Nat) (bad : Int), ∀ q ∈ (parseF s n i bad).1, PtRaw q := by
  induction n with
  | zero => intro i bad q hq; simp [parseF] at hq
  | succ n ih =>
    intro i bad q hq
    rw [parseF_succ] at hq
    have hp := pieceP_raw s i bad
    generalize pieceP s i bad = p at *
    by_cases ho : onP s p.2.1 p.2.2 59 = true
    · rw [if_pos ho] at hq
      rcases List.mem_cons.1 hq with rfl | hq
      · exact hp
      · exact ih _ _ q hq
    · rw [if_neg ho] at hq
      rw [List.mem_singleton.1 hq]; exact hp
theorem parseP_raw (s : ByteArray) : ∀ q ∈ (parseP s).1, PtRaw q := by
  by_cases h0 : s.size = 0
  · have e : parseP s = ([], -1) := by rw [parseP, if_pos h0]
    rw [e]
    simp
  · have e : (parseP s).1 = (parseF s (s.size + 1) 0 (-1)).1 := by rw [parseP, if_neg h0]
    rw [e]
    exact parseF_raw s (s.size + 1) 0 (-1)
theorem parseF_len (s : ByteArray) (n : Nat) : ∀ (i : Nat) (bad : Int), (parseF s n i bad).1.length ≤ n := by
  induction n with
  | zero => intro i bad; simp [parseF]
  | succ n ih =>
    intro i bad
    rw [parseF_succ]
    generalize pieceP s i bad = p at *
    by_cases ho : onP s p.2.1 p.2.2 59 = true
    · rw [if_pos ho]
      have := ih (p.2.1 + 1) p.2.2
      simp only [List.length_cons]
      omega
    · rw [if_neg ho]
      simp
theorem parseP_len (s : ByteArray) : (parseP s).1.length ≤ s.size + 1 := by
  by_cases h0 : s.size = 0
  · have e : parseP s = ([], -1) := by rw [parseP, if_pos h0]
    rw [e]
    simp
  · have e : (parseP s).1 = (parseF s (s.size + 1) 0 (-1)).1 := by rw [parseP, if_neg h0]
    rw [e]
    exact parseF_len s (s.size + 1) 0 (-1)

end Go.Proofs.YtkjlkbgdkdcboaaGreatDoor.Ref

set_option linter.unusedSimpArgs false
set_option linter.unusedVariables false

namespace Go.Proofs.YtkjlkbgdkdcboaaGreatDoor.Ref
open Go.RowKit Go.Maps
attribute [local go_sem ↓] Go.wp_at_zero Go.wp_at_succ

def lineB (E : List Acre.Ed) (n : Int) : Bool := decide (n < E.length) && !Acre.upr (Acre.gd E n.toNat)
/-- is nothing amiss with the piece? -/
def soundB (E : List Acre.Ed) (q : PcT) : Bool := (fairB q.fr.1 q.fr.2 && fairB q.tt.1 q.tt.2) && (decide (q.fr.1 * q.tt.2 < q.tt.1 * q.fr.2) && (lineB E q.lo && lineB E q.hi))

set_option maxRecDepth 100000 in
set_option maxHeartbeats 4000000 in
theorem amiss_any (E : List Acre.Ed) (q : PcT) (v : Value) (b1 : Nat) (w : World) (hl : w.ownsRow b1 86 4 v E.length (flatE E)) (hlen : E.length ≤ 1000) (hq : PtRaw q) :
    Calls Tryz.prog 33 #[.agg (ptL q).toArray, v] w fun e w' => ∃ m : Int, e = .returned (.int .i64 m) ∧ (0 ≤ m ↔ soundB E q = false) ∧ Below w.heap.size w w' := by
  obtain ⟨ga, gb, gcap, rfl, hga⟩ := rowE_form hl
  obtain ⟨⟨f1, f2⟩, ⟨t1, t2⟩, lo, hi, ta, tb, tc, td⟩ := q
  obtain ⟨⟨⟨hf1, hf2⟩, ⟨hf3, hf4⟩⟩, ⟨⟨ht1, ht2⟩, ⟨ht3, ht4⟩⟩, ⟨hlo0, hlo1⟩, ⟨hhi0, hhi1⟩⟩ := hq
  dsimp only at hf1 hf2 hf3 hf4 ht1 ht2 ht3 ht4 hlo0 hlo1 hhi0 hhi1
  have hpt : (ptL ⟨(f1, f2), (t1, t2), lo, hi, ta, tb, tc, td⟩).toArray = #[.int .i64 f1, .int .i64 f2, .int .i64 t1, .int .i64 t2, .int .i64 lo, .int .i64 hi, .int .i64 ta, .int .i64 ta, .int .i64 tb, .int .i64 tc, .int .i64 td] := rfl
  rw [hpt]
  clear hpt
  have HFf := hide (fun V => rfair_any f1 f2 V)
  have HFt := hide (fun V => rfair_any t1 t2 V)
  have m1 := mul_bd (p := f1) (q := t2) (P := 100000) (Q := 100000) ⟨hf1, hf2⟩ (by omega)
  have m2 := mul_bd (p := t1) (q := f2) (P := 100000) (Q := 100000) ⟨ht1, ht2⟩ (by omega)
  have HBl := hide (fun V => rbelow_any f1 f2 t1 t2 V (by omega) (by omega))
  have hS : soundB E ⟨(f1, f2), (t1, t2), lo, hi, ta, tb, tc, td⟩ = ((fairB f1 f2 && fairB t1 t2) && (decide (f1 * t2 < t1 * f2) && (lineB E lo && lineB E hi))) := rfl
  rw [hS]
  clear hS m1 m2
  generalize fairB f1 f2 = B1 at *
  generalize fairB t1 t2 = B2 at *
  generalize decide (f1 * t2 < t1 * f2) = B3 at *
  have bx0 := Box.new w [.int .i64 f1, .int .i64 f2, .int .i64 t1, .int .i64 t2, .int .i64 lo, .int .i64 hi, .int .i64 ta, .int .i64 ta, .int .i64 tb, .int .i64 tc, .int .i64 td] 93
  have hb0 := below1 w (.cells #[.int .i64 f1, .int .i64 f2, .int .i64 t1, .int .i64 t2, .int .i64 lo, .int .i64 hi, .int .i64 ta, .int .i64 ta, .int .i64 tb, .int .i64 tc, .int .i64 td] 93)
  go_enter Tryz.func33, Tryz.ntmps33
  go_wp2_with fail
  generalize w.alloc (.cells #[.int .i64 f1, .int .i64 f2, .int .i64 t1, .int .i64 t2, .int .i64 lo, .int .i64 hi, .int .i64 ta, .int .i64 ta, .int .i64 tb, .int .i64 tc, .int .i64 td] 93) = V0 at *
  refine (HFf.out _).mono ?_
  rintro e V1 ⟨rfl, hb1⟩
  have bx1 := bx0.later (by simp) hb1
  have HB1 := hide (below_call hb1 hb0)
  have x2 := bx1.c 2 _ rfl
  have x3 := bx1.c 3 _ rfl
  clear bx0 hb0 HFf hb1
  go_wp2_with fail
  refine (HFt.out _).mono ?_
  rintro e V2 ⟨rfl, hb2⟩
  have bx2 := bx1.later (by simp) hb2
  have HB2 := hide (below_call hb2 HB1.out)
  have HX2 := hide bx2
  have y0 := bx2.c 0 _ rfl
  have y1 := bx2.c 1 _ rfl
  have y2 := bx2.c 2 _ rfl
  have y3 := bx2.c 3 _ rfl
  have y4 := bx2.c 4 _ rfl
  have y5 := bx2.c 5 _ rfl
  have y6 := bx2.c 6 _ rfl
  have y7 := bx2.c 7 _ rfl
  have y8 := bx2.c 8 _ rfl
  have y9 := bx2.c 9 _ rfl
  have y10 := bx2.c 10 _ rfl
  clear bx1 HB1 HFt hb2 x2 x3 bx2
  cases B1
  · go_wp2
    go_ret
    exact ⟨_, rfl, by simp, HB2.out⟩
  · cases B2
    · go_wp2
      go_ret
      exact ⟨_, rfl, by simp, HB2.out⟩
    · go_wp2_with fail
      refine (HBl.out _).mono ?_
      rintro e V3 ⟨rfl, hb3⟩
      have bx3 := HX2.out.later (by simp) hb3
      have HB3 := hide (below_call hb3 HB2.out)
      have hHl := hl
      clear HX2 HB2 HBl hb3 y0 y1 y2 y3 y4 y5 y6 y7 y8 y9 y10
      have HX3 := hide bx3
      have y4 := bx3.c 4 _ rfl
      have y5 := bx3.c 5 _ rfl
      have y6 := bx3.c 6 _ rfl
      have y9 := bx3.c 9 _ rfl
      have y10 := bx3.c 10 _ rfl
      clear bx3
      cases B3
      · have hta : (0 : Int) ≤ (ta : Int) := by omega
        go_wp2
        go_ret
        exact ⟨_, rfl, by simp, HB3.out⟩
      · obtain ⟨ln, rfl⟩ : ∃ n : Nat, lo = (n : Int) := ⟨lo.toNat, by omega⟩
        obtain ⟨hn, rfl⟩ : ∃ n : Nat, hi = (n : Int) := ⟨hi.toNat, by omega⟩
        by_cases h1 : ln < E.length
        · obtain rfl := hga (by omega)
          obtain ⟨c0, c1, c2, c3⟩ := row_e hl ln h1
          have hL : lineB E (ln : Int) = !decide (E[ln].1.1 = E[ln].2.1) := by
            unfold lineB
            have hg : Acre.gd E ln = E[ln] := by unfold Acre.gd; simp [List.getD, h1]
            simp only [Int.toNat_natCast]
            rw [hg]
            unfold Acre.upr
            have : decide ((ln : Int) < (E.length : Int)) = true := decide_eq_true (by omega)
            rw [this, Bool.true_and]
            rfl
          have h1' : (ln : Int) < (E.length : Int) := by omega
          have h1b : ¬ (E.length : Int) ≤ (ln : Int) := by omega
          have h1c : decide ((E.length : Int) ≤ (ln : Int)) = false := decide_eq_false h1b
          obtain ⟨⟨⟨e0, e1⟩, ⟨e2, e3⟩⟩, he⟩ : ∃ e, E[ln] = e := ⟨_, rfl⟩
          rw [he] at c0 c1 c2 c3 hL
          dsimp only at hL
          have HU := hide (fun V => rupright_any e0 e1 e2 e3 V)
          have d0 := cell_later HB3.out c0
          have d1 := cell_later HB3.out c1
          have d2 := cell_later HB3.out c2
          have d3 := cell_later HB3.out c3
          have HL1 := hide hL
          clear c0 c1 c2 c3 hL he
          generalize decide (e0 = e2) = U1 at *
          go_wp2_with fail
          refine (HU.out _).mono ?_
          rintro e V4 ⟨rfl, hb4⟩
          have bx4 := HX3.out.later (by simp) hb4
          have HB4 := hide (below_call hb4 HB3.out)
          clear HX3 HB3 HU hb4 y4 y5 y6 y9 y10 d0 d1 d2 d3
          have HX4 := hide bx4
          have y5 := bx4.c 5 _ rfl
          have y9 := bx4.c 9 _ rfl
          have y10 := bx4.c 10 _ rfl
          clear bx4
          cases U1
          · by_cases h2 : hn < E.length
            · obtain ⟨c0, c1, c2, c3⟩ := row_e hl hn h2
              have hL : lineB E (hn : Int) = !decide (E[hn].1.1 = E[hn].2.1) := by
                unfold lineB
                have hg : Acre.gd E hn = E[hn] := by unfold Acre.gd; simp [List.getD, h2]
                simp only [Int.toNat_natCast]
                rw [hg]
                unfold Acre.upr
                have : decide ((hn : Int) < (E.length : Int)) = true := decide_eq_true (by omega)
                rw [this, Bool.true_and]
                rfl
              have h2' : (hn : Int) < (E.length : Int) := by omega
              have h2b : ¬ (E.length : Int) ≤ (hn : Int) := by omega
              have h2c : decide ((E.length : Int) ≤ (hn : Int)) = false := decide_eq_false h2b
              obtain ⟨⟨⟨g0, g1⟩, ⟨g2, g3⟩⟩, he⟩ : ∃ e, E[hn] = e := ⟨_, rfl⟩
              rw [he] at c0 c1 c2 c3 hL
              dsimp only at hL
              have HU2 := hide (fun V => rupright_any g0 g1 g2 g3 V)
              have d0 := cell_later HB4.out c0
              have d1 := cell_later HB4.out c1
              have d2 := cell_later HB4.out c2
              have d3 := cell_later HB4.out c3
              have HL2 := hide hL
              clear c0 c1 c2 c3 hL he
              generalize decide (g0 = g2) = U2 at *
              go_wp2_with fail
              refine (HU2.out _).mono ?_
              rintro e V5 ⟨rfl, hb5⟩
              have bx5 := HX4.out.later (by simp) hb5
              have HB5 := hide (below_call hb5 HB4.out)
              clear HX4 HB4 HU2 hb5 y5 y9 y10 d0 d1 d2 d3
              have y10 := bx5.c 10 _ rfl
              clear bx5
              cases U2
              · go_wp2
                go_ret
                exact ⟨_, rfl, by rw [HL1.out, HL2.out]; simp, HB5.out⟩
              · go_wp2
                go_ret
                exact ⟨_, rfl, by rw [HL1.out, HL2.out]; simp, HB5.out⟩
            · have hL : lineB E (hn : Int) = false := by
                unfold lineB
                have : decide ((hn : Int) < (E.length : Int)) = false := decide_eq_false (by omega)
                rw [this]; rfl
              have h2b : (E.length : Int) ≤ (hn : Int) := by omega
              have h2c : decide ((E.length : Int) ≤ (hn : Int)) = true := decide_eq_true h2b
              have HL2 := hide hL
              clear hL
              go_wp2
              go_ret
              exact ⟨_, rfl, by rw [HL2.out]; simp, HB4.out⟩
          · go_wp2
            go_ret
            exact ⟨_, rfl, by rw [HL1.out]; simp, HB4.out⟩
        · have hL : lineB E (ln : Int) = false := by
            unfold lineB
            have : decide ((ln : Int) < (E.length : Int)) = false := decide_eq_false (by omega)
            rw [this]; rfl
          have h1b : (E.length : Int) ≤ (ln : Int) := by omega
          have h1c : decide ((E.length : Int) ≤ (ln : Int)) = true := decide_eq_true h1b
          have HL := hide hL
          clear hL
          go_wp2
          go_ret
          exact ⟨_, rfl, by rw [HL.out]; simp, HB3.out⟩

end Go.Proofs.YtkjlkbgdkdcboaaGreatDoor.Ref

