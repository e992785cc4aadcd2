import Derived.Test.YtiohpcnnpmnjhaaGreatDoorTokM
import Derived.Deep.LoopGhost
import Derived.Test.YtiohpcnnpmnjhaaGreatDoorCellRow
import Derived.Maps.AppendAt
namespace Go.Proofs.YtiohpcnnpmnjhaaGreatDoor
open Go.RowKit
set_option linter.unusedVariables false

/-- One run: the pen goes on. -/
def penGo (x0 : Int) (st : Int × Int × List Span) (r : Nat × Int) : Int × Int × List Span :=
  if r.2 = 36 then (x0, st.2.1 + r.1, st.2.2)
  else if r.2 = 111 then (st.1 + r.1, st.2.1, st.2.2 ++ [(st.1, st.2.1, (r.1 : Int))])
  else (st.1 + r.1, st.2.1, st.2.2)
/-- All runs. -/
def penRun (x0 y0 : Int) (acc : List (Nat × Int)) : Int × Int × List Span := acc.foldl (penGo x0) (x0, y0, [])
theorem penRun_snoc (x0 y0 : Int) (acc : List (Nat × Int)) (r : Nat × Int) : penRun x0 y0 (acc ++ [r]) = penGo x0 (penRun x0 y0 acc) r := by simp [penRun]

/-- Nothing below block number B has turned but blocks b and p. -/
structure Two (b p B : Nat) (w w' : World) : Prop where
  os : w'.os = w.os
  tape : w'.tape = w.tape
  output : w'.output = w.output
  size : w.heap.size ≤ w'.heap.size
  block : ∀ k, k < B → k ≠ b → k ≠ p → w'.heap[k]? = w.heap[k]?
theorem Two.refl (b p B : Nat) (w : World) : Two b p B w w := ⟨rfl, rfl, rfl, Nat.le_refl _, fun _ _ _ _ => rfl⟩
theorem Two.trans {b p B : Nat} {x y z : World} (h : Two b p B x y) (k : Two b p B y z) : Two b p B x z :=
  ⟨k.os.trans h.os, k.tape.trans h.tape, k.output.trans h.output, Nat.le_trans h.size k.size, fun i hi hb hp => (k.block i hi hb hp).trans (h.block i hi hb hp)⟩
theorem Near.two {b : Nat} {x y : World} (h : Near b x y) (p B : Nat) : Two b p B x y := ⟨h.os, h.tape, h.output, Nat.le_of_eq h.size.symm, fun k _ hb _ => h.block k hb⟩
theorem Pad.two {p B : Nat} {x y : World} (h : Pad p B x y) (b : Nat) : Two b p B x y := ⟨h.os, h.tape, h.output, h.size, fun k hk _ hp => h.block k hk hp⟩
theorem Two.below {b p B C : Nat} {x y : World} (h : Two b p B x y) (h1 : C ≤ b) (h2 : C ≤ p) (h3 : C ≤ B) : Below C x y := ⟨h.os, h.tape, h.output, h.size, fun k hk => h.block k (by omega) (by omega) (by omega)⟩

theorem At.pad {w w' : World} {b p B : Nat} {s : ByteArray} {k : Int} {i : Nat} (h : At w b s k i) (hp : Pad p B w w') (hb : b < B) (hbp : b ≠ p) : At w' b s k i :=
  ⟨(hp.cell (q := ⟨b, 0, none⟩) hb hbp).trans h.c0, (hp.cell (q := ⟨b, 1, none⟩) hb hbp).trans h.c1, (hp.cell (q := ⟨b, 2, none⟩) hb hbp).trans h.c2, (hp.frozen (q := ⟨b, 1, none⟩) hb hbp).trans h.fz⟩

theorem ownsRow_of_block {w w' : World} {B : Nat} {e : TypeId} {m : Nat} {v : Value} {n : Nat} {xs : List Value} (h : w.ownsRow B e m v n xs) (hb : ∀ k, B ≤ k → w'.heap[k]? = w.heap[k]?) : w'.ownsRow B e m v n xs := by
  obtain ⟨h1, h2⟩ := h
  refine ⟨h1, ?_⟩
  rcases h2 with h2 | ⟨g, cap, cur, hv, hg, hh, r⟩
  · exact .inl h2
  · exact .inr ⟨g, cap, cur, hv, hg, by rw [hb g hg]; exact hh, r⟩

theorem PenAt.near {w w' : World} {b p B : Nat} {x0 y0 ax ay : Int} {sp : List Span} (h : PenAt w p B x0 y0 ax ay sp) (hn : Near b w w') (hb : b < B) (hbp : b ≠ p) : PenAt w' p B x0 y0 ax ay sp := by
  obtain ⟨v, c4, own⟩ := h.c4
  have e : ∀ j, w'.cell? ⟨p, j, none⟩ = w.cell? ⟨p, j, none⟩ := fun j => hn.cell (p := ⟨p, j, none⟩) (fun e => hbp e.symm)
  exact ⟨(e 0).trans h.c0, (e 1).trans h.c1, (e 2).trans h.c2, (e 3).trans h.c3, ⟨v, (e 4).trans c4, ownsRow_of_block own (fun k hk => hn.block k (by omega))⟩,
    fun j => (hn.frozen (p := ⟨p, j, none⟩) (fun e => hbp e.symm)).trans (h.fz j), h.pB, by rw [hn.size]; exact h.Bw⟩
theorem PenAt.drewN {w : World} {p B : Nat} {x0 y0 ax ay : Int} {sp : List Span} (h : PenAt w p B x0 y0 ax ay sp) (n : Nat) : PenAt (w.drewN n) p B x0 y0 ax ay sp :=
  ⟨h.c0, h.c1, h.c2, h.c3, h.c4, h.fz, h.pB, h.Bw⟩

/-- The pen's block, as the runs so far have left it, and how far it may have gone. -/
structure PenOf (w : World) (p B : Nat) (x0 y0 : Int) (acc : List (Nat × Int)) : Prop where
  at_ : PenAt w p B x0 y0 (penRun x0 y0 acc).1 (penRun x0 y0 acc).2.1 (penRun x0 y0 acc).2.2
  x1 : -2000000000000000001 - 9999 * (acc.length : Int) ≤ (penRun x0 y0 acc).1
  x2 : (penRun x0 y0 acc).1 ≤ 2000000000000000001 + 9999 * (acc.length : Int)
  y1 : -2000000000000000001 - 9999 * (acc.length : Int) ≤ (penRun x0 y0 acc).2.1
  y2 : (penRun x0 y0 acc).2.1 ≤ 2000000000000000001 + 9999 * (acc.length : Int)
  z1 : -2000000000000000001 ≤ x0
  z2 : x0 ≤ 2000000000000000001
  le : (penRun x0 y0 acc).2.2.length ≤ acc.length

theorem PenOf.near {w w' : World} {b p B : Nat} {x0 y0 : Int} {acc : List (Nat × Int)} (h : PenOf w p B x0 y0 acc) (hn : Near b w w') (hb : b < B) (hbp : b ≠ p) : PenOf w' p B x0 y0 acc :=
  ⟨h.at_.near hn hb hbp, h.x1, h.x2, h.y1, h.y2, h.z1, h.z2, h.le⟩
theorem PenOf.drewN {w : World} {p B : Nat} {x0 y0 : Int} {acc : List (Nat × Int)} (h : PenOf w p B x0 y0 acc) (n : Nat) : PenOf (w.drewN n) p B x0 y0 acc :=
  ⟨h.at_.drewN n, h.x1, h.x2, h.y1, h.y2, h.z1, h.z2, h.le⟩

/-- One run is drawn. -/
theorem draw_any (w : World) (p B : Nat) (x0 y0 : Int) (acc : List (Nat × Int)) (n : Nat) (c : Int) (h : PenOf w p B x0 y0 acc) (hn : n ≤ 9999) (hc : isLt c = true) (hl : acc.length ≤ 1500) :
    Calls Tryz.prog 136 #[.pointer (some ⟨p, 0, none⟩), .int .i64 (n : Int), .int .u8 c] w fun e w' => e = .returned (.tuple #[]) ∧ PenOf w' p B x0 y0 (acc ++ [(n, c)]) ∧ Pad p B w w' := by
  obtain ⟨ha, x1, x2, y1, y2, z1, z2, le⟩ := h
  have hcs : c = 98 ∨ c = 111 ∨ c = 36 := by unfold isLt at hc; simpa [or_assoc] using hc
  have hps := penRun_snoc x0 y0 acc (n, c)
  obtain ⟨⟨ax, ay, sp⟩, hP⟩ : ∃ P, penRun x0 y0 acc = P := ⟨_, rfl⟩
  rw [hP] at ha x1 x2 y1 y2 le hps
  simp only at ha x1 x2 y1 y2 le
  rcases hcs with rfl | rfl | rfl
  · refine (draw_b w p B x0 y0 ax ay sp n ha (by omega) (by omega) (by omega) (by omega)).mono ?_
    rintro e w' ⟨rfl, h1, h2⟩
    refine ⟨rfl, ?_, h2⟩
    simp [penGo] at hps
    constructor <;> first | assumption | (rw [hps]; first | exact h1 | (simp; omega))
  · refine (draw_o w p B x0 y0 ax ay sp n ha (by omega) (by omega) (by omega) (by omega) (by omega)).mono ?_
    rintro e w' ⟨rfl, h1, h2⟩
    refine ⟨rfl, ?_, h2⟩
    simp [penGo] at hps
    constructor <;> first | assumption | (rw [hps]; first | exact h1 | (simp; omega))
  · refine (draw_d w p B x0 y0 ax ay sp n ha (by omega) (by omega) (by omega) (by omega)).mono ?_
    rintro e w' ⟨rfl, h1, h2⟩
    refine ⟨rfl, ?_, h2⟩
    simp [penGo] at hps
    constructor <;> first | assumption | (rw [hps]; first | exact h1 | (simp; omega))

/-- What readRuns does: it is refused, or the runs are drawn. -/
def RunsOut (b p B : Nat) (s : ByteArray) (k : Int) (x0 y0 : Int) (r : Nat ⊕ (List (Nat × Int) × Nat)) (w : World) (e : Ending) (w' : World) : Prop :=
  Two b p B w w' ∧ match r with
    | .inl i => e = .panicked (refusal k i)
    | .inr (l, i) => e = .returned (.tuple #[]) ∧ At w' b s k i ∧ i ≤ s.size ∧ PenOf w' p B x0 y0 l

set_option maxHeartbeats 1600000 in
theorem readRuns_any (b p B : Nat) (s : ByteArray) (k : Int) (i0 : Nat) (x0 y0 : Int) (w : World) (h : At w b s k i0) (hi0 : i0 ≤ s.size) (hs : s.size ≤ 1500) (hp : PenOf w p B x0 y0 []) (hbB : b < B) (hbp : b ≠ p) :
    Calls Tryz.prog 119 #[.pointer (some ⟨b, 0, none⟩), .pointer (some ⟨p, 0, none⟩)] w (RunsOut b p B s k x0 y0 (runsAt s (bl s i0)) w) := by
  have hnot : ∀ (x : Bool) (w : World), (Op.unary .not (.bool x)).run Tryz.prog w = .ok (.bool (!x)) w := fun _ _ => rfl
  go_enter Tryz.func119, Tryz.ntmps119
  go_wp2
  go_loopg [] (s.size - i0) (fun g wr => ∃ (i : Nat) (acc : List (Nat × Int)), i ≤ s.size ∧ g = s.size - i ∧ acc.length ≤ i ∧ At wr b s k i ∧ PenOf wr p B x0 y0 acc ∧ Two b p B w wr ∧ Hid (runsAt s (bl s i0) = ahead acc (runsAt s (bl s i))))
  case atStart => exact ⟨i0, [], hi0, rfl, Nat.zero_le _, h, hp, Two.refl _ _ _ _, (ahead_nil _).symm⟩
  case round =>
    obtain ⟨i, acc, hi, rfl, hacc, ha, hpen, htwo, hr⟩ := hrel
    have hbl := bl_le s i hi
    have hT := takeBlanks_any b s k i wr ha hi hs
    have hrun := runsAt_eq s (bl s i) hbl.2
    obtain ⟨j, hj⟩ : ∃ j, bl s i = j := ⟨_, rfl⟩
    rw [hj] at hbl hT hrun
    have hr' := hr.out
    rw [hj] at hr'
    clear hr hj
    have hpb := pk_bd s j
    by_cases h33 : pk s j = 33
    · rw [if_pos h33] at hrun
      rw [hrun] at hr'
      have HR : Hid (runsAt s (bl s i0) = .inr (acc ++ [], j + 1)) := hr'
      clear hrun hr'
      have hlt := lt_of_pk (s := s) (i := j) (by omega)
      go_wp2_with (first
        | (go_at_call 117; refine hT.mono ?_; rintro e w1 ⟨rfl, a1, n1⟩; have d1 := a1.c1; have d3 := a1.fz)
        | (go_at_call 116; refine (peek_any b s k j _ a1 hbl.2 hs).mono ?_; rintro e w2 ⟨rfl, q2, rfl⟩))
      refine bodyPost_ret (results_none rfl _ _ _) rfl ?_
      show RunsOut b p B s k x0 y0 (runsAt s (bl s i0)) w _ _
      rw [HR.out, List.append_nil]
      exact ⟨htwo.trans ((((n1.drewN q2).setCell _ _)).two p B), rfl, (a1.drewN q2).step, by omega, hpen.near ((n1.drewN q2).setCell _ _) hbB hbp⟩
    · rw [if_neg h33] at hrun
      have h33' : (pk s j == 33) = false := by simpa using h33
      have hd := isDigit_any (pk s j) hpb.1 hpb.2
      cases hdg : isDg (pk s j) with
      | true =>
        rw [hdg] at hd
        by_cases hbad : pk s j = 48 ∨ 4 < dg s j - j
        · have hct : cntTok s j = none := by simp [cntTok, hdg, hbad]
          rw [hct] at hrun
          simp only at hrun
          rw [hrun] at hr'
          have HR : Hid (runsAt s (bl s i0) = .inl j) := hr'
          clear hrun hr' hct
          go_wp2_with (first
          | (go_at_call 117; refine hT.mono ?_; rintro e w1 ⟨rfl, a1, n1⟩; clear hT)
          | (go_at_call 116; refine (peek_any b s k j _ a1 hbl.2 hs).mono ?_; rintro e w2 ⟨rfl, q2, rfl⟩)
          | (go_at_call 134; refine (hd _).mono ?_; rintro e w3 ⟨rfl, rfl⟩)
          | (go_at_call 135; refine (readCount_bad b s k j _ (a1.drewN _) hbl.2 hs hdg hbad).mono ?_; rintro e w4 ⟨rfl, n4⟩))
          refine ⟨rfl, ?_⟩
          show RunsOut b p B s k x0 y0 (runsAt s (bl s i0)) w _ _
          rw [HR.out]
          exact ⟨htwo.trans (((n1.drewN _).trans n4).two p B), rfl⟩
        · have hct : cntTok s j = some (dv s j (dg s j - j), bl s (dg s j)) := by simp [cntTok, hdg, hbad]
          rw [hct] at hrun
          simp only at hrun
          have hdl := dg_le s j hbl.2
          have hbl2 := bl_le s (dg s j) hdl.2
          have hdv : dv s j (dg s j - j) < 10 ^ (dg s j - j) := dv_lt s j _ (fun q hq => skip_all hbl.2 (by omega) (by show j + q < dg s j; omega))
          have hpw : 10 ^ (dg s j - j) ≤ 10000 := Nat.pow_le_pow_right (n := 10) (by omega) (by omega : dg s j - j ≤ 4)
          have hn9 : dv s j (dg s j - j) ≤ 9999 := by omega
          clear hdv hpw
          have hrc := fun w2 (a2 : At w2 b s k j) => readCount_good b s k j w2 a2 hbl.2 hs hdg (by omega) (by omega)
          have htb := fun w2 (a2 : At w2 b s k (dg s j)) => takeBlanks_any b s k (dg s j) w2 a2 hdl.2 hs
          obtain ⟨n, hn⟩ : ∃ n, dv s j (dg s j - j) = n := ⟨_, rfl⟩
          obtain ⟨m, hm⟩ : ∃ m, dg s j = m := ⟨_, rfl⟩
          obtain ⟨q, hq⟩ : ∃ q, bl s m = q := ⟨_, rfl⟩
          rw [hn] at hrun hn9
          simp only [hn] at hrc
          simp only [hm] at hrc
          rw [hm] at hrun hdl hbl2
          simp only [hm, hq] at htb
          rw [hq] at hrun hbl2
          clear hn hm hq hct hbad
          cases hlet : isLt (pk s q) with
          | true =>
            rw [hlet, if_pos rfl] at hrun
            rw [hrun, ahead_ahead] at hr'
            have HR : Hid (runsAt s (bl s i0) = ahead (acc ++ [(n, pk s q)]) (runsAt s (bl s (q + 1)))) := hr'
            clear hrun hr'
            have hqlt := lt_of_pk (isLt_pos hlet)
            go_wp2_with (first
          | (go_at_call 117; refine hT.mono ?_; rintro e w1 ⟨rfl, a1, n1⟩; clear hT)
          | (go_at_call 116; refine (peek_any b s k j _ a1 hbl.2 hs).mono ?_; rintro e w2 ⟨rfl, q2, rfl⟩)
          | (go_at_call 134; refine (hd _).mono ?_; rintro e w3 ⟨rfl, rfl⟩)
          | (go_at_call 135; refine (hrc _ (a1.drewN _)).mono ?_; rintro e w4 ⟨rfl, a4, n4⟩)
          | (go_at_call 117; refine (htb _ a4).mono ?_; rintro e w4' ⟨rfl, a4', n4'⟩)
          | (go_at_call 137; refine (readLetter_hit b s k q _ a4' hbl2.2 hs hlet).mono ?_; rintro e w5 ⟨rfl, a5, n5⟩)
          | (go_at_call 136; refine (draw_any _ p B x0 y0 acc n (pk s q) ((((hpen.near n1 hbB hbp).drewN _).near n4 hbB hbp).near (n4'.trans n5) hbB hbp) hn9 hlet (by omega)).mono ?_; rintro e w6 ⟨rfl, pen6, pad6⟩))
            go_roundg (s.size - (q + 1))
            case measure => omega
            case rel => exact ⟨q + 1, acc ++ [(n, pk s q)], by omega, rfl, by simp; omega, a5.pad pad6 hbB hbp, pen6, htwo.trans (((((n1.drewN _).trans n4).trans (n4'.trans n5)).two p B).trans (pad6.two b)), HR.out⟩
          | false =>
            rw [hlet, if_neg Bool.false_ne_true] at hrun
            rw [hrun] at hr'
            have HR : Hid (runsAt s (bl s i0) = .inl q) := hr'
            clear hrun hr'
            go_wp2_with (first
          | (go_at_call 117; refine hT.mono ?_; rintro e w1 ⟨rfl, a1, n1⟩; clear hT)
          | (go_at_call 116; refine (peek_any b s k j _ a1 hbl.2 hs).mono ?_; rintro e w2 ⟨rfl, q2, rfl⟩)
          | (go_at_call 134; refine (hd _).mono ?_; rintro e w3 ⟨rfl, rfl⟩)
          | (go_at_call 135; refine (hrc _ (a1.drewN _)).mono ?_; rintro e w4 ⟨rfl, a4, n4⟩)
          | (go_at_call 117; refine (htb _ a4).mono ?_; rintro e w4' ⟨rfl, a4', n4'⟩)
          | (go_at_call 137; refine (readLetter_miss b s k q _ a4' hbl2.2 hs hlet).mono ?_; rintro e w5 ⟨rfl, n5⟩))
            refine ⟨rfl, ?_⟩
            show RunsOut b p B s k x0 y0 (runsAt s (bl s i0)) w _ _
            rw [HR.out]
            exact ⟨htwo.trans ((((n1.drewN _).trans n4).trans (n4'.trans n5)).two p B), rfl⟩
      | false =>
        rw [hdg] at hd
        have hct : cntTok s j = some (1, j) := by simp [cntTok, hdg]
        rw [hct] at hrun
        simp only at hrun
        clear hct
        cases hlet : isLt (pk s j) with
        | true =>
          rw [hlet, if_pos rfl] at hrun
          rw [hrun, ahead_ahead] at hr'
          have HR : Hid (runsAt s (bl s i0) = ahead (acc ++ [(1, pk s j)]) (runsAt s (bl s (j + 1)))) := hr'
          clear hrun hr'
          have hqlt := lt_of_pk (isLt_pos hlet)
          go_wp2_with (first
          | (go_at_call 117; refine hT.mono ?_; rintro e w1 ⟨rfl, a1, n1⟩; clear hT)
          | (go_at_call 116; refine (peek_any b s k j _ a1 hbl.2 hs).mono ?_; rintro e w2 ⟨rfl, q2, rfl⟩)
          | (go_at_call 134; refine (hd _).mono ?_; rintro e w3 ⟨rfl, rfl⟩)
          | (go_at_call 137; refine (readLetter_hit b s k j _ (a1.drewN _) hbl.2 hs hlet).mono ?_; rintro e w5 ⟨rfl, a5, n5⟩)
          | (go_at_call 136; refine (draw_any _ p B x0 y0 acc 1 (pk s j) (((hpen.near n1 hbB hbp).drewN _).near n5 hbB hbp) (by omega) hlet (by omega)).mono ?_; rintro e w6 ⟨rfl, pen6, pad6⟩))
          go_roundg (s.size - (j + 1))
          case measure => omega
          case rel => exact ⟨j + 1, acc ++ [(1, pk s j)], by omega, rfl, by simp; omega, a5.pad pad6 hbB hbp, pen6, htwo.trans ((((n1.drewN _).trans n5).two p B).trans (pad6.two b)), HR.out⟩
        | false =>
          rw [hlet, if_neg Bool.false_ne_true] at hrun
          rw [hrun] at hr'
          have HR : Hid (runsAt s (bl s i0) = .inl j) := hr'
          clear hrun hr'
          go_wp2_with (first
          | (go_at_call 117; refine hT.mono ?_; rintro e w1 ⟨rfl, a1, n1⟩; clear hT)
          | (go_at_call 116; refine (peek_any b s k j _ a1 hbl.2 hs).mono ?_; rintro e w2 ⟨rfl, q2, rfl⟩)
          | (go_at_call 134; refine (hd _).mono ?_; rintro e w3 ⟨rfl, rfl⟩)
          | (go_at_call 137; refine (readLetter_miss b s k j _ (a1.drewN _) hbl.2 hs hlet).mono ?_; rintro e w5 ⟨rfl, n5⟩))
          refine ⟨rfl, ?_⟩
          show RunsOut b p B s k x0 y0 (runsAt s (bl s i0)) w _ _
          rw [HR.out]
          exact ⟨htwo.trans (((n1.drewN _).trans n5).two p B), rfl⟩

end Go.Proofs.YtiohpcnnpmnjhaaGreatDoor

namespace Go.Proofs.YtiohpcnnpmnjhaaGreatDoor
open Go.RowKit
set_option linter.unusedVariables false

theorem At.new (w : World) (s : ByteArray) (k : Int) : At (w.alloc (.cells #[.string s, .int .i64 0, .int .i64 k] 140)) w.heap.size s k 0 :=
  ⟨by simp, by simp, by simp, by simp⟩

theorem capP_bd (z : Int) : -2000000000000000001 ≤ capP z ∧ capP z ≤ 2000000000000000001 := by unfold capP MC; split <;> (try split) <;> omega

/-- The form is refused. -/
def FormBad (w : World) (i : Nat) (e : Ending) (w' : World) : Prop := e = .panicked (refusal 2 i) ∧ Below w.heap.size w w'

theorem hdr (w : World) (s : ByteArray) : Below w.heap.size w ((w.alloc (.cells #[.int .i64 0, .int .i64 0] 113)).alloc (.cells #[.string s, .int .i64 0, .int .i64 2] 140)) :=
  ((Below.refl _ _).alloc (Nat.le_refl _) _).alloc (by simp) _
theorem hdrAt (w : World) (s : ByteArray) : At ((w.alloc (.cells #[.int .i64 0, .int .i64 0] 113)).alloc (.cells #[.string s, .int .i64 0, .int .i64 2] 140)) (w.heap.size + 1) s 2 0 := by
  have := At.new (w.alloc (.cells #[.int .i64 0, .int .i64 0] 113)) s 2
  simpa using this

set_option maxHeartbeats 800000 in
theorem readForm_x (s : ByteArray) (w : World) (hs : s.size ≤ 1500) (h1 : numTok s (bl s 0) = none) :
    Calls Tryz.prog 90 #[.string s] w (FormBad w (bl s 0)) := by
  have hb := hdr w s
  have ha := hdrAt w s
  have l0 := bl_le s 0 (Nat.zero_le _)
  go_enter Tryz.func90, Tryz.ntmps90
  go_wp2_with (first
    | (go_at_call 117; refine (takeBlanks_any (w.heap.size + 1) s 2 0 _ ha (Nat.zero_le _) hs).mono ?_; rintro e w1 ⟨rfl, a1, n1⟩)
    | (go_at_call 118; refine (readNumber_none (w.heap.size + 1) s 2 _ _ a1 l0.2 hs h1).mono ?_; rintro e w2 ⟨rfl, n2⟩))
  exact ⟨rfl, rfl, hb.trans ((n1.trans n2).below (by omega))⟩

set_option maxHeartbeats 800000 in
theorem readForm_gap (s : ByteArray) (w : World) (hs : s.size ≤ 1500) (x : Int) (j : Nat) (h1 : numTok s (bl s 0) = some (x, j)) (h2 : bl s j = j) :
    Calls Tryz.prog 90 #[.string s] w (FormBad w j) := by
  have hnot : ∀ (x : Bool) (w : World), (Op.unary .not (.bool x)).run Tryz.prog w = .ok (.bool (!x)) w := fun _ _ => rfl
  have hb := hdr w s
  have ha := hdrAt w s
  have l0 := bl_le s 0 (Nat.zero_le _)
  have l1 := numTok_le l0.2 h1
  have hT := fun w2 (a2 : At w2 (w.heap.size + 1) s 2 j) => takeBlanks_any (w.heap.size + 1) s 2 j w2 a2 l1.2 hs
  simp only [h2, Nat.lt_irrefl, decide_false] at hT
  go_enter Tryz.func90, Tryz.ntmps90
  go_wp2_with (first
    | (go_at_call 117; refine (takeBlanks_any (w.heap.size + 1) s 2 0 _ ha (Nat.zero_le _) hs).mono ?_; rintro e w1 ⟨rfl, a1, n1⟩; clear ha)
    | (go_at_call 118; refine (readNumber_some (w.heap.size + 1) s 2 _ _ a1 l0.2 hs x j h1).mono ?_; rintro e w2 ⟨rfl, a2, n2⟩)
    | (go_at_call 117; refine (hT _ a2).mono ?_; rintro e w3 ⟨rfl, a3, n3⟩)
    | (go_at_call 115; refine (refuse_any (w.heap.size + 1) s 2 j _ a3).mono ?_; rintro e w4 ⟨rfl, m4, rfl⟩))
  exact ⟨rfl, rfl, hb.trans ((((n1.trans n2).trans n3).drewN m4).below (by omega))⟩

set_option maxHeartbeats 800000 in
theorem readForm_y (s : ByteArray) (w : World) (hs : s.size ≤ 1500) (x : Int) (j : Nat) (h1 : numTok s (bl s 0) = some (x, j)) (h2 : ¬ bl s j = j) (h3 : numTok s (bl s j) = none) :
    Calls Tryz.prog 90 #[.string s] w (FormBad w (bl s j)) := by
  have hnot : ∀ (x : Bool) (w : World), (Op.unary .not (.bool x)).run Tryz.prog w = .ok (.bool (!x)) w := fun _ _ => rfl
  have hb := hdr w s
  have ha := hdrAt w s
  have l0 := bl_le s 0 (Nat.zero_le _)
  have l1 := numTok_le l0.2 h1
  have l2 := bl_le s j l1.2
  have hT := fun w2 (a2 : At w2 (w.heap.size + 1) s 2 j) => takeBlanks_any (w.heap.size + 1) s 2 j w2 a2 l1.2 hs
  have hlt : j < bl s j := by omega
  simp only [hlt, decide_true] at hT
  go_enter Tryz.func90, Tryz.ntmps90
  go_wp2_with (first
    | (go_at_call 117; refine (takeBlanks_any (w.heap.size + 1) s 2 0 _ ha (Nat.zero_le _) hs).mono ?_; rintro e w1 ⟨rfl, a1, n1⟩; clear ha)
    | (go_at_call 118; refine (readNumber_some (w.heap.size + 1) s 2 _ _ a1 l0.2 hs x j h1).mono ?_; rintro e w2 ⟨rfl, a2, n2⟩; clear a1)
    | (go_at_call 117; refine (hT _ a2).mono ?_; rintro e w3 ⟨rfl, a3, n3⟩)
    | (go_at_call 118; refine (readNumber_none (w.heap.size + 1) s 2 _ _ a3 l2.2 hs h3).mono ?_; rintro e w4 ⟨rfl, n4⟩))
  exact ⟨rfl, rfl, hb.trans ((((n1.trans n2).trans n3).trans n4).below (by omega))⟩

/-- The start's cell and the pen, laid: what readRuns asks. -/
theorem pen_new (W : World) (N : Nat) (s : ByteArray) (i : Nat) (x y : Int) (hN : W.heap.size = N + 2) (ha : At W (N + 1) s 2 i) (hx : -2000000000000000001 ≤ x ∧ x ≤ 2000000000000000001) (hy : -2000000000000000001 ≤ y ∧ y ≤ 2000000000000000001) :
    At ((W.alloc (.cells #[.int .i64 x, .int .i64 y] 113)).alloc (.cells #[.int .i64 x, .int .i64 y, .int .i64 x, .int .i64 y, .slice none 0 0] 182)) (N + 1) s 2 i ∧
    PenOf ((W.alloc (.cells #[.int .i64 x, .int .i64 y] 113)).alloc (.cells #[.int .i64 x, .int .i64 y, .int .i64 x, .int .i64 y, .slice none 0 0] 182)) (N + 3) (N + 4) x y [] := by
  obtain ⟨W1, hW1⟩ : ∃ W1, W.alloc (.cells #[.int .i64 x, .int .i64 y] 113) = W1 := ⟨_, rfl⟩
  have hz : W1.heap.size = N + 3 := by rw [← hW1]; simp [hN]
  rw [hW1]
  have hb : Below (N + 2) W (W1.alloc (.cells #[.int .i64 x, .int .i64 y, .int .i64 x, .int .i64 y, .slice none 0 0] 182)) := by
    rw [← hW1]; exact ((Below.refl _ W).alloc (by omega) _).alloc (by simp [hN]) _
  refine ⟨⟨(hb.cell (p := ⟨N + 1, 0, none⟩) (by simp)).trans ha.c0, (hb.cell (p := ⟨N + 1, 1, none⟩) (by simp)).trans ha.c1, (hb.cell (p := ⟨N + 1, 2, none⟩) (by simp)).trans ha.c2, (hb.frozen (p := ⟨N + 1, 1, none⟩) (by simp)).trans ha.fz⟩, ?_⟩
  refine ⟨?_, by simp [penRun]; omega, by simp [penRun]; omega, by simp [penRun]; omega, by simp [penRun]; omega, hx.1, hx.2, by simp [penRun]⟩
  rw [← hz]
  refine ⟨by simp, by simp, by simp [penRun], by simp [penRun], ⟨.slice none 0 0, by simp, ?_⟩, fun j => by simp, by omega, by simp [hz]⟩
  exact World.ownsRow_nil _ _ _ _

set_option maxHeartbeats 800000 in
theorem readForm_runs (s : ByteArray) (w : World) (hs : s.size ≤ 1500) (x y : Int) (j k q : Nat) (h1 : numTok s (bl s 0) = some (x, j)) (h2 : ¬ bl s j = j) (h3 : numTok s (bl s j) = some (y, k)) (h4 : runsAt s (bl s k) = .inl q) :
    Calls Tryz.prog 90 #[.string s] w (FormBad w q) := by
  have hnot : ∀ (x : Bool) (w : World), (Op.unary .not (.bool x)).run Tryz.prog w = .ok (.bool (!x)) w := fun _ _ => rfl
  have hb := hdr w s
  have ha := hdrAt w s
  have l0 := bl_le s 0 (Nat.zero_le _)
  have l1 := numTok_le l0.2 h1
  have l2 := bl_le s j l1.2
  have l3 := numTok_le l2.2 h3
  have hT := fun w2 (a2 : At w2 (w.heap.size + 1) s 2 j) => takeBlanks_any (w.heap.size + 1) s 2 j w2 a2 l1.2 hs
  have hlt : j < bl s j := by omega
  simp only [hlt, decide_true] at hT
  have hR := fun W A P => readRuns_any (w.heap.size + 1) (w.heap.size + 3) (w.heap.size + 4) s 2 k (capP x) (capP y) W A l3.2 hs P (by omega) (by omega)
  simp only [h4] at hR
  go_enter Tryz.func90, Tryz.ntmps90
  go_wp2_with (first
    | (go_at_call 117; refine (takeBlanks_any (w.heap.size + 1) s 2 0 _ ha (Nat.zero_le _) hs).mono ?_; rintro e w1 ⟨rfl, a1, n1⟩; clear ha)
    | (go_at_call 118; refine (readNumber_some (w.heap.size + 1) s 2 _ _ a1 l0.2 hs x j h1).mono ?_; rintro e w2 ⟨rfl, a2, n2⟩; clear a1)
    | (go_at_call 117; refine (hT _ a2).mono ?_; rintro e w3 ⟨rfl, a3, n3⟩; clear a2)
    | (go_at_call 118; refine (readNumber_some (w.heap.size + 1) s 2 _ _ a3 l2.2 hs y k h3).mono ?_; rintro e w4 ⟨rfl, a4, n4⟩; clear a3; have z4 : w4.heap.size = w.heap.size + 2 := by have := n1.size; have := n2.size; have := n3.size; have := n4.size; simp at *; omega)
    | (go_at_call 119; have pn := pen_new w4 w.heap.size s k (capP x) (capP y) z4 a4 (capP_bd x) (capP_bd y); refine (hR _ pn.1 pn.2).mono ?_; rintro e w5 ⟨two, rfl⟩))
  refine ⟨rfl, rfl, ?_⟩
  have b4 : Below w.heap.size w w4 := hb.trans ((((n1.trans n2).trans n3).trans n4).below (by omega))
  exact ((b4.alloc (by omega) _).alloc (by simp; omega) _).trans (two.below (by omega) (by omega) (by omega))

set_option maxHeartbeats 800000 in
theorem readForm_end (s : ByteArray) (w : World) (hs : s.size ≤ 1500) (x y : Int) (j k q : Nat) (l : List (Nat × Int)) (h1 : numTok s (bl s 0) = some (x, j)) (h2 : ¬ bl s j = j) (h3 : numTok s (bl s j) = some (y, k)) (h4 : runsAt s (bl s k) = .inr (l, q)) (h5 : bl s q < s.size) :
    Calls Tryz.prog 90 #[.string s] w (FormBad w (bl s q)) := by
  have hnot : ∀ (x : Bool) (w : World), (Op.unary .not (.bool x)).run Tryz.prog w = .ok (.bool (!x)) w := fun _ _ => rfl
  have hb := hdr w s
  have ha := hdrAt w s
  have l0 := bl_le s 0 (Nat.zero_le _)
  have l1 := numTok_le l0.2 h1
  have l2 := bl_le s j l1.2
  have l3 := numTok_le l2.2 h3
  have hT := fun w2 (a2 : At w2 (w.heap.size + 1) s 2 j) => takeBlanks_any (w.heap.size + 1) s 2 j w2 a2 l1.2 hs
  have hlt : j < bl s j := by omega
  simp only [hlt, decide_true] at hT
  have hR := fun W A P => readRuns_any (w.heap.size + 1) (w.heap.size + 3) (w.heap.size + 4) s 2 k (capP x) (capP y) W A l3.2 hs P (by omega) (by omega)
  simp only [h4] at hR
  go_enter Tryz.func90, Tryz.ntmps90
  go_wp2_with (first
    | (go_at_call 117; refine (takeBlanks_any (w.heap.size + 1) s 2 0 _ ha (Nat.zero_le _) hs).mono ?_; rintro e w1 ⟨rfl, a1, n1⟩; clear ha)
    | (go_at_call 118; refine (readNumber_some (w.heap.size + 1) s 2 _ _ a1 l0.2 hs x j h1).mono ?_; rintro e w2 ⟨rfl, a2, n2⟩; clear a1)
    | (go_at_call 117; refine (hT _ a2).mono ?_; rintro e w3 ⟨rfl, a3, n3⟩; clear a2)
    | (go_at_call 118; refine (readNumber_some (w.heap.size + 1) s 2 _ _ a3 l2.2 hs y k h3).mono ?_; rintro e w4 ⟨rfl, a4, n4⟩; clear a3; have z4 : w4.heap.size = w.heap.size + 2 := by have := n1.size; have := n2.size; have := n3.size; have := n4.size; simp at *; omega)
    | (go_at_call 119; have pn := pen_new w4 w.heap.size s k (capP x) (capP y) z4 a4 (capP_bd x) (capP_bd y); refine (hR _ pn.1 pn.2).mono ?_; rintro e w5 ⟨two, rfl, a5, l5, pen5⟩; clear a4)
    | (go_at_call 117; refine (takeBlanks_any (w.heap.size + 1) s 2 q _ a5 l5 hs).mono ?_; rintro e w6 ⟨rfl, a6, n6⟩)
    | (go_at_call 89; refine (expectEnd_miss (w.heap.size + 1) s 2 _ _ a6 h5 hs).mono ?_; rintro e w7 ⟨rfl, m7, rfl⟩))
  refine ⟨rfl, rfl, ?_⟩
  have b4 : Below w.heap.size w w4 := hb.trans ((((n1.trans n2).trans n3).trans n4).below (by omega))
  exact (((b4.alloc (by omega) _).alloc (by simp; omega) _).trans (two.below (by omega) (by omega) (by omega))).trans ((n6.drewN m7).below (by omega))

theorem ownsRow_mono {w : World} {B C : Nat} {e : TypeId} {m : Nat} {v : Value} {n : Nat} {xs : List Value} (h : w.ownsRow B e m v n xs) (hC : C ≤ B) : w.ownsRow C e m v n xs := by
  obtain ⟨h1, h2⟩ := h
  refine ⟨h1, ?_⟩
  rcases h2 with h2 | ⟨g, cap, cur, hv, hg, r⟩
  · exact .inl h2
  · exact .inr ⟨g, cap, cur, hv, by omega, r⟩

/-- The form is right. -/
def FormOk (w : World) (x y : Int) (l : List (Nat × Int)) (e : Ending) (w' : World) : Prop :=
  ∃ v, e = .returned (.tuple #[.agg #[.int .i64 x, .int .i64 y], v]) ∧ w'.ownsRow w.heap.size 121 3 v (penRun x y l).2.2.length (flat (penRun x y l).2.2) ∧ Below w.heap.size w w'

theorem form_cells {w w1 w4 w5 w6 : World} {s : ByteArray} {x y : Int} (m : Nat) (n1 : Near (w.heap.size + 1) ((w.alloc (.cells #[.int .i64 0, .int .i64 0] 113)).alloc (.cells #[.string s, .int .i64 0, .int .i64 2] 140)) w4) (z4 : w4.heap.size = w.heap.size + 2)
    (two : Two (w.heap.size + 1) (w.heap.size + 3) (w.heap.size + 4) ((w4.alloc (.cells #[.int .i64 x, .int .i64 y] 113)).alloc (.cells #[.int .i64 x, .int .i64 y, .int .i64 x, .int .i64 y, .slice none 0 0] 182)) w5) (n6 : Near (w.heap.size + 1) w5 w6) :
    w6.cell? ⟨w.heap.size + 2, 0, none⟩ = some (.int .i64 x) ∧ w6.cell? ⟨w.heap.size + 2, 1, none⟩ = some (.int .i64 y) ∧ w6.cell? ⟨w.heap.size, 0, none⟩ = some (.int .i64 0) ∧ w6.cell? ⟨w.heap.size, 1, none⟩ = some (.int .i64 0) ∧ w6.frozen? ⟨w.heap.size, 0, none⟩ = false ∧ w6.frozen? ⟨w.heap.size, 1, none⟩ = false := by
  have hblk : ∀ k, k < w.heap.size + 4 → k ≠ w.heap.size + 1 → k ≠ w.heap.size + 3 → w6.heap[k]? = ((w4.alloc (.cells #[.int .i64 x, .int .i64 y] 113)).alloc (.cells #[.int .i64 x, .int .i64 y, .int .i64 x, .int .i64 y, .slice none 0 0] 182)).heap[k]? :=
    fun k h1 h2 h3 => (n6.block k h2).trans (two.block k h1 h2 h3)
  have h2 : w6.heap[w.heap.size + 2]? = some (.cells #[.int .i64 x, .int .i64 y] 113) := by
    rw [hblk _ (by omega) (by omega) (by omega), Below.heap_alloc _ _ _ (by simp; omega), ← z4]
    show (w4.heap.push _)[w4.heap.size]? = _
    simp
  have h0 : w6.heap[w.heap.size]? = some (.cells #[.int .i64 0, .int .i64 0] 113) := by
    rw [hblk _ (by omega) (by omega) (by omega), Below.heap_alloc _ _ _ (by simp; omega), Below.heap_alloc _ _ _ (by omega), n1.block _ (by omega), Below.heap_alloc _ _ _ (by simp)]
    show (w.heap.push _)[w.heap.size]? = _
    simp
  refine ⟨?_, ?_, ?_, ?_, ?_, ?_⟩ <;> simp [World.cell?, World.frozen?, h2, h0]

set_option maxHeartbeats 800000 in
theorem readForm_ok (s : ByteArray) (w : World) (hs : s.size ≤ 1500) (x y : Int) (j k q : Nat) (l : List (Nat × Int)) (h1 : numTok s (bl s 0) = some (x, j)) (h2 : ¬ bl s j = j) (h3 : numTok s (bl s j) = some (y, k)) (h4 : runsAt s (bl s k) = .inr (l, q)) (h5 : ¬ bl s q < s.size) :
    Calls Tryz.prog 90 #[.string s] w (FormOk w (capP x) (capP y) l) := by
  have hnot : ∀ (x : Bool) (w : World), (Op.unary .not (.bool x)).run Tryz.prog w = .ok (.bool (!x)) w := fun _ _ => rfl
  have hb := hdr w s
  have ha := hdrAt w s
  have l0 := bl_le s 0 (Nat.zero_le _)
  have l1 := numTok_le l0.2 h1
  have l2 := bl_le s j l1.2
  have l3 := numTok_le l2.2 h3
  have hT := fun w2 (a2 : At w2 (w.heap.size + 1) s 2 j) => takeBlanks_any (w.heap.size + 1) s 2 j w2 a2 l1.2 hs
  have hlt : j < bl s j := by omega
  simp only [hlt, decide_true] at hT
  have hR := fun W A P => readRuns_any (w.heap.size + 1) (w.heap.size + 3) (w.heap.size + 4) s 2 k (capP x) (capP y) W A l3.2 hs P (by omega) (by omega)
  simp only [h4] at hR
  have l6 := bl_ge s q
  go_enter Tryz.func90, Tryz.ntmps90
  go_wp2_with (first
    | (go_at_call 117; refine (takeBlanks_any (w.heap.size + 1) s 2 0 _ ha (Nat.zero_le _) hs).mono ?_; rintro e w1 ⟨rfl, a1, n1⟩; clear ha)
    | (go_at_call 118; refine (readNumber_some (w.heap.size + 1) s 2 _ _ a1 l0.2 hs x j h1).mono ?_; rintro e w2 ⟨rfl, a2, n2⟩; clear a1)
    | (go_at_call 117; refine (hT _ a2).mono ?_; rintro e w3 ⟨rfl, a3, n3⟩; clear a2)
    | (go_at_call 118; refine (readNumber_some (w.heap.size + 1) s 2 _ _ a3 l2.2 hs y k h3).mono ?_; rintro e w4 ⟨rfl, a4, n4⟩; clear a3; have z4 : w4.heap.size = w.heap.size + 2 := by have := n1.size; have := n2.size; have := n3.size; have := n4.size; simp at *; omega)
    | (go_at_call 119; have pn := pen_new w4 w.heap.size s k (capP x) (capP y) z4 a4 (capP_bd x) (capP_bd y); refine (hR _ pn.1 pn.2).mono ?_; rintro e w5 ⟨two, rfl, a5, l5, pen5⟩; clear a4)
    | (go_at_call 117; have l7 := bl_le s q l5; refine (takeBlanks_any (w.heap.size + 1) s 2 q _ a5 l5 hs).mono ?_; rintro e w6 ⟨rfl, a6, n6⟩; clear a5)
    | (go_at_call 89; refine (expectEnd_hit (w.heap.size + 1) s 2 _ _ a6 (by omega) hs).mono ?_; rintro e w7 ⟨rfl, m7, rfl⟩; obtain ⟨f0, f1, f2, f3, f4, f5⟩ := form_cells (w1 := w1) m7 (((n1.trans n2).trans n3).trans n4) z4 two n6; have pen6 := pen5.near n6 (by omega) (by omega); obtain ⟨v, c4, own⟩ := pen6.at_.c4))
  go_region
  go_wp2
  have g0 : ((w6.drewN (m7 + 1)).setCell ⟨w.heap.size, 0, none⟩ (.int .i64 (capP x))).cell? ⟨w.heap.size, 0, none⟩ = some (.int .i64 (capP x)) := World.cell?_setCell_same _ _ _ f2
  have g1 : ((w6.drewN (m7 + 1)).setCell ⟨w.heap.size, 0, none⟩ (.int .i64 (capP x))).cell? ⟨w.heap.size, 1, none⟩ = some (.int .i64 0) := by rw [World.cell?_setCell_other _ _ _ _ (by simp)]; exact f3
  have e1 : (((w6.drewN (m7 + 1)).setCell ⟨w.heap.size, 0, none⟩ (.int .i64 (capP x))).setCell ⟨w.heap.size, 1, none⟩ (.int .i64 (capP y))).cell? ⟨w.heap.size, 1, none⟩ = some (.int .i64 (capP y)) :=
    World.cell?_setCell_same _ _ _ g1
  refine bodyPost_ret (v := .tuple #[.agg #[.int .i64 (capP x), .int .i64 (capP y)], v]) (by simp [results, Tryz.results90, go_sem, g0, e1]) rfl ⟨v, rfl, ?_, ?_⟩
  · exact ownsRow_mono (ownsRow_setCell_below (ownsRow_setCell_below (w := w6.drewN (m7 + 1)) own (a := ⟨w.heap.size, 0, none⟩) (by simp) _) (a := ⟨w.heap.size, 1, none⟩) (by simp) _) (by omega)
  · have b4 : Below w.heap.size w w4 := hb.trans ((((n1.trans n2).trans n3).trans n4).below (by omega))
    have b6 : Below w.heap.size w w6 := (((b4.alloc (by omega) _).alloc (by simp; omega) _).trans (two.below (by omega) (by omega) (by omega))).trans (n6.below (by omega))
    exact ((below_drewN b6 (m7 + 1)).setCell (p := ⟨w.heap.size, 0, none⟩) (Nat.le_refl _) _).setCell (p := ⟨w.heap.size, 1, none⟩) (Nat.le_refl _) _

/-- The form of the whole text. -/
def FormOut (s : ByteArray) (w : World) (e : Ending) (w' : World) : Prop :=
  match parse s with
  | .inl i => FormBad w i e w'
  | .inr (x, y, l) => FormOk w (capP x) (capP y) l e w'

theorem formOut_bad {s : ByteArray} {i : Nat} (w : World) (h : parse s = .inl i) : FormOut s w = FormBad w i := by
  funext e w'; unfold FormOut; rw [h]
theorem formOut_ok {s : ByteArray} {x y : Int} {l : List (Nat × Int)} (w : World) (h : parse s = .inr (x, y, l)) : FormOut s w = FormOk w (capP x) (capP y) l := by
  funext e w'; unfold FormOut; rw [h]

theorem readForm_any (s : ByteArray) (w : World) (hs : s.size ≤ 1500) : Calls Tryz.prog 90 #[.string s] w (FormOut s w) := by
  cases h1 : numTok s (bl s 0) with
  | none => rw [formOut_bad w (i := bl s 0) (by simp [parse, h1])]; exact readForm_x s w hs h1
  | some p =>
    obtain ⟨x, j⟩ := p
    by_cases h2 : bl s j = j
    · rw [formOut_bad w (i := j) (by simp [parse, h1, h2])]; exact readForm_gap s w hs x j h1 h2
    · cases h3 : numTok s (bl s j) with
      | none => rw [formOut_bad w (i := bl s j) (by simp [parse, h1, h2, h3])]; exact readForm_y s w hs x j h1 h2 h3
      | some p =>
        obtain ⟨y, k⟩ := p
        cases h4 : runsAt s (bl s k) with
        | inl q => rw [formOut_bad w (i := q) (by simp [parse, h1, h2, h3, h4])]; exact readForm_runs s w hs x y j k q h1 h2 h3 h4
        | inr p =>
          obtain ⟨l, q⟩ := p
          by_cases h5 : bl s q < s.size
          · rw [formOut_bad w (i := bl s q) (by simp [parse, h1, h2, h3, h4, h5])]; exact readForm_end s w hs x y j k q l h1 h2 h3 h4 h5
          · rw [formOut_ok w (x := x) (y := y) (l := l) (by simp [parse, h1, h2, h3, h4, h5])]; exact readForm_ok s w hs x y j k q l h1 h2 h3 h4 h5

end Go.Proofs.YtiohpcnnpmnjhaaGreatDoor

namespace Go.Proofs.YtiohpcnnpmnjhaaGreatDoor
open Go.RowKit
set_option linter.unusedVariables false

/-- Too far out? -/
def farB (x y : Int) : Bool := decide (MC < x) || decide (MC < y) || decide (x < -MC) || decide (y < -MC)
/-- The span's first or last cell too far out? -/
def farS (s : Span) : Bool := farB s.1 s.2.1 || farB (s.1 + s.2.2 - 1) s.2.1

set_option maxHeartbeats 800000 in
theorem isFar_any (x y : Int) (w : World) :
    Calls Tryz.prog 91 #[.agg #[.int .i64 x, .int .i64 y]] w fun e w' => e = .returned (.bool (farB x y)) ∧ w' = w.alloc (.cells #[.int .i64 x, .int .i64 y] 113) := by
  by_cases h1 : y ≤ x
  · go_enter Tryz.func91, Tryz.ntmps91
    go_wp2
    all_goals
      go_ret
      exact ⟨ret_bool (by rw [Bool.eq_iff_iff]; simp [farB, MC]; omega), rfl⟩
  · go_enter Tryz.func91, Tryz.ntmps91
    go_wp2
    all_goals
      go_ret
      exact ⟨ret_bool (by rw [Bool.eq_iff_iff]; simp [farB, MC]; omega), rfl⟩

set_option maxHeartbeats 800000 in
theorem spanFar_any (x y n : Int) (w : World) (h1 : -3000000000000000000 ≤ x) (h2 : x ≤ 3000000000000000000) (h3 : 0 ≤ n) (h4 : n ≤ 9999) :
    Calls Tryz.prog 93 #[.agg #[.int .i64 x, .int .i64 y, .int .i64 n]] w fun e w' => e = .returned (.bool (farS (x, y, n))) ∧ Below w.heap.size w w' := by
  cases hf : farB x y with
  | true =>
    have hI := fun w => isFar_any x y w
    simp only [hf] at hI
    go_enter Tryz.func93, Tryz.ntmps93
    go_wp2_with (go_at_call 91; refine (hI _).mono ?_; rintro e w1 ⟨rfl, rfl⟩)
    go_ret
    exact ⟨ret_bool (by simp [farS, hf]), (((Below.refl _ _).alloc (Nat.le_refl _) _).alloc (by simp) _).alloc (by simp; omega) _⟩
  | false =>
    have hI := fun w => isFar_any x y w
    simp only [hf] at hI
    go_enter Tryz.func93, Tryz.ntmps93
    go_wp2_with (first
      | (go_at_call 91; refine (hI _).mono ?_; rintro e w1 ⟨rfl, rfl⟩; clear hI)
      | (go_at_call 91; refine (isFar_any (x + n - 1) y _).mono ?_; rintro e w2 ⟨rfl, rfl⟩))
    go_ret
    exact ⟨ret_bool (by simp [farS, hf]), ((((Below.refl _ _).alloc (Nat.le_refl _) _).alloc (by simp) _).alloc (by simp; omega) _).alloc (by simp; omega) _⟩

theorem flat_get : ∀ (sp : List Span) (k : Nat) (s : Span), sp[k]? = some s → (flat sp)[k * 3]? = some (.int .i64 s.1) ∧ (flat sp)[k * 3 + 1]? = some (.int .i64 s.2.1) ∧ (flat sp)[k * 3 + 2]? = some (.int .i64 s.2.2)
  | [], k, s, h => by simp at h
  | (x, y, n) :: r, 0, s, h => by simp at h; subst h; simp [flat]
  | (x, y, n) :: r, k + 1, s, h => by
    have := flat_get r k s (by simpa using h)
    simpa [flat, show (k + 1) * 3 = k * 3 + 1 + 1 + 1 by omega] using this

/-- The spans lie in block g. -/
structure SpansAt (w : World) (g : Nat) (sp : List Span) : Prop where
  at_ : ∀ j u, (flat sp)[j]? = some u → w.cell? ⟨g, j, none⟩ = some u

theorem SpansAt.below {w w' : World} {g B : Nat} {sp : List Span} (h : SpansAt w g sp) (hb : Below B w w') (hg : g < B) : SpansAt w' g sp :=
  ⟨fun j u hu => (hb.cell (p := ⟨g, j, none⟩) hg).trans (h.at_ j u hu)⟩
theorem SpansAt.get {w : World} {g : Nat} {sp : List Span} (h : SpansAt w g sp) (k : Nat) (s : Span) (hs : sp[k]? = some s) :
    w.cell? ⟨g, k * 3, none⟩ = some (.int .i64 s.1) ∧ w.cell? ⟨g, k * 3 + 1, none⟩ = some (.int .i64 s.2.1) ∧ w.cell? ⟨g, k * 3 + 2, none⟩ = some (.int .i64 s.2.2) := by
  obtain ⟨h1, h2, h3⟩ := flat_get sp k s hs
  exact ⟨h.at_ _ _ h1, h.at_ _ _ h2, h.at_ _ _ h3⟩

/-- The two makes of a list of spans. -/
theorem spans_cases {w : World} {B : Nat} {t : TypeId} {v : Value} {sp : List Span} (h : w.ownsRow B t 3 v sp.length (flat sp)) :
    (v = .slice none 0 0 ∧ sp = []) ∨ ∃ g cap, v = .slice (some ⟨g, 0, none⟩) sp.length cap ∧ SpansAt w g sp ∧ g < w.heap.size := by
  rcases h.2 with ⟨h1, h2⟩ | ⟨g, cap, cur, rfl, hg, hh, hn, hc, hz, ht⟩
  · exact .inl ⟨h1, List.eq_nil_of_length_eq_zero h2⟩
  · refine .inr ⟨g, cap, rfl, ⟨fun j u hu => ?_⟩, (Array.getElem?_eq_some_iff.1 hh).1⟩
    rw [← ht, List.getElem?_take] at hu
    split at hu
    · simpa [World.cell?, hh] using hu
    · cases hu

/-- What is known of a span's numbers. -/
def okSpan (s : Span) : Prop := -3000000000000000000 ≤ s.1 ∧ s.1 ≤ 3000000000000000000 ∧ 0 ≤ s.2.2 ∧ s.2.2 ≤ 9999

theorem any_take_succ {sp : List Span} {k : Nat} {s : Span} (h : sp[k]? = some s) : (sp.take (k + 1)).any farS = ((sp.take k).any farS || farS s) := by
  rw [List.take_add_one, h]; simp

set_option maxHeartbeats 800000 in
theorem indexFunc_row (g cap : Nat) (sp : List Span) (w : World) (h : SpansAt w g sp) (hg : g < w.heap.size) (hl : sp.length ≤ 1500) (hb : ∀ s ∈ sp, okSpan s) :
    Calls Tryz.prog 120 #[.slice (some ⟨g, 0, none⟩) sp.length cap, .func (.func 93) #[] #[]] w fun e w' => (∃ r : Int, e = .returned (.int .i64 r) ∧ decide (0 ≤ r) = sp.any farS) ∧ Below w.heap.size w w' := by
  go_enter Tryz.func120, Tryz.ntmps120
  go_wp2
  go_loopw [8] (fun i wr => ∃ k : Nat, k ≤ sp.length ∧ i = .int .i64 k ∧ Hid ((sp.take k).any farS = false) ∧ Below w.heap.size w wr) (fun i _ => sp.length - (intOf i).toNat)
  case atStart => exact ⟨0, Nat.zero_le _, rfl, by simp [Hid], Below.refl _ _⟩
  case round =>
    obtain ⟨k, hk, rfl, hr, hbw⟩ := hrel
    by_cases hlt : k < sp.length
    · obtain ⟨⟨x, y, n⟩, hs⟩ : ∃ s, sp[k]? = some s := ⟨sp[k], by simp [hlt]⟩
      obtain ⟨e0, e1, e2⟩ := (h.below hbw hg).get k _ hs
      obtain ⟨b1, b2, b3, b4⟩ := hb (x, y, n) (List.mem_of_getElem? hs)
      simp only at e0 e1 e2 b1 b2 b3 b4
      have hA := any_take_succ hs
      have hF := fun w => spanFar_any x y n w b1 b2 b3 b4
      have hm := List.mem_of_getElem? hs
      cases hf : farS (x, y, n) with
      | true =>
        have HA : Hid (sp.any farS = true) := List.any_eq_true.2 ⟨_, hm, hf⟩
        simp only [hf] at hF
        clear hA hs hm
        go_wp2_with (go_at_call 93; refine (hF _).mono ?_; rintro e w1 ⟨rfl, hb1⟩)
        go_ret
        exact ⟨⟨_, rfl, by rw [HA.out]; simp⟩, hbw.trans (hb1.mono hbw.size)⟩
      | false =>
        simp only [hf] at hF
        rw [hf, hr.out] at hA
        have HA : Hid ((sp.take (k + 1)).any farS = false) := hA
        clear hA hs hm
        go_wp2_with (go_at_call 93; refine (hF _).mono ?_; rintro e w1 ⟨rfl, hb1⟩)
        go_roundw
        case rel => exact ⟨k + 1, by omega, by go_num, HA.out, hbw.trans (hb1.mono hbw.size)⟩
        case measure => simp [intOf]; omega
    · have HA : Hid (sp.any farS = false) := by have := hr.out; rwa [List.take_of_length_le (by omega)] at this
      go_wp2
      go_ret
      exact ⟨⟨_, rfl, by rw [HA.out]; simp⟩, hbw⟩

set_option maxHeartbeats 800000 in
theorem indexFunc_nil (w : World) :
    Calls Tryz.prog 120 #[.slice none 0 0, .func (.func 93) #[] #[]] w fun e w' => e = .returned (.int .i64 (-1)) ∧ w' = w := by
  go_enter Tryz.func120, Tryz.ntmps120
  go_wp2
  refine wp_loop_rounds 1 ?_
  rw [rounds_succ]
  go_wp2
  go_ret
  exact ⟨rfl, rfl⟩

set_option maxHeartbeats 800000 in
theorem containsFunc_any (B : Nat) (v : Value) (sp : List Span) (w : World) (h : w.ownsRow B 121 3 v sp.length (flat sp)) (hl : sp.length ≤ 1500) (hb : ∀ s ∈ sp, okSpan s) :
    Calls Tryz.prog 92 #[v, .func (.func 93) #[] #[]] w fun e w' => e = .returned (.bool (sp.any farS)) ∧ Below w.heap.size w w' := by
  rcases spans_cases h with ⟨rfl, rfl⟩ | ⟨g, cap, rfl, hS, hg⟩
  · go_enter Tryz.func92, Tryz.ntmps92
    go_wp2_with (go_at_call 120; refine (indexFunc_nil _).mono ?_; rintro e w1 ⟨rfl, rfl⟩)
    go_ret
    exact ⟨rfl, Below.refl _ _⟩
  · go_enter Tryz.func92, Tryz.ntmps92
    go_wp2_with (go_at_call 120; refine (indexFunc_row g cap sp _ hS hg hl hb).mono ?_; rintro e w1 ⟨⟨r, rfl, hr⟩, hb1⟩)
    go_ret
    exact ⟨rfl, hb1⟩

/-- How many cells live. -/
def total (sp : List Span) : Int := (sp.map (·.2.2)).sum
theorem total_snoc (a : List Span) (s : Span) : total (a ++ [s]) = total a + s.2.2 := by simp [total]
theorem total_bd : ∀ (sp : List Span), (∀ s ∈ sp, okSpan s) → 0 ≤ total sp ∧ total sp ≤ 9999 * (sp.length : Int)
  | [], _ => by simp [total]
  | s :: r, h => by
    have h1 := total_bd r (fun x hx => h x (by simp [hx]))
    have h2 := h s (by simp)
    obtain ⟨_, _, h3, h4⟩ := h2
    simp [total] at h1 ⊢
    omega

set_option maxHeartbeats 800000 in
theorem countCells_row (g cap : Nat) (sp : List Span) (w : World) (h : SpansAt w g sp) (hg : g < w.heap.size) (hl : sp.length ≤ 1500) (hb : ∀ s ∈ sp, okSpan s) :
    Calls Tryz.prog 94 #[.slice (some ⟨g, 0, none⟩) sp.length cap] w fun e w' => e = .returned (.int .i64 (total sp)) ∧ Below w.heap.size w w' := by
  go_enter Tryz.func94, Tryz.ntmps94
  go_wp2
  go_loopw [3, 8] (fun t i wr => ∃ k : Nat, k ≤ sp.length ∧ i = .int .i64 k ∧ t = .int .i64 (total (sp.take k)) ∧ Below w.heap.size w wr) (fun _ i _ => sp.length - (intOf i).toNat)
  case atStart => exact ⟨0, Nat.zero_le _, rfl, rfl, Below.refl _ _⟩
  case round =>
    obtain ⟨k, hk, rfl, rfl, hbw⟩ := hrel
    by_cases hlt : k < sp.length
    · obtain ⟨⟨x, y, n⟩, hs⟩ : ∃ s, sp[k]? = some s := ⟨sp[k], by simp [hlt]⟩
      obtain ⟨e0, e1, e2⟩ := (h.below hbw hg).get k _ hs
      obtain ⟨b1, b2, b3, b4⟩ := hb (x, y, n) (List.mem_of_getElem? hs)
      simp only at e0 e1 e2 b1 b2 b3 b4
      have hT : total (sp.take (k + 1)) = total (sp.take k) + n := by rw [List.take_add_one, hs]; exact total_snoc _ _
      have hB := total_bd (sp.take k) (fun s hs => hb s (List.mem_of_mem_take hs))
      have hL : (sp.take k).length ≤ k := List.length_take_le _ _
      have hB2 : total (sp.take k) ≤ 15000000 := by omega
      have hB1 := hB.1
      have HT : Hid (total (sp.take (k + 1)) = total (sp.take k) + n) := hT
      clear hT hs hL hB
      go_wp2
      go_roundw
      case rel => exact ⟨k + 1, by omega, by go_num, by rw [HT.out], hbw.alloc hbw.size _⟩
      case measure => simp [intOf]; omega
    · have hk' : k = sp.length := by omega
      subst hk'
      go_wp2
      go_ret
      exact ⟨by simp, hbw⟩

set_option maxHeartbeats 800000 in
theorem countCells_any (B : Nat) (v : Value) (sp : List Span) (w : World) (h : w.ownsRow B 121 3 v sp.length (flat sp)) (hl : sp.length ≤ 1500) (hb : ∀ s ∈ sp, okSpan s) :
    Calls Tryz.prog 94 #[v] w fun e w' => e = .returned (.int .i64 (total sp)) ∧ Below w.heap.size w w' := by
  rcases spans_cases h with ⟨rfl, rfl⟩ | ⟨g, cap, rfl, hS, hg⟩
  · go_enter Tryz.func94, Tryz.ntmps94
    go_wp2
    refine wp_loop_rounds 1 ?_
    rw [rounds_succ]
    go_wp2
    go_ret
    exact ⟨rfl, Below.refl _ _⟩
  · exact countCells_row g cap sp w hS hg hl hb

end Go.Proofs.YtiohpcnnpmnjhaaGreatDoor

namespace Go.Proofs.YtiohpcnnpmnjhaaGreatDoor
open Go.RowKit
set_option linter.unusedVariables false

/-- The cells of a span. -/
def runCells (x y : Int) (n : Nat) : List Cel := (List.range n).map fun i : Nat => (x + (i : Int), y)
theorem runCells_succ (x y : Int) (n : Nat) : runCells x y (n + 1) = runCells x y n ++ [(x + (n : Int), y)] := by simp [runCells, List.range_succ]
theorem runCells_length (x y : Int) (n : Nat) : (runCells x y n).length = n := by simp [runCells]
def spanCells (s : Span) : List Cel := runCells s.1 s.2.1 s.2.2.toNat
/-- The cells of spans. -/
def cellsOf (sp : List Span) : List Cel := sp.flatMap spanCells
theorem cellsOf_snoc (a : List Span) (s : Span) : cellsOf (a ++ [s]) = cellsOf a ++ spanCells s := by simp [cellsOf]
theorem cellsOf_length : ∀ (sp : List Span), (∀ s ∈ sp, okSpan s) → ((cellsOf sp).length : Int) = total sp
  | [], _ => by simp [cellsOf, total]
  | s :: r, h => by
    have h1 := cellsOf_length r (fun x hx => h x (by simp [hx]))
    obtain ⟨_, _, h3, h4⟩ := h s (by simp)
    simp [cellsOf, total, spanCells, runCells] at h1 ⊢
    omega

theorem infoCell : (Tryz.prog.info? 113).map (fun i => (i.zero, i.size, i.bytes)) = some (some (.agg #[.int .i64 0, .int .i64 0]), 2, 16) := by kernel_rfl

set_option maxHeartbeats 1600000 in
theorem cellsOf_row (g cap : Nat) (sp : List Span) (w : World) (h : SpansAt w g sp) (hg : g < w.heap.size) (hl : sp.length ≤ 1500) (hb : ∀ s ∈ sp, okSpan s) (ht : total sp ≤ 15000000) :
    Calls Tryz.prog 95 #[.slice (some ⟨g, 0, none⟩) sp.length cap] w fun e w' => (∃ v, e = .returned v ∧ w'.ownsRow w.heap.size 113 2 v (cellsOf sp).length (flatC (cellsOf sp))) ∧ Below w.heap.size w w' := by
  obtain ⟨i0, hi, hz0, hz1, hz2⟩ := info_parts infoCell
  go_enter Tryz.func95, Tryz.ntmps95
  go_wp2
  go_loopw [3, 9] (fun v i wr => ∃ k : Nat, k ≤ sp.length ∧ i = .int .i64 k ∧ wr.ownsRow w.heap.size 113 2 v (cellsOf (sp.take k)).length (flatC (cellsOf (sp.take k))) ∧ Below w.heap.size w wr) (fun _ i _ => sp.length - (intOf i).toNat)
  case atStart => exact ⟨0, Nat.zero_le _, rfl, World.ownsRow_nil _ _ _ _, Below.refl _ _⟩
  case round =>
    obtain ⟨k, hk, rfl, own, hbw⟩ := hrel
    by_cases hlt : k < sp.length
    · obtain ⟨⟨x, y, n⟩, hs⟩ : ∃ s, sp[k]? = some s := ⟨sp[k], by simp [hlt]⟩
      obtain ⟨e0, e1, e2⟩ := (h.below hbw hg).get k _ hs
      obtain ⟨b1, b2, b3, b4⟩ := hb (x, y, n) (List.mem_of_getElem? hs)
      simp only at e0 e1 e2 b1 b2 b3 b4
      have hT : cellsOf (sp.take (k + 1)) = cellsOf (sp.take k) ++ spanCells (x, y, n) := by rw [List.take_add_one, hs]; exact cellsOf_snoc _ _
      have hB := cellsOf_length (sp.take k) (fun s hs => hb s (List.mem_of_mem_take hs))
      have hB' := total_bd (sp.take k) (fun s hs => hb s (List.mem_of_mem_take hs))
      have hL : (sp.take k).length ≤ k := List.length_take_le _ _
      have hC : (cellsOf (sp.take k)).length ≤ 15000000 := by omega
      obtain ⟨C, hCd⟩ : ∃ C, cellsOf (sp.take k) = C := ⟨_, rfl⟩
      rw [hCd] at own hT hC
      have HT : Hid (cellsOf (sp.take (k + 1)) = C ++ spanCells (x, y, n)) := hT
      clear hT hs hL hB hB' hCd
      obtain ⟨nn, rfl⟩ : ∃ nn : Nat, n = (nn : Int) := ⟨n.toNat, by omega⟩
      have hsz := hbw.size
      obtain ⟨sb, hsb⟩ : ∃ sb, wr.heap.size = sb := ⟨_, rfl⟩
      rw [hsb] at hsz
      go_wp2
      go_loopw [3, 15] (fun v i wy => ∃ j : Nat, j ≤ nn ∧ i = .int .i64 j ∧ wy.ownsRow w.heap.size 113 2 v (C.length + j) (flatC (C ++ runCells x y j)) ∧ Below w.heap.size w wy ∧ wy.heap[sb]? = some (.cells #[.int .i64 x, .int .i64 y, .int .i64 (nn : Int)] 121 (0, 0))) (fun _ i _ => nn - (intOf i).toNat)
      case atStart =>
        refine ⟨0, Nat.zero_le _, rfl, ?_, hbw.alloc (by omega) _, ?_⟩
        · simpa [runCells] using own.alloc _
        · rw [← hsb]; show (wr.heap.push _)[wr.heap.size]? = _; simp
      case round =>
        clear own
        obtain ⟨j, hj, rfl, own, hbw2, hh⟩ := hrel
        by_cases hlt2 : j < nn
        · have c0 : wr.cell? ⟨sb, 0, none⟩ = some (.int .i64 x) := by simp [World.cell?, hh]
          have c1 : wr.cell? ⟨sb, 1, none⟩ = some (.int .i64 y) := by simp [World.cell?, hh]
          have hsz2 := hbw2.size
          have sbl : sb < wr.heap.size := (Array.getElem?_eq_some_iff.1 hh).1
          go_wp2_with (at_builtin; refine wpList_append_own _ rfl _ _ 71 rfl w.heap.size 113 i0 (.agg #[.int .i64 0, .int .i64 0]) 2 16 Tryz.underlying71 hi hz0 hz1 hz2 rfl (by decide) _ _ _ rfl (own.alloc _) ⟨wr.heap.size, 0, none⟩ 1 1 [.int .i64 (x + (j : Int)), .int .i64 y] rfl rfl (cell_two_new _ _ _ _) (by simp [Value.oneCell']) (by unfold maxLen; omega) (by omega) (by simp; omega) ?_; intro v' w1 own1 hgr _)
          go_roundw
          case rel =>
            refine ⟨j + 1, by omega, by go_num, ?_, (hbw2.alloc (by omega) _).grown hgr (by simp; omega) (fun k hk => (own.lt k hk).1), other_kept (own.alloc _) hgr (by rw [Below.heap_alloc _ _ _ sbl]; exact hh) (by decide)⟩
            rw [runCells_succ, ← List.append_assoc, flatC_append]
            exact own1
          case measure => simp [intOf]; omega
        · have hj' : j = nn := by omega
          subst hj'
          have HO : Hid (wr.ownsRow w.heap.size 113 2 u3 (cellsOf (sp.take (k + 1))).length (flatC (cellsOf (sp.take (k + 1))))) := by
            show wr.ownsRow _ _ _ _ _ _
            rw [HT.out, List.length_append]
            simpa [spanCells, runCells_length] using own
          go_wp2
          go_roundw
          case rel => exact ⟨k + 1, by omega, by go_num, HO.out, hbw2⟩
          case measure => simp [intOf]; omega
    · have hk' : k = sp.length := by omega
      subst hk'
      rw [List.take_length] at own
      go_wp2
      go_ret
      exact ⟨⟨_, rfl, own⟩, hbw⟩

set_option maxHeartbeats 800000 in
theorem cellsOf_any (B : Nat) (v : Value) (sp : List Span) (w : World) (h : w.ownsRow B 121 3 v sp.length (flat sp)) (hl : sp.length ≤ 1500) (hb : ∀ s ∈ sp, okSpan s) :
    Calls Tryz.prog 95 #[v] w fun e w' => (∃ v, e = .returned v ∧ w'.ownsRow w.heap.size 113 2 v (cellsOf sp).length (flatC (cellsOf sp))) ∧ Below w.heap.size w w' := by
  rcases spans_cases h with ⟨rfl, rfl⟩ | ⟨g, cap, rfl, hS, hg⟩
  · go_enter Tryz.func95, Tryz.ntmps95
    go_wp2
    refine wp_loop_rounds 1 ?_
    rw [rounds_succ]
    go_wp2
    go_ret
    exact ⟨⟨_, rfl, World.ownsRow_nil _ _ _ _⟩, Below.refl _ _⟩
  · have := total_bd sp hb
    exact cellsOf_row g cap sp w hS hg hl hb (by omega)

end Go.Proofs.YtiohpcnnpmnjhaaGreatDoor

namespace Go.Proofs.YtiohpcnnpmnjhaaGreatDoor
open Go.RowKit
set_option linter.unusedVariables false

theorem dv_pos {s : ByteArray} {i : Nat} (h0 : ¬ pk s i = 48) (hd : isDg (pk s i) = true) : ∀ k, 0 < k → 1 ≤ dv s i k := by
  intro k
  induction k with
  | zero => intro h; omega
  | succ k ih =>
    intro _
    have hd' := isDg_iff.1 hd
    rw [dv]
    cases k with
    | zero => simp [dv]; omega
    | succ k => have := ih (by omega); omega

/-- What a run may be. -/
def okRun (r : Nat × Int) : Prop := 1 ≤ r.1 ∧ r.1 ≤ 9999 ∧ isLt r.2 = true

theorem cntTok_ok {s : ByteArray} {i n k : Nat} (hi : i ≤ s.size) (h : cntTok s i = some (n, k)) : 1 ≤ n ∧ n ≤ 9999 := by
  unfold cntTok at h
  split at h
  · rename_i hd
    split at h
    · cases h
    · rename_i hc
      simp only [Option.some.injEq, Prod.mk.injEq] at h
      obtain ⟨rfl, rfl⟩ := h
      have hlt := lt_of_pk (isDg_pos hd)
      have hg := dg_go hlt hd
      have hge := dg_le s (i + 1) (by omega)
      rw [← hg] at hge
      have h1 := dv_pos (fun e => hc (.inl e)) hd (dg s i - i) (by omega)
      have h2 := dv_lt s i (dg s i - i) (fun j hj => skip_all hi (by omega) (by show i + j < dg s i; omega))
      have h3 : 10 ^ (dg s i - i) ≤ 10000 := Nat.pow_le_pow_right (n := 10) (by omega) (by omega : dg s i - i ≤ 4)
      omega
  · simp only [Option.some.injEq, Prod.mk.injEq] at h
    omega

theorem runsF_ok (s : ByteArray) : ∀ (f i : Nat) (l : List (Nat × Int)) (e : Nat), i ≤ s.size → runsF s f i = .inr (l, e) → l.length ≤ f ∧ (∀ r ∈ l, okRun r) ∧ e ≤ s.size := by
  intro f
  induction f with
  | zero => intro i l e _ h; simp [runsF] at h
  | succ f ih =>
    intro i l e hi h
    rw [runsF] at h
    split at h
    · rename_i h33
      simp only [Sum.inr.injEq, Prod.mk.injEq] at h
      obtain ⟨rfl, rfl⟩ := h
      have := lt_of_pk (s := s) (i := i) (by omega)
      refine ⟨by simp, by simp, by omega⟩
    · split at h
      · cases h
      · rename_i n k hc
        split at h
        · rename_i hl
          have hk := lt_of_pk (isLt_pos hl)
          have hb := bl_le s (k + 1) (by omega)
          split at h
          · cases h
          · rename_i l' e' hr
            simp only [Sum.inr.injEq, Prod.mk.injEq] at h
            obtain ⟨rfl, rfl⟩ := h
            have h1 := ih (bl s (k + 1)) l' e' hb.2 hr
            have h2 := cntTok_ok hi hc
            refine ⟨by simp; omega, ?_, h1.2.2⟩
            intro r hr
            rcases List.mem_cons.1 hr with rfl | hr
            · exact ⟨h2.1, h2.2, hl⟩
            · exact h1.2.1 r hr
        · cases h

theorem parse_ok {s : ByteArray} {x y : Int} {l : List (Nat × Int)} (hs : s.size ≤ 1500) (h : parse s = .inr (x, y, l)) : l.length ≤ 1500 ∧ ∀ r ∈ l, okRun r := by
  unfold parse at h
  have l0 := bl_le s 0 (Nat.zero_le _)
  split at h
  · cases h
  · rename_i x' j h1
    have l1 := numTok_le l0.2 h1
    split at h
    · cases h
    · have l2 := bl_le s j l1.2
      split at h
      · cases h
      · rename_i y' k h3
        have l3 := numTok_le l2.2 h3
        have l4 := bl_le s k l3.2
        split at h
        · cases h
        · rename_i l' e h4
          split at h
          · cases h
          · simp only [Sum.inr.injEq, Prod.mk.injEq] at h
            obtain ⟨rfl, rfl, rfl⟩ := h
            have := runsF_ok s _ _ _ _ l4.2 h4
            exact ⟨by omega, this.2.1⟩

/-- How far the pen can have gone. -/
structure PenBd (x0 : Int) (st : Int × Int × List Span) (m : Nat) : Prop where
  x1 : -2000000000000000001 - 9999 * (m : Int) ≤ st.1
  x2 : st.1 ≤ 2000000000000000001 + 9999 * (m : Int)
  z1 : -2000000000000000001 ≤ x0
  z2 : x0 ≤ 2000000000000000001
  le : st.2.2.length ≤ m
  ok : ∀ s ∈ st.2.2, okSpan s

theorem penBd_go {x0 : Int} {st : Int × Int × List Span} {m : Nat} {r : Nat × Int} (h : PenBd x0 st m) (hr : okRun r) (hm : m ≤ 1500) : PenBd x0 (penGo x0 st r) (m + 1) := by
  obtain ⟨x1, x2, z1, z2, le, ok⟩ := h
  obtain ⟨r1, r2, r3⟩ := hr
  unfold penGo
  split
  · exact ⟨by simp; omega, by simp; omega, z1, z2, by simp; omega, ok⟩
  · split
    · refine ⟨by simp; omega, by simp; omega, z1, z2, by simp; omega, ?_⟩
      intro s hs
      simp at hs
      rcases hs with hs | rfl
      · exact ok s hs
      · exact ⟨by simp; omega, by simp; omega, by simp, by simp; omega⟩
    · exact ⟨by simp; omega, by simp; omega, z1, z2, by simp; omega, ok⟩

theorem penBd_fold {x0 : Int} : ∀ (l : List (Nat × Int)) (st : Int × Int × List Span) (m : Nat), PenBd x0 st m → (∀ r ∈ l, okRun r) → m + l.length ≤ 1500 → PenBd x0 (l.foldl (penGo x0) st) (m + l.length)
  | [], st, m, h, _, _ => h
  | r :: l, st, m, h, hl, hm => by
    simp at hm
    have := penBd_fold l (penGo x0 st r) (m + 1) (penBd_go h (hl r (by simp)) (by omega)) (fun q hq => hl q (by simp [hq])) (by omega)
    simpa [Nat.add_assoc, Nat.add_comm 1] using this

theorem penRun_bd {x y : Int} {l : List (Nat × Int)} (hx : -2000000000000000001 ≤ x ∧ x ≤ 2000000000000000001) (h : l.length ≤ 1500) (hl : ∀ r ∈ l, okRun r) : (penRun x y l).2.2.length ≤ 1500 ∧ ∀ s ∈ (penRun x y l).2.2, okSpan s := by
  have := penBd_fold l (x, y, []) 0 ⟨by simp; omega, by simp; omega, hx.1, hx.2, by simp, by simp⟩ hl (by omega)
  exact ⟨by have := this.le; unfold penRun; omega, this.ok⟩

theorem capP_far (x y : Int) : farB (capP x) (capP y) = farB x y := by
  rw [Bool.eq_iff_iff]
  unfold farB capP MC
  simp only [Bool.or_eq_true, decide_eq_true_eq]
  split <;> split <;> (try split) <;> (try split) <;> omega
theorem capP_near {x y : Int} (h : farB x y = false) : capP x = x ∧ capP y = y := by
  unfold farB MC at h
  simp at h
  unfold capP MC
  refine ⟨?_, ?_⟩
  · rw [if_neg (by omega), if_neg (by omega)]
  · rw [if_neg (by omega), if_neg (by omega)]

theorem ownsRow_below {w w' : World} {B : Nat} {e : TypeId} {m : Nat} {v : Value} {n : Nat} {xs : List Value} (h : w.ownsRow B e m v n xs) (hb : Below w.heap.size w w') : w'.ownsRow B e m v n xs := by
  obtain ⟨h1, h2⟩ := h
  refine ⟨h1, ?_⟩
  rcases h2 with h2 | ⟨g, cap, cur, hv, hg, hh, r⟩
  · exact .inl h2
  · exact .inr ⟨g, cap, cur, hv, hg, by rw [hb.block g (Array.getElem?_eq_some_iff.1 hh).1]; exact hh, r⟩

/-- The document's answer to a pattern's text: the error and its place, or the cells. -/
def patR (s : ByteArray) : (Int × Nat) ⊕ List Cel :=
  if 1500 < s.size then .inl (1, 0)
  else match parse s with
    | .inl i => .inl (2, i)
    | .inr (x, y, l) =>
      if farB x y || (penRun x y l).2.2.any farS then .inl (4, 0)
      else if 100 < total (penRun x y l).2.2 then .inl (5, 0)
      else .inr (cellsOf (penRun x y l).2.2)

/-- What readPattern does. -/
def PatOut (s : ByteArray) (w : World) (e : Ending) (w' : World) : Prop :=
  Below w.heap.size w w' ∧ match patR s with
    | .inl (k, i) => e = .panicked (refusal k i)
    | .inr C => ∃ v, e = .returned v ∧ w'.ownsRow w.heap.size 113 2 v C.length (flatC C)

set_option maxHeartbeats 800000 in
theorem readPattern_any (s : ByteArray) (w : World) (hm : s.size ≤ maxLen) : Calls Tryz.prog 64 #[.string s] w (PatOut s w) := by
  unfold maxLen at hm
  by_cases hs : 1500 < s.size
  · go_enter Tryz.func64, Tryz.ntmps64
    go_wp2_with (go_at_call 71; refine (giveUp_any _ _ _).mono ?_; rintro e w1 ⟨rfl, rfl⟩)
    exact ⟨rfl, Below.refl _ _, by simp [patR, hs]⟩
  have hs' : s.size ≤ 1500 := by omega
  have hF := readForm_any s w hs'
  cases hp : parse s with
  | inl i =>
    rw [formOut_bad w hp] at hF
    go_enter Tryz.func64, Tryz.ntmps64
    go_wp2_with (go_at_call 90; refine hF.mono ?_; rintro e w1 ⟨rfl, hb1⟩)
    exact ⟨rfl, hb1, by simp [patR, hs, hp]⟩
  | inr p =>
    obtain ⟨x, y, l⟩ := p
    rw [formOut_ok w hp] at hF
    obtain ⟨hl1, hl2⟩ := parse_ok hs' hp
    obtain ⟨hsl, hso⟩ := penRun_bd (y := capP y) (capP_bd x) hl1 hl2
    have hI := fun w => isFar_any (capP x) (capP y) w
    simp only [capP_far] at hI
    have hcp := capP_near (x := x) (y := y)
    obtain ⟨X, hX⟩ : ∃ X, capP x = X := ⟨_, rfl⟩
    obtain ⟨Y, hY⟩ : ∃ Y, capP y = Y := ⟨_, rfl⟩
    obtain ⟨sp, hsp⟩ : ∃ sp, (penRun X Y l).2.2 = sp := ⟨_, rfl⟩
    rw [hX, hY] at hF hsl hso
    simp only [hX, hY] at hI hcp
    rw [hsp] at hsl hso
    unfold FormOk at hF
    simp only [hsp] at hF
    clear hX hY
    cases hf : farB x y with
    | true =>
      simp only [hf] at hI
      go_enter Tryz.func64, Tryz.ntmps64
      go_wp2_with (first
        | (go_at_call 90; refine hF.mono ?_; rintro e w1 ⟨v, rfl, own, hb1⟩)
        | (go_at_call 91; refine (hI _).mono ?_; rintro e w2 ⟨rfl, rfl⟩)
        | (go_at_call 71; refine (giveUp_any _ _ _).mono ?_; rintro e w3 ⟨rfl, rfl⟩))
      exact ⟨rfl, (hb1.alloc hb1.size _).alloc (by have := hb1.size; simp; omega) _, by simp [patR, hs, hp, hf]⟩
    | false =>
      simp only [hf] at hI
      obtain ⟨rfl, rfl⟩ := hcp hf
      cases hfs : sp.any farS with
      | true =>
        have hC := fun v w2 (own : World.ownsRow w2 w.heap.size 121 3 v sp.length (flat sp)) => containsFunc_any w.heap.size v sp w2 own hsl hso
        simp only [hfs] at hC
        go_enter Tryz.func64, Tryz.ntmps64
        go_wp2_with (first
          | (go_at_call 90; refine hF.mono ?_; rintro e w1 ⟨v, rfl, own, hb1⟩)
          | (go_at_call 91; refine (hI _).mono ?_; rintro e w2 ⟨rfl, rfl⟩)
          | (go_at_call 92; refine (hC _ _ ((own.alloc _).alloc _)).mono ?_; rintro e w3 ⟨rfl, hb3⟩)
          | (go_at_call 71; refine (giveUp_any _ _ _).mono ?_; rintro e w3 ⟨rfl, rfl⟩))
        exact ⟨rfl, ((hb1.alloc hb1.size _).alloc (by have := hb1.size; simp; omega) _).trans (hb3.mono (by have := hb1.size; simp; omega)), by simp [patR, hs, hp, hf, hsp, hfs]⟩
      | false =>
        have hC := fun v w2 (own : World.ownsRow w2 w.heap.size 121 3 v sp.length (flat sp)) => containsFunc_any w.heap.size v sp w2 own hsl hso
        simp only [hfs] at hC
        by_cases ht : 100 < total sp
        · go_enter Tryz.func64, Tryz.ntmps64
          go_wp2_with (first
          | (go_at_call 90; refine hF.mono ?_; rintro e w1 ⟨v, rfl, own, hb1⟩)
          | (go_at_call 91; refine (hI _).mono ?_; rintro e w2 ⟨rfl, rfl⟩)
          | (go_at_call 92; have own2 := (own.alloc (.cells #[.int .i64 X, .int .i64 Y] 113)).alloc (.cells #[.int .i64 X, .int .i64 Y] 113); refine (hC _ _ own2).mono ?_; rintro e w3 ⟨rfl, hb3⟩; have own3 := ownsRow_below own2 hb3)
          | (go_at_call 94; refine (countCells_any w.heap.size _ sp _ own3 hsl hso).mono ?_; rintro e w4 ⟨rfl, hb4⟩; have own4 := ownsRow_below own3 hb4)
          | (go_at_call 71; refine (giveUp_any _ _ _).mono ?_; rintro e w5 ⟨rfl, rfl⟩))
          refine ⟨rfl, ?_, by simp [patR, hs, hp, hf, hsp, hfs, ht]⟩
          have b3 := ((hb1.alloc hb1.size _).alloc (by have := hb1.size; simp; omega) _).trans (hb3.mono (by have := hb1.size; simp; omega))
          exact b3.trans (hb4.mono b3.size)
        · go_enter Tryz.func64, Tryz.ntmps64
          go_wp2_with (first
          | (go_at_call 90; refine hF.mono ?_; rintro e w1 ⟨v, rfl, own, hb1⟩)
          | (go_at_call 91; refine (hI _).mono ?_; rintro e w2 ⟨rfl, rfl⟩)
          | (go_at_call 92; have own2 := (own.alloc (.cells #[.int .i64 X, .int .i64 Y] 113)).alloc (.cells #[.int .i64 X, .int .i64 Y] 113); refine (hC _ _ own2).mono ?_; rintro e w3 ⟨rfl, hb3⟩; have own3 := ownsRow_below own2 hb3)
          | (go_at_call 94; refine (countCells_any w.heap.size _ sp _ own3 hsl hso).mono ?_; rintro e w4 ⟨rfl, hb4⟩; have own4 := ownsRow_below own3 hb4)
          | (go_at_call 95; refine (cellsOf_any w.heap.size _ sp _ own4 hsl hso).mono ?_; rintro e w5 ⟨⟨v5, rfl, own5⟩, hb5⟩))
          go_ret
          have b3 := ((hb1.alloc hb1.size _).alloc (by have := hb1.size; simp; omega) _).trans (hb3.mono (by have := hb1.size; simp; omega))
          have b4 := b3.trans (hb4.mono b3.size)
          have hpt : patR s = .inr (cellsOf sp) := by simp [patR, hs, hp, hf, hsp, hfs, ht]
          unfold PatOut
          rw [hpt]
          exact ⟨b4.trans (hb5.mono b4.size), v5, rfl, ownsRow_mono own5 b4.size⟩

/-- Where a pattern's cells may lie. -/
def inWin (X0 Y0 : Int) (c : Cel) : Prop := X0 ≤ c.1 ∧ c.1 ≤ X0 + 20000000 ∧ Y0 ≤ c.2 ∧ c.2 ≤ Y0 + 20000000

end Go.Proofs.YtiohpcnnpmnjhaaGreatDoor

namespace Go.Proofs.YtiohpcnnpmnjhaaGreatDoor
open Go.RowKit
set_option linter.unusedVariables false

/-- Where the pen is, and what it has drawn. -/
structure PenWin (x0 y0 : Int) (st : Int × Int × List Span) (m : Nat) : Prop where
  a1 : x0 ≤ st.1
  a2 : st.1 ≤ x0 + 9999 * (m : Int)
  b1 : y0 ≤ st.2.1
  b2 : st.2.1 ≤ y0 + 9999 * (m : Int)
  win : ∀ c ∈ cellsOf st.2.2, x0 ≤ c.1 ∧ c.1 ≤ x0 + 9999 * (m : Int) ∧ y0 ≤ c.2 ∧ c.2 ≤ y0 + 9999 * (m : Int)
  bef : ∀ c ∈ cellsOf st.2.2, before c (st.1, st.2.1)
  asc : Asc (cellsOf st.2.2)

theorem mem_runCells {x y : Int} {n : Nat} {c : Cel} (h : c ∈ runCells x y n) : x ≤ c.1 ∧ c.1 < x + (n : Int) ∧ c.2 = y := by
  unfold runCells at h
  rw [List.mem_map] at h
  obtain ⟨i, hi, rfl⟩ := h
  rw [List.mem_range] at hi
  refine ⟨?_, ?_, rfl⟩ <;> simp only <;> omega
theorem asc_runCells (x y : Int) (n : Nat) : Asc (runCells x y n) := by
  unfold Asc runCells
  rw [List.pairwise_map]
  exact List.pairwise_lt_range.imp fun {a b} h => .inr ⟨rfl, by simp only; omega⟩

theorem penWin_go {x0 y0 : Int} {st : Int × Int × List Span} {m : Nat} {r : Nat × Int} (h : PenWin x0 y0 st m) (hr : okRun r) : PenWin x0 y0 (penGo x0 st r) (m + 1) := by
  obtain ⟨a1, a2, b1, b2, win, bef, asc⟩ := h
  obtain ⟨r1, r2, r3⟩ := hr
  have win' : ∀ c ∈ cellsOf st.2.2, x0 ≤ c.1 ∧ c.1 ≤ x0 + 9999 * ((m + 1 : Nat) : Int) ∧ y0 ≤ c.2 ∧ c.2 ≤ y0 + 9999 * ((m + 1 : Nat) : Int) := fun c hc => by
    obtain ⟨h1, h2, h3, h4⟩ := win c hc
    omega
  unfold penGo
  split
  · refine ⟨by simp only; omega, by simp only; omega, by simp only; omega, by simp only; omega, win', fun c hc => .inl ?_, asc⟩
    rcases bef c hc with h | ⟨h, _⟩ <;> simp only at h ⊢ <;> omega
  · split
    · refine ⟨by simp only; omega, by simp only; omega, by simp only; omega, by simp only; omega, ?_, ?_, ?_⟩
      · simp only [cellsOf_snoc]
        intro c hc
        rcases List.mem_append.1 hc with hc | hc
        · exact win' c hc
        · have := mem_runCells hc
          simp only [Int.toNat_natCast] at this
          omega
      · simp only [cellsOf_snoc]
        intro c hc
        rcases List.mem_append.1 hc with hc | hc
        · rcases bef c hc with h | ⟨h, h'⟩
          · exact .inl h
          · exact .inr ⟨h, by simp only at h' ⊢; omega⟩
        · have := mem_runCells hc
          simp only [Int.toNat_natCast] at this
          exact .inr ⟨this.2.2, this.2.1⟩
      · simp only [cellsOf_snoc]
        refine List.pairwise_append.2 ⟨asc, asc_runCells _ _ _, fun a ha b hb => ?_⟩
        have := mem_runCells hb
        simp only at this
        rcases bef a ha with h | ⟨h, h'⟩
        · exact .inl (by simp only at h; omega)
        · exact .inr (by simp only at h h'; omega)
    · refine ⟨by simp only; omega, by simp only; omega, b1, by simp only; omega, win', fun c hc => ?_, asc⟩
      rcases bef c hc with h | ⟨h, h'⟩
      · exact .inl h
      · exact .inr ⟨h, by simp only at h' ⊢; omega⟩

theorem penWin_fold {x0 y0 : Int} : ∀ (l : List (Nat × Int)) (st : Int × Int × List Span) (m : Nat), PenWin x0 y0 st m → (∀ r ∈ l, okRun r) → PenWin x0 y0 (l.foldl (penGo x0) st) (m + l.length)
  | [], st, m, h, _ => h
  | r :: l, st, m, h, hl => by
    have := penWin_fold l (penGo x0 st r) (m + 1) (penWin_go h (hl r (by simp))) (fun q hq => hl q (by simp [hq]))
    simpa [Nat.add_assoc, Nat.add_comm 1] using this
theorem penWin_run {x y : Int} {l : List (Nat × Int)} (hl : ∀ r ∈ l, okRun r) : PenWin x y (penRun x y l) l.length := by
  have := penWin_fold (x0 := x) (y0 := y) l (x, y, []) 0 ⟨by simp, by simp, by simp, by simp, by simp [cellsOf], by simp [cellsOf], by simp [cellsOf, Asc]⟩ hl
  rwa [Nat.zero_add] at this

theorem minX_le : ∀ (C : List Cel) (x : Int), minX x C ≤ x
  | [], x => by simp [minX]
  | c :: r, x => by
    have := minX_le r (min x c.1)
    simp only [minX, List.foldl_cons] at this ⊢
    omega
theorem minX_all : ∀ (C : List Cel) (x : Int), ∀ c ∈ C, minX x C ≤ c.1
  | [], x, c, hc => by simp at hc
  | d :: r, x, c, hc => by
    rcases List.mem_cons.1 hc with rfl | hc
    · have := minX_le r (min x c.1)
      simp only [minX, List.foldl_cons] at this ⊢
      omega
    · have := minX_all r (min x d.1) c hc
      simpa [minX] using this
theorem minX_ge {a : Int} : ∀ (C : List Cel) (x : Int), a ≤ x → (∀ c ∈ C, a ≤ c.1) → a ≤ minX x C
  | [], x, h, _ => by simpa [minX] using h
  | d :: r, x, h, hc => by
    have h1 := hc d (by simp)
    have := minX_ge r (min x d.1) (by omega) (fun c h => hc c (by simp [h]))
    simpa [minX] using this

/-- What readPattern's cells are like. -/
structure Fine (C : List Cel) (X0 Y0 : Int) : Prop where
  x1 : -2000000000000000000 ≤ X0
  x2 : X0 ≤ 2000000000000000000
  y1 : -2000000000000000000 ≤ Y0
  y2 : Y0 ≤ 2000000000000000000
  len : C.length ≤ 100
  win : ∀ c ∈ C, inWin X0 Y0 c
  asc : Asc C

theorem Fine.corn {C : List Cel} {X0 Y0 : Int} (h : Fine C X0 Y0) : inWin X0 Y0 (cornP C) ∨ C = [] := by
  cases C with
  | nil => exact .inr rfl
  | cons c r =>
    obtain ⟨x, y⟩ := c
    have h1 := h.win (x, y) (by simp)
    obtain ⟨g1, g2, g3, g4⟩ := h1
    refine .inl ⟨?_, ?_, g3, g4⟩
    · exact minX_ge _ _ g1 (fun c hc => (h.win c hc).1)
    · exact Int.le_trans (minX_le _ _) g2

theorem patR_fine {s : ByteArray} {C : List Cel} (h : patR s = .inr C) : ∃ X0 Y0, Fine C X0 Y0 := by
  unfold patR at h
  split at h
  · cases h
  rename_i hs
  split at h
  · cases h
  rename_i x y l hp
  split at h
  · cases h
  rename_i hf
  split at h
  · cases h
  rename_i ht
  cases h
  obtain ⟨hl, hr⟩ := parse_ok (by omega) hp
  simp only [Bool.or_eq_true, not_or, Bool.not_eq_true] at hf
  have hb := hf.1
  simp only [farB, MC, Bool.or_eq_false_iff, decide_eq_false_iff_not] at hb
  have hbd := penRun_bd (x := x) (y := y) (l := l) (by omega) hl hr
  have hw := penWin_run (x := x) (y := y) hr
  have hcl := cellsOf_length _ hbd.2
  refine ⟨x, y, ⟨by omega, by omega, by omega, by omega, by omega, fun c hc => ?_, hw.asc⟩⟩
  obtain ⟨w1, w2, w3, w4⟩ := hw.win c hc
  exact ⟨w1, by omega, w3, by omega⟩

end Go.Proofs.YtiohpcnnpmnjhaaGreatDoor
