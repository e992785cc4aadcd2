import Derived.Test.YtiohpcnnpmnjhaaDoorPen
import Derived.Deep.LoopGhost
namespace Go.Proofs.YtiohpcnnpmnjhaaDoor
open Go.RowKit
set_option linter.unusedVariables false

/-- One run: the pen goes on. -/
def penGo (x0 : Int) (st : Int × Int × List Span) (r : Nat × Int) : Int × Int × List Span :=
  if r.2 = 36 then (x0, st.2.1 + r.1, st.2.2)
  else if r.2 = 111 then (st.1 + r.1, st.2.1, st.2.2 ++ [(st.1, st.2.1, (r.1 : Int))])
  else (st.1 + r.1, st.2.1, st.2.2)
/-- All runs. -/
def penRun (x0 y0 : Int) (acc : List (Nat × Int)) : Int × Int × List Span := acc.foldl (penGo x0) (x0, y0, [])
theorem penRun_snoc (x0 y0 : Int) (acc : List (Nat × Int)) (r : Nat × Int) : penRun x0 y0 (acc ++ [r]) = penGo x0 (penRun x0 y0 acc) r := by simp [penRun]

/-- Nothing below block number B has turned but blocks b and p. -/
structure Two (b p B : Nat) (w w' : World) : Prop where
  os : w'.os = w.os
  tape : w'.tape = w.tape
  output : w'.output = w.output
  size : w.heap.size ≤ w'.heap.size
  block : ∀ k, k < B → k ≠ b → k ≠ p → w'.heap[k]? = w.heap[k]?
theorem Two.refl (b p B : Nat) (w : World) : Two b p B w w := ⟨rfl, rfl, rfl, Nat.le_refl _, fun _ _ _ _ => rfl⟩
theorem Two.trans {b p B : Nat} {x y z : World} (h : Two b p B x y) (k : Two b p B y z) : Two b p B x z :=
  ⟨k.os.trans h.os, k.tape.trans h.tape, k.output.trans h.output, Nat.le_trans h.size k.size, fun i hi hb hp => (k.block i hi hb hp).trans (h.block i hi hb hp)⟩
theorem Near.two {b : Nat} {x y : World} (h : Near b x y) (p B : Nat) : Two b p B x y := ⟨h.os, h.tape, h.output, Nat.le_of_eq h.size.symm, fun k _ hb _ => h.block k hb⟩
theorem Pad.two {p B : Nat} {x y : World} (h : Pad p B x y) (b : Nat) : Two b p B x y := ⟨h.os, h.tape, h.output, h.size, fun k hk _ hp => h.block k hk hp⟩
theorem Two.below {b p B C : Nat} {x y : World} (h : Two b p B x y) (h1 : C ≤ b) (h2 : C ≤ p) (h3 : C ≤ B) : Below C x y := ⟨h.os, h.tape, h.output, h.size, fun k hk => h.block k (by omega) (by omega) (by omega)⟩

theorem At.pad {w w' : World} {b p B : Nat} {s : ByteArray} {k : Int} {i : Nat} (h : At w b s k i) (hp : Pad p B w w') (hb : b < B) (hbp : b ≠ p) : At w' b s k i :=
  ⟨(hp.cell (q := ⟨b, 0, none⟩) hb hbp).trans h.c0, (hp.cell (q := ⟨b, 1, none⟩) hb hbp).trans h.c1, (hp.cell (q := ⟨b, 2, none⟩) hb hbp).trans h.c2, (hp.frozen (q := ⟨b, 1, none⟩) hb hbp).trans h.fz⟩

theorem ownsRow_of_block {w w' : World} {B : Nat} {e : TypeId} {m : Nat} {v : Value} {n : Nat} {xs : List Value} (h : w.ownsRow B e m v n xs) (hb : ∀ k, B ≤ k → w'.heap[k]? = w.heap[k]?) : w'.ownsRow B e m v n xs := by
  obtain ⟨h1, h2⟩ := h
  refine ⟨h1, ?_⟩
  rcases h2 with h2 | ⟨g, cap, cur, hv, hg, hh, r⟩
  · exact .inl h2
  · exact .inr ⟨g, cap, cur, hv, hg, by rw [hb g hg]; exact hh, r⟩

theorem PenAt.near {w w' : World} {b p B : Nat} {x0 y0 ax ay : Int} {sp : List Span} (h : PenAt w p B x0 y0 ax ay sp) (hn : Near b w w') (hb : b < B) (hbp : b ≠ p) : PenAt w' p B x0 y0 ax ay sp := by
  obtain ⟨v, c4, own⟩ := h.c4
  have e : ∀ j, w'.cell? ⟨p, j, none⟩ = w.cell? ⟨p, j, none⟩ := fun j => hn.cell (p := ⟨p, j, none⟩) (fun e => hbp e.symm)
  exact ⟨(e 0).trans h.c0, (e 1).trans h.c1, (e 2).trans h.c2, (e 3).trans h.c3, ⟨v, (e 4).trans c4, ownsRow_of_block own (fun k hk => hn.block k (by omega))⟩,
    fun j => (hn.frozen (p := ⟨p, j, none⟩) (fun e => hbp e.symm)).trans (h.fz j), h.pB, by rw [hn.size]; exact h.Bw⟩
theorem PenAt.drewN {w : World} {p B : Nat} {x0 y0 ax ay : Int} {sp : List Span} (h : PenAt w p B x0 y0 ax ay sp) (n : Nat) : PenAt (w.drewN n) p B x0 y0 ax ay sp :=
  ⟨h.c0, h.c1, h.c2, h.c3, h.c4, h.fz, h.pB, h.Bw⟩

/-- The pen's block, as the runs so far have left it, and how far it may have gone. -/
structure PenOf (w : World) (p B : Nat) (x0 y0 : Int) (acc : List (Nat × Int)) : Prop where
  at_ : PenAt w p B x0 y0 (penRun x0 y0 acc).1 (penRun x0 y0 acc).2.1 (penRun x0 y0 acc).2.2
  x1 : -2000000000000000001 - 9999 * (acc.length : Int) ≤ (penRun x0 y0 acc).1
  x2 : (penRun x0 y0 acc).1 ≤ 2000000000000000001 + 9999 * (acc.length : Int)
  y1 : -2000000000000000001 - 9999 * (acc.length : Int) ≤ (penRun x0 y0 acc).2.1
  y2 : (penRun x0 y0 acc).2.1 ≤ 2000000000000000001 + 9999 * (acc.length : Int)
  z1 : -2000000000000000001 ≤ x0
  z2 : x0 ≤ 2000000000000000001
  le : (penRun x0 y0 acc).2.2.length ≤ acc.length

theorem PenOf.near {w w' : World} {b p B : Nat} {x0 y0 : Int} {acc : List (Nat × Int)} (h : PenOf w p B x0 y0 acc) (hn : Near b w w') (hb : b < B) (hbp : b ≠ p) : PenOf w' p B x0 y0 acc :=
  ⟨h.at_.near hn hb hbp, h.x1, h.x2, h.y1, h.y2, h.z1, h.z2, h.le⟩
theorem PenOf.drewN {w : World} {p B : Nat} {x0 y0 : Int} {acc : List (Nat × Int)} (h : PenOf w p B x0 y0 acc) (n : Nat) : PenOf (w.drewN n) p B x0 y0 acc :=
  ⟨h.at_.drewN n, h.x1, h.x2, h.y1, h.y2, h.z1, h.z2, h.le⟩

/-- One run is drawn. -/
theorem draw_any (w : World) (p B : Nat) (x0 y0 : Int) (acc : List (Nat × Int)) (n : Nat) (c : Int) (h : PenOf w p B x0 y0 acc) (hn : n ≤ 9999) (hc : isLt c = true) (hl : acc.length ≤ 1500) :
    Calls Tryd.prog 52 #[.pointer (some ⟨p, 0, none⟩), .int .i64 (n : Int), .int .u8 c] w fun e w' => e = .returned (.tuple #[]) ∧ PenOf w' p B x0 y0 (acc ++ [(n, c)]) ∧ Pad p B w w' := by
  obtain ⟨ha, x1, x2, y1, y2, z1, z2, le⟩ := h
  have hcs : c = 98 ∨ c = 111 ∨ c = 36 := by unfold isLt at hc; simpa [or_assoc] using hc
  have hps := penRun_snoc x0 y0 acc (n, c)
  obtain ⟨⟨ax, ay, sp⟩, hP⟩ : ∃ P, penRun x0 y0 acc = P := ⟨_, rfl⟩
  rw [hP] at ha x1 x2 y1 y2 le hps
  simp only at ha x1 x2 y1 y2 le
  rcases hcs with rfl | rfl | rfl
  · refine (draw_b w p B x0 y0 ax ay sp n ha (by omega) (by omega) (by omega) (by omega)).mono ?_
    rintro e w' ⟨rfl, h1, h2⟩
    refine ⟨rfl, ?_, h2⟩
    simp [penGo] at hps
    constructor <;> first | assumption | (rw [hps]; first | exact h1 | (simp; omega))
  · refine (draw_o w p B x0 y0 ax ay sp n ha (by omega) (by omega) (by omega) (by omega) (by omega)).mono ?_
    rintro e w' ⟨rfl, h1, h2⟩
    refine ⟨rfl, ?_, h2⟩
    simp [penGo] at hps
    constructor <;> first | assumption | (rw [hps]; first | exact h1 | (simp; omega))
  · refine (draw_d w p B x0 y0 ax ay sp n ha (by omega) (by omega) (by omega) (by omega)).mono ?_
    rintro e w' ⟨rfl, h1, h2⟩
    refine ⟨rfl, ?_, h2⟩
    simp [penGo] at hps
    constructor <;> first | assumption | (rw [hps]; first | exact h1 | (simp; omega))

/-- What readRuns does: it is refused, or the runs are drawn. -/
def RunsOut (b p B : Nat) (s : ByteArray) (k : Int) (x0 y0 : Int) (r : Nat ⊕ (List (Nat × Int) × Nat)) (w : World) (e : Ending) (w' : World) : Prop :=
  Two b p B w w' ∧ match r with
    | .inl i => e = .panicked (refusal k i)
    | .inr (l, i) => e = .returned (.tuple #[]) ∧ At w' b s k i ∧ i ≤ s.size ∧ PenOf w' p B x0 y0 l

set_option maxHeartbeats 1600000 in
theorem readRuns_any (b p B : Nat) (s : ByteArray) (k : Int) (i0 : Nat) (x0 y0 : Int) (w : World) (h : At w b s k i0) (hi0 : i0 ≤ s.size) (hs : s.size ≤ 1500) (hp : PenOf w p B x0 y0 []) (hbB : b < B) (hbp : b ≠ p) :
    Calls Tryd.prog 39 #[.pointer (some ⟨b, 0, none⟩), .pointer (some ⟨p, 0, none⟩)] w (RunsOut b p B s k x0 y0 (runsAt s (bl s i0)) w) := by
  have hnot : ∀ (x : Bool) (w : World), (Op.unary .not (.bool x)).run Tryd.prog w = .ok (.bool (!x)) w := fun _ _ => rfl
  go_enter Tryd.func39, Tryd.ntmps39
  go_wp2
  go_loopg [] (s.size - i0) (fun g wr => ∃ (i : Nat) (acc : List (Nat × Int)), i ≤ s.size ∧ g = s.size - i ∧ acc.length ≤ i ∧ At wr b s k i ∧ PenOf wr p B x0 y0 acc ∧ Two b p B w wr ∧ Hid (runsAt s (bl s i0) = ahead acc (runsAt s (bl s i))))
  case atStart => exact ⟨i0, [], hi0, rfl, Nat.zero_le _, h, hp, Two.refl _ _ _ _, (ahead_nil _).symm⟩
  case round =>
    obtain ⟨i, acc, hi, rfl, hacc, ha, hpen, htwo, hr⟩ := hrel
    have hbl := bl_le s i hi
    have hT := takeBlanks_any b s k i wr ha hi hs
    have hrun := runsAt_eq s (bl s i) hbl.2
    obtain ⟨j, hj⟩ : ∃ j, bl s i = j := ⟨_, rfl⟩
    rw [hj] at hbl hT hrun
    have hr' := hr.out
    rw [hj] at hr'
    clear hr hj
    have hpb := pk_bd s j
    by_cases h33 : pk s j = 33
    · rw [if_pos h33] at hrun
      rw [hrun] at hr'
      have HR : Hid (runsAt s (bl s i0) = .inr (acc ++ [], j + 1)) := hr'
      clear hrun hr'
      have hlt := lt_of_pk (s := s) (i := j) (by omega)
      go_wp2_with (first
        | (go_at_call 36; refine hT.mono ?_; rintro e w1 ⟨rfl, a1, n1⟩; have d1 := a1.c1; have d3 := a1.fz)
        | (go_at_call 49; refine (peek_any b s k j _ a1 hbl.2 hs).mono ?_; rintro e w2 ⟨rfl, q2, rfl⟩))
      refine bodyPost_ret (results_none rfl _ _ _) rfl ?_
      show RunsOut b p B s k x0 y0 (runsAt s (bl s i0)) w _ _
      rw [HR.out, List.append_nil]
      exact ⟨htwo.trans ((((n1.drewN q2).setCell _ _)).two p B), rfl, (a1.drewN q2).step, by omega, hpen.near ((n1.drewN q2).setCell _ _) hbB hbp⟩
    · rw [if_neg h33] at hrun
      have h33' : (pk s j == 33) = false := by simpa using h33
      have hd := isDigit_any (pk s j) hpb.1 hpb.2
      cases hdg : isDg (pk s j) with
      | true =>
        rw [hdg] at hd
        by_cases hbad : pk s j = 48 ∨ 4 < dg s j - j
        · have hct : cntTok s j = none := by simp [cntTok, hdg, hbad]
          rw [hct] at hrun
          simp only at hrun
          rw [hrun] at hr'
          have HR : Hid (runsAt s (bl s i0) = .inl j) := hr'
          clear hrun hr' hct
          go_wp2_with (first
          | (go_at_call 36; refine hT.mono ?_; rintro e w1 ⟨rfl, a1, n1⟩; clear hT)
          | (go_at_call 49; refine (peek_any b s k j _ a1 hbl.2 hs).mono ?_; rintro e w2 ⟨rfl, q2, rfl⟩)
          | (go_at_call 50; refine (hd _).mono ?_; rintro e w3 ⟨rfl, rfl⟩)
          | (go_at_call 51; refine (readCount_bad b s k j _ (a1.drewN _) hbl.2 hs hdg hbad).mono ?_; rintro e w4 ⟨rfl, n4⟩))
          refine ⟨rfl, ?_⟩
          show RunsOut b p B s k x0 y0 (runsAt s (bl s i0)) w _ _
          rw [HR.out]
          exact ⟨htwo.trans (((n1.drewN _).trans n4).two p B), rfl⟩
        · have hct : cntTok s j = some (dv s j (dg s j - j), bl s (dg s j)) := by simp [cntTok, hdg, hbad]
          rw [hct] at hrun
          simp only at hrun
          have hdl := dg_le s j hbl.2
          have hbl2 := bl_le s (dg s j) hdl.2
          have hdv : dv s j (dg s j - j) < 10 ^ (dg s j - j) := dv_lt s j _ (fun q hq => skip_all hbl.2 (by omega) (by show j + q < dg s j; omega))
          have hpw : 10 ^ (dg s j - j) ≤ 10000 := Nat.pow_le_pow_right (n := 10) (by omega) (by omega : dg s j - j ≤ 4)
          have hn9 : dv s j (dg s j - j) ≤ 9999 := by omega
          clear hdv hpw
          have hrc := fun w2 (a2 : At w2 b s k j) => readCount_good b s k j w2 a2 hbl.2 hs hdg (by omega) (by omega)
          have htb := fun w2 (a2 : At w2 b s k (dg s j)) => takeBlanks_any b s k (dg s j) w2 a2 hdl.2 hs
          obtain ⟨n, hn⟩ : ∃ n, dv s j (dg s j - j) = n := ⟨_, rfl⟩
          obtain ⟨m, hm⟩ : ∃ m, dg s j = m := ⟨_, rfl⟩
          obtain ⟨q, hq⟩ : ∃ q, bl s m = q := ⟨_, rfl⟩
          rw [hn] at hrun hn9
          simp only [hn] at hrc
          simp only [hm] at hrc
          rw [hm] at hrun hdl hbl2
          simp only [hm, hq] at htb
          rw [hq] at hrun hbl2
          clear hn hm hq hct hbad
          cases hlet : isLt (pk s q) with
          | true =>
            rw [hlet, if_pos rfl] at hrun
            rw [hrun, ahead_ahead] at hr'
            have HR : Hid (runsAt s (bl s i0) = ahead (acc ++ [(n, pk s q)]) (runsAt s (bl s (q + 1)))) := hr'
            clear hrun hr'
            have hqlt := lt_of_pk (isLt_pos hlet)
            go_wp2_with (first
          | (go_at_call 36; refine hT.mono ?_; rintro e w1 ⟨rfl, a1, n1⟩; clear hT)
          | (go_at_call 49; refine (peek_any b s k j _ a1 hbl.2 hs).mono ?_; rintro e w2 ⟨rfl, q2, rfl⟩)
          | (go_at_call 50; refine (hd _).mono ?_; rintro e w3 ⟨rfl, rfl⟩)
          | (go_at_call 51; refine (hrc _ (a1.drewN _)).mono ?_; rintro e w4 ⟨rfl, a4, n4⟩)
          | (go_at_call 36; refine (htb _ a4).mono ?_; rintro e w4' ⟨rfl, a4', n4'⟩)
          | (go_at_call 53; refine (readLetter_hit b s k q _ a4' hbl2.2 hs hlet).mono ?_; rintro e w5 ⟨rfl, a5, n5⟩)
          | (go_at_call 52; refine (draw_any _ p B x0 y0 acc n (pk s q) ((((hpen.near n1 hbB hbp).drewN _).near n4 hbB hbp).near (n4'.trans n5) hbB hbp) hn9 hlet (by omega)).mono ?_; rintro e w6 ⟨rfl, pen6, pad6⟩))
            go_roundg (s.size - (q + 1))
            case measure => omega
            case rel => exact ⟨q + 1, acc ++ [(n, pk s q)], by omega, rfl, by simp; omega, a5.pad pad6 hbB hbp, pen6, htwo.trans (((((n1.drewN _).trans n4).trans (n4'.trans n5)).two p B).trans (pad6.two b)), HR.out⟩
          | false =>
            rw [hlet, if_neg Bool.false_ne_true] at hrun
            rw [hrun] at hr'
            have HR : Hid (runsAt s (bl s i0) = .inl q) := hr'
            clear hrun hr'
            go_wp2_with (first
          | (go_at_call 36; refine hT.mono ?_; rintro e w1 ⟨rfl, a1, n1⟩; clear hT)
          | (go_at_call 49; refine (peek_any b s k j _ a1 hbl.2 hs).mono ?_; rintro e w2 ⟨rfl, q2, rfl⟩)
          | (go_at_call 50; refine (hd _).mono ?_; rintro e w3 ⟨rfl, rfl⟩)
          | (go_at_call 51; refine (hrc _ (a1.drewN _)).mono ?_; rintro e w4 ⟨rfl, a4, n4⟩)
          | (go_at_call 36; refine (htb _ a4).mono ?_; rintro e w4' ⟨rfl, a4', n4'⟩)
          | (go_at_call 53; refine (readLetter_miss b s k q _ a4' hbl2.2 hs hlet).mono ?_; rintro e w5 ⟨rfl, n5⟩))
            refine ⟨rfl, ?_⟩
            show RunsOut b p B s k x0 y0 (runsAt s (bl s i0)) w _ _
            rw [HR.out]
            exact ⟨htwo.trans ((((n1.drewN _).trans n4).trans (n4'.trans n5)).two p B), rfl⟩
      | false =>
        rw [hdg] at hd
        have hct : cntTok s j = some (1, j) := by simp [cntTok, hdg]
        rw [hct] at hrun
        simp only at hrun
        clear hct
        cases hlet : isLt (pk s j) with
        | true =>
          rw [hlet, if_pos rfl] at hrun
          rw [hrun, ahead_ahead] at hr'
          have HR : Hid (runsAt s (bl s i0) = ahead (acc ++ [(1, pk s j)]) (runsAt s (bl s (j + 1)))) := hr'
          clear hrun hr'
          have hqlt := lt_of_pk (isLt_pos hlet)
          go_wp2_with (first
          | (go_at_call 36; refine hT.mono ?_; rintro e w1 ⟨rfl, a1, n1⟩; clear hT)
          | (go_at_call 49; refine (peek_any b s k j _ a1 hbl.2 hs).mono ?_; rintro e w2 ⟨rfl, q2, rfl⟩)
          | (go_at_call 50; refine (hd _).mono ?_; rintro e w3 ⟨rfl, rfl⟩)
          | (go_at_call 53; refine (readLetter_hit b s k j _ (a1.drewN _) hbl.2 hs hlet).mono ?_; rintro e w5 ⟨rfl, a5, n5⟩)
          | (go_at_call 52; refine (draw_any _ p B x0 y0 acc 1 (pk s j) (((hpen.near n1 hbB hbp).drewN _).near n5 hbB hbp) (by omega) hlet (by omega)).mono ?_; rintro e w6 ⟨rfl, pen6, pad6⟩))
          go_roundg (s.size - (j + 1))
          case measure => omega
          case rel => exact ⟨j + 1, acc ++ [(1, pk s j)], by omega, rfl, by simp; omega, a5.pad pad6 hbB hbp, pen6, htwo.trans ((((n1.drewN _).trans n5).two p B).trans (pad6.two b)), HR.out⟩
        | false =>
          rw [hlet, if_neg Bool.false_ne_true] at hrun
          rw [hrun] at hr'
          have HR : Hid (runsAt s (bl s i0) = .inl j) := hr'
          clear hrun hr'
          go_wp2_with (first
          | (go_at_call 36; refine hT.mono ?_; rintro e w1 ⟨rfl, a1, n1⟩; clear hT)
          | (go_at_call 49; refine (peek_any b s k j _ a1 hbl.2 hs).mono ?_; rintro e w2 ⟨rfl, q2, rfl⟩)
          | (go_at_call 50; refine (hd _).mono ?_; rintro e w3 ⟨rfl, rfl⟩)
          | (go_at_call 53; refine (readLetter_miss b s k j _ (a1.drewN _) hbl.2 hs hlet).mono ?_; rintro e w5 ⟨rfl, n5⟩))
          refine ⟨rfl, ?_⟩
          show RunsOut b p B s k x0 y0 (runsAt s (bl s i0)) w _ _
          rw [HR.out]
          exact ⟨htwo.trans (((n1.drewN _).trans n5).two p B), rfl⟩

end Go.Proofs.YtiohpcnnpmnjhaaDoor
