import Derived.Test.YtiohpcnnpmnjhaaGreatDoorSpotS
import Derived.Test.YtiohpcnnpmnjhaaGreatDoorCrsM
namespace Go.Proofs.YtiohpcnnpmnjhaaGreatDoor
open Go.RowKit Go.Shelf
set_option linter.unusedVariables false

theorem cell_four_new (w : World) (a b c d : Value) (t : TypeId) : ∀ j u, [a, b, c, d][j]? = some u → (w.alloc (.cells #[a, b, c, d] t)).cell? ((⟨w.heap.size, 0, none⟩ : Addr).add j) = some u := by
  intro j u hj
  match j, hj with
  | 0, hj => simp at hj; subst hj; simp [Addr.add]
  | 1, hj => simp at hj; subst hj; simp [Addr.add]
  | 2, hj => simp at hj; subst hj; simp [Addr.add]
  | 3, hj => simp at hj; subst hj; simp [Addr.add]
  | j + 4, hj => simp at hj
/-- Spots as the cells of a row, each of none. -/
def flatSp (sp : List (Nat × Cel)) : List Value := sp.flatMap fun x => [.int .i64 (x.1 : Int), .int .i64 x.2.1, .int .i64 x.2.2, .int .i64 (-1)]
theorem flatSp_snoc (sp : List (Nat × Cel)) (t : Nat) (c : Cel) : flatSp (sp ++ [(t, c)]) = flatSp sp ++ [.int .i64 (t : Int), .int .i64 c.1, .int .i64 c.2, .int .i64 (-1)] := by simp [flatSp]
theorem flatSp_at : ∀ (sp : List (Nat × Cel)) (j t : Nat) (c : Cel), sp[j]? = some (t, c) → (flatSp sp)[j * 4]? = some (.int .i64 (t : Int)) ∧ (flatSp sp)[j * 4 + 1]? = some (.int .i64 c.1) ∧ (flatSp sp)[j * 4 + 2]? = some (.int .i64 c.2) ∧ (flatSp sp)[j * 4 + 3]? = some (.int .i64 (-1))
  | [], j, t, c, h => by simp at h
  | x :: sp, 0, t, c, h => by
    simp at h
    subst h
    simp [flatSp]
  | x :: sp, j + 1, t, c, h => by
    have := flatSp_at sp j t c (by simpa using h)
    have e : flatSp (x :: sp) = [.int .i64 (x.1 : Int), .int .i64 x.2.1, .int .i64 x.2.2, .int .i64 (-1)] ++ flatSp sp := by simp [flatSp]
    rw [e]
    refine ⟨?_, ?_, ?_, ?_⟩ <;> rw [List.getElem?_append_right (by simp; omega)] <;> simp only [List.length_cons, List.length_nil] 
    · rw [show (j + 1) * 4 - (0 + 1 + 1 + 1 + 1) = j * 4 by omega]; exact this.1
    · rw [show (j + 1) * 4 + 1 - (0 + 1 + 1 + 1 + 1) = j * 4 + 1 by omega]; exact this.2.1
    · rw [show (j + 1) * 4 + 2 - (0 + 1 + 1 + 1 + 1) = j * 4 + 2 by omega]; exact this.2.2.1
    · rw [show (j + 1) * 4 + 3 - (0 + 1 + 1 + 1 + 1) = j * 4 + 3 by omega]; exact this.2.2.2
theorem flatSp_len (sp : List (Nat × Cel)) : (flatSp sp).length = sp.length * 4 := by
  induction sp with
  | nil => rfl
  | cons x sp ih =>
    have e : flatSp (x :: sp) = [.int .i64 (x.1 : Int), .int .i64 x.2.1, .int .i64 x.2.2, .int .i64 (-1)] ++ flatSp sp := by simp [flatSp]
    rw [e, List.length_append, ih]; simp; omega
/-- The row of spots, in its block. -/
theorem spots_row {W : World} {B : Nat} {v : Value} {sp : List (Nat × Cel)} (h : W.ownsRow B 104 4 v sp.length (flatSp sp)) (hn : sp ≠ []) : ∃ L cap, v = .slice (some ⟨L, 0, none⟩) sp.length cap ∧ B ≤ L ∧ SpotsAt W L sp (fun _ => -1) := by
  rcases h.2 with ⟨_, h0⟩ | ⟨L, cap, cur, rfl, hb, hblk, hc, hm, hsz, hpre⟩
  · exact absurd (List.length_eq_zero_iff.1 h0) hn
  · refine ⟨L, cap, rfl, hb, cur, hblk, fun j t c hj => ?_⟩
    obtain ⟨a, b, c', d⟩ := flatSp_at sp j t c hj
    have hjl := (List.getElem?_eq_some_iff.1 hj).1
    rw [← hpre] at a b c' d
    have get : ∀ m, m < sp.length * 4 → (cur.toList.take (sp.length * 4))[m]? = cur[m]? := fun m hm => by rw [List.getElem?_take_of_lt hm]; simp
    rw [get _ (by omega)] at a b c' d
    exact ⟨a, b, c', d⟩
theorem infoSpot : (Tryz.prog.info? 104).map (fun i => (i.zero, i.size, i.bytes)) = some (some (.agg #[.int .i64 0, .int .i64 0, .int .i64 0, .int .i64 0]), 4, 32) := by kernel_rfl
/-- Lists of cells in memory, one behind the other. -/
structure RPats (w : World) (B : Nat) (v : Value) (Ps : List (List Cel)) (us : List Value) : Prop where
  own : w.ownsRow B 25 1 v us.length us
  len : us.length = Ps.length
  row : ∀ (i : Nat) u P, us[i]? = some u → Ps[i]? = some P → w.ownsRow 0 44 2 u P.length (flatC P)

theorem RPats.below {W W' : World} {B : Nat} {v : Value} {Ps : List (List Cel)} {us : List Value} (h : RPats W B v Ps us) (hb : Below W.heap.size W W') : RPats W' B v Ps us :=
  ⟨rowBelow h.own hb, h.len, fun i u P hu hP => rowBelow (h.row i u P hu hP) hb⟩
theorem rowKeepY {W W' : World} {B b n m : Nat} {e t : TypeId} {v : Value} {xs : List Value} {cs : Array Value} (h : W.ownsRow B e m v n xs) (hb : W.heap[b]? = some (.cells cs t (0, 0))) (he : t ≠ e) (hg : W.grownBy W' (some b)) : W'.ownsRow B e m v n xs := by
  refine h.kept hg (.inr fun e' => ?_)
  rcases h.2 with ⟨rfl, _⟩ | ⟨g, cap, cur, rfl, _, hh, _⟩
  · cases e'
  · simp [Value.ownBlock] at e'
    subst e'
    rw [hh] at hb
    cases hb
    exact he rfl
theorem RPats.keepS {W W' : World} {B L : Nat} {v : Value} {Ps : List (List Cel)} {us : List Value} {sp : List (Nat × Cel)} {of : Nat → Int} (h : RPats W B v Ps us) (hS : SpotsAt W L sp of) (hg : W.grownBy W' (some L)) : RPats W' B v Ps us := by
  obtain ⟨cur, hc, _⟩ := hS
  exact ⟨rowKeepY h.own hc (by decide) hg, h.len, fun i u P hu hP => rowKeepY (h.row i u P hu hP) hc (by decide) hg⟩
theorem rowOtherR {W W' : World} {B1 B2 n m : Nat} {u vp : Value} {xs us : List Value} (h : W.ownsRow B1 44 2 u n xs) (own : W.ownsRow B2 25 1 vp m us) (hg : W.grownBy W' vp.ownBlock) : W'.ownsRow B1 44 2 u n xs := by
  refine ⟨h.1, h.2.imp id ?_⟩
  rintro ⟨b, cap, cur, h1, h2, h3, h4⟩
  exact ⟨b, cap, cur, h1, h2, other_kept own hg h3 (by decide), h4⟩
theorem RPats.snoc {W W' : World} {B : Nat} {v v' u : Value} {Ps : List (List Cel)} {us : List Value} {P : List Cel} (h : RPats W B v Ps us) (hu : W.ownsRow 0 44 2 u P.length (flatC P)) (hg : W.grownBy W' v.ownBlock) (own' : W'.ownsRow B 25 1 v' (us.length + 1) (us ++ [u])) : RPats W' B v' (Ps ++ [P]) (us ++ [u]) := by
  refine ⟨by simpa using own', by simp [h.len], fun i u' P' hu' hP' => ?_⟩
  by_cases hi : i < us.length
  · rw [List.getElem?_append_left hi] at hu'
    rw [List.getElem?_append_left (by rw [← h.len]; exact hi)] at hP'
    exact rowOtherR (h.row i u' P' hu' hP') h.own hg
  · have hl := (List.getElem?_eq_some_iff.1 hu').1
    simp at hl
    obtain rfl : i = us.length := by omega
    rw [List.getElem?_append_right (Nat.le_refl _)] at hu'
    rw [List.getElem?_append_right (by rw [h.len]; exact Nat.le_refl _)] at hP'
    simp at hu'
    rw [h.len] at hP'
    simp at hP'
    subst hu' hP'
    exact rowOtherR hu h.own hg
/-- Whose the spots are, as far as the parts ahead of i go. -/
def ofI (κ : Nat → Nat) (i j : Nat) : Int := if κ j < i then (κ j : Int) else -1

theorem ledTo_front {κ : Nat → Nat} {D : List Cel} {i : Nat} (hκ : Root κ) : ledTo κ D i i = [] := by
  unfold ledTo
  rw [List.filterMap_eq_nil_iff]
  intro a ha
  have h1 := List.mem_range.1 ha
  have h2 := (hκ a).1
  rw [if_neg (by omega)]
theorem grown_under {w0 w1 w2 : World} {b L : Nat} (h : Below b w0 w1) (hL : b ≤ L) (hw : b ≤ w1.heap.size) (g : w1.grownBy w2 (some L)) : Below b w0 w2 := h.grown g hw (fun k hk => by cases hk; exact hL)

set_option maxRecDepth 100000 in
set_option maxHeartbeats 3200000 in
theorem refParts_any (f g : Nat → Bool) (C : List Cel) (s p : Nat) (d1 d2 : Int) (gb cg : Nat) (vs : List Value) (w : World) (hp : 1 ≤ p) (hsp : s + p ≤ 200) (hvl : vs.length = s + p + 1) (hgb : gb < w.heap.size) (hget : ∀ (i : Nat) v, vs[i]? = some v → w.cell? ⟨gb, i, none⟩ = some v)
    (hall : ∀ (i : Nat) v, vs[i]? = some v → RowOwn w v (gen f g C i)) (hlen : ∀ i, i ≤ s + p → (gen f g C i).length ≤ 100) (κ : Nat → Nat) (hSp : Spotty (spotsL (gensL f g C s p) (p + 1)) (p : Int) d1 d2 κ) (hκ : Root κ) :
    Calls Tryz.prog 29 #[.slice (some ⟨gb, 0, none⟩) (s + p + 1) cg, .agg #[.int .i64 (s : Int), .int .i64 (p : Int), .int .i64 d1, .int .i64 d2]] w fun e w' => (∃ v us, e = .returned v ∧ RPats w' w.heap.size v (partsTo κ (gen f g C s) (gen f g C s).length) us) ∧ Below w.heap.size w w' := by
  obtain ⟨i0, hii, hz0, hz1, hz2⟩ := info_parts infoSpot
  go_enter Tryz.func29, Tryz.ntmps29
  have q0 := blk_new w (.cells #[.int .i64 (s : Int), .int .i64 (p : Int), .int .i64 d1, .int .i64 d2] 54)
  have be0 : Below w.heap.size w (w.alloc (.cells #[.int .i64 (s : Int), .int .i64 (p : Int), .int .i64 d1, .int .i64 d2] 54)) := (Below.refl _ _).alloc (Nat.le_refl _) _
  obtain ⟨w0, hw0⟩ : ∃ w0, w.alloc (.cells #[.int .i64 (s : Int), .int .i64 (p : Int), .int .i64 d1, .int .i64 d2] 54) = w0 := ⟨_, rfl⟩
  rw [hw0] at q0 be0
  have s0 : w0.heap.size = w.heap.size + 1 := by rw [← hw0]; simp
  have HS0 : Hid (w0.heap.size = w.heap.size + 1) := s0
  have hs0 : w.heap.size + 1 ≤ w0.heap.size := by omega
  have hs0' : w0.heap.size ≤ w.heap.size + 1 := by omega
  clear s0
  go_wp2
  clear hw0
  have hgl : ∀ t, t ≤ p → (gensL f g C s p).getD t [] = gen f g C (s + t) := fun t ht => gensL_getD ht
  have htot : ∀ t, t ≤ p + 1 → (spotsL (gensL f g C s p) t).length ≤ t * 100 := fun t => by
    induction t with
    | zero => intro _; simp [spotsL]
    | succ t ih =>
      intro h
      have h1 := ih (by omega)
      have h2 := hlen (s + t) (by omega)
      rw [spotsL_succ, List.length_append, List.length_map, hgl t (by omega)]
      omega
  go_loopw [5, 6] (fun vl vt wr => ∃ t : Nat, t ≤ p + 1 ∧ vt = .int .i64 (t : Int) ∧ wr.ownsRow w0.heap.size 104 4 vl (spotsL (gensL f g C s p) t).length (flatSp (spotsL (gensL f g C s p) t)) ∧ Below w0.heap.size w0 wr) (fun _ vt _ => p + 1 - (intOf vt).toNat)
  case atStart => exact ⟨0, Nat.zero_le _, rfl, World.ownsRow_nil _ _ _ _, Below.refl _ _⟩
  case round =>
    obtain ⟨t, ht, rfl, own, hb⟩ := hrel
    have hbw : Below w.heap.size w wr := be0.trans (hb.mono (by omega))
    have qr := (hb.block _ (blk_lt q0)).trans q0
    have c1 := cell_of qr 1
    have c0 := cell_of qr 0
    by_cases hlt : t ≤ p
    · have hti : (t : Int) ≤ (p : Int) := by omega
      obtain ⟨v, hv⟩ : ∃ v, vs[s + t]? = some v := ⟨vs[s + t]'(by omega), by simp [show s + t < vs.length by omega]⟩
      have cv : wr.cell? ⟨gb, s + t, none⟩ = some v := (World.cell?_of_block (hbw.block _ hgb)).trans (hget _ _ hv)
      have rv : RowOwn wr v (gen f g C (s + t)) := rowOwn_on (hall _ _ hv) hbw
      have hrw : ∀ W, Below w0.heap.size w0 W → W.ownsRow 0 44 2 v (gen f g C (s + t)).length (flatC (gen f g C (s + t))) := fun W hW => rowOwn_on (hall _ _ hv) (be0.trans (hW.mono (by omega)))
      have hD := hlen (s + t) (by omega)
      have hto := htot t (by omega)
      have HX : Hid (spotsL (gensL f g C s p) (t + 1) = spotsL (gensL f g C s p) t ++ (gen f g C (s + t)).map fun c => (t, c)) := by show _ = _; rw [spotsL_succ, hgl t hlt]
      obtain ⟨S0, hS0⟩ : ∃ S0, spotsL (gensL f g C s p) t = S0 := ⟨_, rfl⟩
      obtain ⟨D, hDD⟩ : ∃ D, gen f g C (s + t) = D := ⟨_, rfl⟩
      rw [hS0] at own hto HX
      rw [hDD] at rv hD HX hrw
      clear hS0 hDD
      unfold RowOwn at rv
      obtain ⟨ad, cd, rfl⟩ := row_slice rv
      have hst : (s : Int) + (t : Int) < (s : Int) + (p : Int) + 1 := by omega
      go_wp2
      go_loopw [5, 8] (fun vl vi wq => ∃ i : Nat, i ≤ D.length ∧ vi = .int .i64 (i : Int) ∧ wq.ownsRow w0.heap.size 104 4 vl (S0 ++ (D.take i).map fun c => (t, c)).length (flatSp (S0 ++ (D.take i).map fun c => (t, c))) ∧ Below w0.heap.size w0 wq) (fun _ vi _ => D.length - (intOf vi).toNat)
      case atStart => exact ⟨0, Nat.zero_le _, rfl, by simpa using own, hb⟩
      case round =>
        obtain ⟨i, hi, rfl, ownq, hbq⟩ := hrel
        by_cases hlt2 : i < D.length
        · have hii2 : (i : Int) < (D.length : Int) := by omega
          obtain ⟨⟨x, y⟩, hx⟩ : ∃ d, D[i]? = some d := ⟨D[i], by simp [hlt2]⟩
          have rv2 : wr.ownsRow 0 44 2 (.slice ad D.length cd) D.length (flatC D) := hrw _ hbq
          obtain ⟨G, rfl, hg, hgetx⟩ := (RowAt.of_owns rv2).get hx
          obtain ⟨e0, e1⟩ := hgetx wr (Below.refl _ _)
          simp only at e0 e1
          have HN : Hid (S0 ++ (D.take (i + 1)).map (fun c => (t, c)) = (S0 ++ (D.take i).map fun c => (t, c)) ++ [(t, (x, y))]) := by
            show _ = _
            rw [List.take_add_one, hx]; simp
          have hql : (S0 ++ (D.take i).map fun c => (t, c)).length ≤ 1000000 := by simp; omega
          obtain ⟨Sq, hSq⟩ : ∃ Sq, (S0 ++ (D.take i).map fun c => (t, c)) = Sq := ⟨_, rfl⟩
          rw [hSq] at ownq HN hql
          clear hSq
          have hszq := hbq.size
          go_wp2_with (at_builtin; refine wpList_append_own _ rfl _ _ 102 rfl w0.heap.size 104 i0 (.agg #[.int .i64 0, .int .i64 0, .int .i64 0, .int .i64 0]) 4 32 Tryz.underlying102 hii hz0 hz1 hz2 rfl (by decide) _ _ _ rfl (ownq.alloc _) ⟨wr.heap.size, 0, none⟩ 1 1 [.int .i64 (t : Int), .int .i64 x, .int .i64 y, .int .i64 (-1)] rfl rfl (cell_four_new _ _ _ _ _ _) (by simp [Value.oneCell']) (by unfold maxLen; omega) (by omega) (by simp; omega) ?_; intro v' w3 own3 hgr3 _)
          go_roundw
          case rel =>
            refine ⟨i + 1, by omega, by go_num, ?_, (hbq.alloc (by omega) _).grown hgr3 (by simp; omega) (fun k hk => (ownq.lt k hk).1)⟩
            rw [HN.out, flatSp_snoc, List.length_append]
            exact own3
          case measure => simp [intOf]; omega
        · obtain rfl : i = D.length := by omega
          rw [List.take_length] at ownq
          go_wp2
          go_roundw
          case rel =>
            refine ⟨t + 1, by omega, by go_num, ?_, hbq⟩
            rw [HX.out]; exact ownq
          case measure => simp [intOf]; omega
    · obtain rfl : t = p + 1 := by omega
      have hti : ¬ ((p : Int) + 1) ≤ (p : Int) := by omega
      obtain ⟨v, hv⟩ : ∃ v, vs[s]? = some v := ⟨vs[s]'(by omega), by simp [show s < vs.length by omega]⟩
      have cv : wr.cell? ⟨gb, s, none⟩ = some v := (World.cell?_of_block (hbw.block _ hgb)).trans (hget _ _ hv)
      have rv : wr.ownsRow 0 44 2 v (gen f g C s).length (flatC (gen f g C s)) := rowOwn_on (hall _ _ hv) hbw
      have hD := hlen s (by omega)
      have hto := htot (p + 1) (Nat.le_refl _)
      have hsi : (s : Int) < (s : Int) + (p : Int) + 1 := by omega
      have hat : ∀ (i : Nat) (c : Cel), (gen f g C s)[i]? = some c → (spotsL (gensL f g C s p) (p + 1))[i]? = some (0, c) := fun i c hc => by
        have h1 : CellAt (gensL f g C s p) 0 i c := cell0.2 ⟨Nat.zero_le _, hc⟩
        have h2 := spots_at h1 (p + 1) (by omega) (by rw [gensL_len]; exact Nat.le_refl _)
        rwa [show startOf (gensL f g C s p) 0 + i = i from Nat.zero_add i] at h2
      obtain ⟨SP, hSP⟩ : ∃ SP, spotsL (gensL f g C s p) (p + 1) = SP := ⟨_, rfl⟩
      obtain ⟨D, hDD⟩ : ∃ D, gen f g C s = D := ⟨_, rfl⟩
      rw [hSP] at own hSp hto hat
      rw [hDD] at rv hD hat
      have HDD : Hid (gen f g C s = D) := hDD
      clear hSP hDD hget hall hlen htot hgl
      obtain ⟨ad, cd, rfl⟩ := row_slice rv
      have hlow : w.heap.size ≤ w0.heap.size := by omega
      by_cases hne : SP = []
      · have hD0 : D = [] := by
          cases D with
          | nil => rfl
          | cons c r => have := hat 0 c rfl; rw [hne] at this; simp at this
        subst hD0
        go_wp2
        go_loopw [9, 11] (fun vo vi wq => vo = .slice none 0 0 ∧ vi = .int .i64 0 ∧ wq = wr) (fun _ _ _ => 0)
        case atStart => exact ⟨rfl, rfl, rfl⟩
        case round =>
          obtain ⟨rfl, rfl, rfl⟩ := hrel
          go_wp2
          go_ret
          rw [HDD.out]
          exact ⟨⟨_, [], rfl, World.ownsRow_nil _ _ _ _, rfl, fun i u P h _ => by simp at h⟩, hbw⟩
      · obtain ⟨L, cap, rfl, hLB, hS0⟩ := spots_row own hne
        clear own
        obtain ⟨ic, hic, hc0, hc1, hc2⟩ := info_parts infoRC
        obtain ⟨il, hil, hl0, hl1, hl2⟩ := info_parts infoRL
        have hSN := hSp.len
        have hDN : D.length ≤ SP.length := by
          by_cases h : D = []
          · rw [h]; exact Nat.zero_le _
          · have hpos : D.length - 1 < D.length := by have : D.length ≠ 0 := fun e => h (List.length_eq_zero_iff.1 e); omega
            have := (List.getElem?_eq_some_iff.1 (hat (D.length - 1) D[D.length - 1] (List.getElem?_eq_getElem hpos))).1
            omega
        go_wp2
        have hSI : SpotsAt wr L SP (ofI κ 0) := hS0.congr fun j _ => by unfold ofI; rw [if_neg (by omega)]
        go_loopw [9, 11] (fun vo vi wq => ∃ (i : Nat) (us : List Value), i ≤ D.length ∧ vi = .int .i64 (i : Int) ∧ SpotsAt wq L SP (ofI κ i) ∧ RPats wq w0.heap.size vo (partsTo κ D i) us ∧ Below w0.heap.size w0 wq) (fun _ vi _ => D.length - (intOf vi).toNat)
        case atStart => exact ⟨0, [], Nat.zero_le _, rfl, hSI, ⟨World.ownsRow_nil _ _ _ _, rfl, fun i u P h => by simp at h⟩, hb⟩
        case round =>
          obtain ⟨i, us, hi, rfl, hSq, hPt, hbq⟩ := hrel
          have hszq := hbq.size
          have tq := (hbq.block _ (blk_lt q0)).trans q0
          have y0 := cell_of tq 0; have y1 := cell_of tq 1; have y2 := cell_of tq 2; have y3 := cell_of tq 3
          by_cases hlt : i < D.length
          · have hii' : (i : Int) < (D.length : Int) := by omega
            have hiS : (i : Int) < (SP.length : Int) := by omega
            obtain ⟨c, hc⟩ : ∃ c, D[i]? = some c := ⟨D[i], by simp [hlt]⟩
            have hsp0 := hat i c hc
            obtain ⟨e0, e1, e2, e3⟩ := hSq.get hsp0
            have fz := hSq.frz (i * 4 + 3)
            have hPl := partsTo_len κ D i
            have hul := hPt.len
            have hus : us.length ≤ 100 := by omega
            have HF : Hid (partsTo κ D (i + 1) = partsTo κ D i ++ if κ i = i then [ledTo κ D i D.length] else []) := partsTo_succ κ D i
            obtain ⟨Ps, hPs⟩ : ∃ Ps, partsTo κ D i = Ps := ⟨_, rfl⟩
            rw [hPs] at hPt HF
            have hr := hκ i
            clear hPs hul hPl
            by_cases he : κ i = i
            · have hoi : ofI κ i i = -1 := by unfold ofI; rw [if_neg (by omega)]
              rw [hoi] at e3
              rw [if_pos he] at HF
              have hSet := hSq.set hsp0 (i : Int)
              have hSet2 : SpotsAt (wr.setCell ⟨L, i * 4 + 3, none⟩ (.int .i64 (i : Int))) L SP (ofA κ i fun j => j == i) := hSet.congr fun j _ => by
                unfold ofA ofI
                by_cases e : j = i
                · subst e; rw [if_pos rfl, if_neg (by omega)]; simp
                · rw [if_neg e]
                  simp [e]
              have hspr := spread_any SP (p : Int) d1 d2 (s : Int) κ hSp i L cap _ (by omega) he hSet2
              have hPt1 : RPats (wr.setCell ⟨L, i * 4 + 3, none⟩ (.int .i64 (i : Int))) w0.heap.size u9 Ps us := hPt.keepS hSq (grown_set wr L (i * 4 + 3) _)
              have hb1 : Below w0.heap.size w0 (wr.setCell ⟨L, i * 4 + 3, none⟩ (.int .i64 (i : Int))) := hbq.setCell (p := ⟨L, i * 4 + 3, none⟩) hLB _
              have t1 := (hb1.block _ (blk_lt q0)).trans q0
              have z0 := cell_of t1 0; have z1 := cell_of t1 1; have z2 := cell_of t1 2; have z3 := cell_of t1 3
              clear hSet hoi
              go_wp2_with (go_at_call 57; refine hspr.mono ?_; rintro e w4 ⟨rfl, hS4, gr4⟩)
              have hS4' : SpotsAt w4 L SP (ofI κ (i + 1)) := hS4
              have hP4 : RPats w4 w0.heap.size u9 Ps us := hPt1.keepS hSet2 gr4
              have hb4 : Below w0.heap.size w0 w4 := grown_under hb1 hLB hb1.size gr4
              have hL4 := hS4'.lt
              clear hS4 hspr
              have hz : ledTo κ D i i = [] := ledTo_front hκ
              go_loopw [12, 13] (fun vp vk wq => ∃ k : Nat, i ≤ k ∧ k ≤ D.length ∧ vk = .int .i64 (k : Int) ∧ wq.ownsRow w4.heap.size 44 2 vp (ledTo κ D i k).length (flatC (ledTo κ D i k)) ∧ Below w4.heap.size w4 wq) (fun _ vk _ => D.length - (intOf vk).toNat)
              case atStart => exact ⟨i, Nat.le_refl _, by omega, rfl, by rw [hz]; exact World.ownsRow_nil _ _ _ _, Below.refl _ _⟩
              case round =>
                obtain ⟨k, hik, hk, rfl, ownk, hbk⟩ := hrel
                have hszk := hbk.size
                have hSk := hS4'.keep (hbk.block _ hL4)
                by_cases hkl : k < D.length
                · have hki : (k : Int) < (D.length : Int) := by omega
                  have hkS : (k : Int) < (SP.length : Int) := by omega
                  obtain ⟨⟨x, y⟩, hx⟩ : ∃ d, D[k]? = some d := ⟨D[k], by simp [hkl]⟩
                  obtain ⟨a0, a1, a2, a3⟩ := hSk.get (hat k (x, y) hx)
                  simp only at a1 a2
                  have HG : Hid (ledTo κ D i (k + 1) = ledTo κ D i k ++ if κ k = i then [(x, y)] else []) := ledTo_succ κ D i k hx
                  have hGl := ledTo_len κ D i k
                  obtain ⟨P, hP⟩ : ∃ P, ledTo κ D i k = P := ⟨_, rfl⟩
                  rw [hP] at ownk HG hGl
                  clear hP
                  by_cases hki2 : κ k = i
                  · have ho : ofI κ (i + 1) k = (i : Int) := by unfold ofI; rw [if_pos (by omega)]; omega
                    rw [ho] at a3
                    rw [if_pos hki2] at HG
                    clear hki2
                    go_wp2_with (at_builtin; refine wpList_append_own _ rfl _ _ 25 rfl w4.heap.size 44 ic (.agg #[.int .i64 0, .int .i64 0]) 2 16 Tryz.underlying25 hic hc0 hc1 hc2 rfl (by decide) _ _ _ rfl (ownk.alloc _) ⟨wr.heap.size, 0, none⟩ 1 1 [.int .i64 x, .int .i64 y] rfl rfl (cell_two_new _ _ _ _) (by simp [Value.oneCell']) (by unfold maxLen; omega) (by omega) (by simp; omega) ?_; intro v' w7 own7 hgr7 _)
                    go_roundw
                    case rel =>
                      refine ⟨k + 1, by omega, by omega, by go_num, ?_, (hbk.alloc (by omega) _).grown hgr7 (by simp; omega) (fun j hj => (ownk.lt j hj).1)⟩
                      rw [HG.out, List.length_append, flatC_append]
                      exact own7
                    case measure => simp [intOf]; omega
                  · have ho : ¬ ofI κ (i + 1) k = (i : Int) := by
                      unfold ofI
                      by_cases h : κ k < i + 1
                      · rw [if_pos h]; omega
                      · rw [if_neg h]; omega
                    rw [if_neg hki2, List.append_nil] at HG
                    clear hki2
                    obtain ⟨o, hoe⟩ : ∃ o, ofI κ (i + 1) k = o := ⟨_, rfl⟩
                    rw [hoe] at a3 ho
                    go_wp2
                    go_roundw
                    case rel =>
                      refine ⟨k + 1, by omega, by omega, by go_num, ?_, hbk⟩
                      rw [HG.out]
                      exact ownk
                    case measure => simp [intOf]; omega
                · obtain rfl : k = D.length := by omega
                  have hP5 := hP4.below hbk
                  have hsz4 := hb4.size
                  obtain ⟨Q, hQ⟩ : ∃ Q, ledTo κ D i D.length = Q := ⟨_, rfl⟩
                  rw [hQ] at ownk HF
                  clear hQ
                  obtain ⟨aq, cq, rfl⟩ := row_slice ownk
                  have hrow0 : wr.ownsRow 0 44 2 (.slice aq Q.length cq) Q.length (flatC Q) := ownsRow_low ownk (Nat.zero_le _)
                  have ownp := hP5.own
                  go_wp2_with (at_builtin; refine wpList_append_own _ rfl _ _ 53 rfl w0.heap.size 25 il (.slice none 0 0) 1 24 Tryz.underlying53 hil hl0 hl1 hl2 rfl (by decide) _ _ _ rfl (ownp.alloc _) ⟨wr.heap.size, 0, none⟩ 1 1 [(.slice aq Q.length cq)] rfl rfl (cell_one_new _ _ _) (by simp [Value.oneCell']) (by unfold maxLen; omega) (by omega) (by simp; omega) ?_; intro v' w7 own7 hgr7 _)
                  go_roundw
                  case rel =>
                    have hS7 : SpotsAt w7 L SP (ofI κ (i + 1)) := by
                      obtain ⟨cur, hc, hcur⟩ := hSk
                      exact ⟨cur, other_kept (ownp.alloc _) hgr7 (blk_old hc _) (by decide), hcur⟩
                    refine ⟨i + 1, us ++ [(.slice aq Q.length cq)], by omega, by go_num, hS7, ?_, ?_⟩
                    · rw [HF.out]
                      have hA : Below wr.heap.size wr (wr.alloc (.cells #[(.slice aq Q.length cq)] 25)) := (Below.refl _ _).alloc (Nat.le_refl _) _
                      exact (hP5.below hA).snoc (rowBelow hrow0 hA) hgr7 own7
                    · exact ((hb4.trans (hbk.mono hsz4)).alloc (by omega) _).grown hgr7 (by simp; omega) (fun j hj => (ownp.lt j hj).1)
                  case measure => simp [intOf]; omega
            · have hlt2 : κ i < i := by omega
              have hoi : ofI κ i i = (κ i : Int) := by unfold ofI; rw [if_pos hlt2]
              rw [hoi] at e3
              rw [if_neg he, List.append_nil] at HF
              obtain ⟨o, ho⟩ : ∃ o : Int, (κ i : Int) = o := ⟨_, rfl⟩
              have hnn : ¬ o < 0 := by omega
              rw [ho] at e3
              have hSn : SpotsAt wr L SP (ofI κ (i + 1)) := hSq.congr fun j _ => by
                have hj := (hκ j).2
                unfold ofI
                by_cases h1 : κ j < i
                · rw [if_pos h1, if_pos (by omega)]
                · have hne2 : κ j ≠ i := fun e => by rw [e] at hj; omega
                  rw [if_neg h1, if_neg (by omega)]
              clear hoi ho hlt2 he hr
              go_wp2
              go_roundw
              case rel =>
                refine ⟨i + 1, us, by omega, by go_num, hSn, ?_, hbq⟩
                rw [HF.out]
                exact hPt
              case measure => simp [intOf]; omega
          · obtain rfl : i = D.length := by omega
            go_wp2
            go_ret
            rw [HDD.out]
            exact ⟨⟨_, us, rfl, ownsRow_low hPt.own hlow, hPt.len, hPt.row⟩, be0.trans (hbq.mono hlow)⟩

end Go.Proofs.YtiohpcnnpmnjhaaGreatDoor
