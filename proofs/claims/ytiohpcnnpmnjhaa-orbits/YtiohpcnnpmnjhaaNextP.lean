import Derived.Test.YtiohpcnnpmnjhaaTallyInM
import Derived.Test.YtiohpcnnpmnjhaaSortP
import Derived.Test.YtiohpcnnpmnjhaaRefLife1
import Derived.Sort.OwnSorted
namespace Go.Proofs.Ytiohpcnnpmnjhaa
open Go.RowKit Go.WideMaps Go.Maps
set_option linter.unusedVariables false

/-- What the program asks of a cell that it has counted for. -/
def lvP (f g : Nat → Bool) (C : List Cel) (c : Cel) : Bool := if c ∈ C then g (nbC C c) else f (nbC C c)
/-- What has been collected while a map is gone through. -/
structure Col (D : DataW Unit) (lv : Cel → Bool) (left : Lit → Bool) (out : List Cel) : Prop where
  nd : out.Nodup
  mem : ∀ c, c ∈ out ↔ ∃ kl, keyOf Try.prog 99 (kcell c) = some kl ∧ has D kl = true ∧ left kl = false ∧ lv c = true
  sub : ∀ kl, left kl = true → has D kl = true
theorem Col.start (D : DataW Unit) (lv : Cel → Bool) : Col D lv (has D) [] :=
  ⟨by simp, fun c => ⟨fun h => by simp at h, fun ⟨kl, _, h1, h2, _⟩ => by rw [h1] at h2; cases h2⟩, fun kl h => h⟩
theorem Col.step {D : DataW Unit} {lv : Cel → Bool} {left : Lit → Bool} {out : List Cel} (h : Col D lv left out) {x : Cel} {kl : Lit} (hk : keyOf Try.prog 99 (kcell x) = some kl) (hl : left kl = true) :
    Col D lv (fun z => left z && !z.sameKey kl) (if lv x then out ++ [x] else out) := by
  have hx : ¬ x ∈ out := fun hm => by
    obtain ⟨k', h1, _, h3, _⟩ := (h.mem x).1 hm
    rw [hk] at h1; cases h1
    rw [hl] at h3; cases h3
  have hself := WideAt.sameKey_self (keyC.key hk)
  refine ⟨?_, fun c => ?_, fun k' hk' => ?_⟩
  · split
    · exact List.nodup_append.2 ⟨h.nd, by simp, fun a ha b hb => by simp at hb; subst hb; exact fun e => hx (e ▸ ha)⟩
    · exact h.nd
  · by_cases e : c = x
    · subst e
      constructor
      · intro hm
        cases hv : lv c
        · rw [hv] at hm; exact absurd hm hx
        · exact ⟨kl, hk, h.sub kl hl, by simp [hself], rfl⟩
      · rintro ⟨k', h1, h2, h3, h4⟩
        rw [h4]; simp
    · have hmem : (c ∈ if lv x = true then out ++ [x] else out) ↔ c ∈ out := by
        split
        · simp [e]
        · exact Iff.rfl
      rw [hmem, h.mem c]
      refine ⟨fun ⟨k', h1, h2, h3, h4⟩ => ⟨k', h1, h2, by simp [h3], h4⟩, fun ⟨k', h1, h2, h3, h4⟩ => ⟨k', h1, h2, ?_, h4⟩⟩
      have hne : k'.sameKey kl = false := by
        cases hs : k'.sameKey kl
        · rfl
        · exact absurd (kcell_inj (keyC.inj h1 (WideAt.sameKey_eq hs ▸ hk))) e
      simpa [hne] using h3
  · simp only [Bool.and_eq_true] at hk'
    exact h.sub k' hk'.1
theorem Col.all {D : DataW Unit} {f g : Nat → Bool} {C : List Cel} {left : Lit → Bool} {out : List Cel} (h : Col D (lvP f g C) left out) (hl : ∀ kl, left kl = false) (hR : Reads Try.prog 99 D (countF C))
    (hB : ∀ c ∈ C, (-4000000000000000000 ≤ c.1 ∧ c.1 ≤ 4000000000000000000) ∧ (-4000000000000000000 ≤ c.2 ∧ c.2 ≤ 4000000000000000000)) (c : Cel) : c ∈ out ↔ c ∈ nextL f g C := by
  rw [h.mem c, mem_nextL]
  have hc := countF_is c _ C rfl
  constructor
  · rintro ⟨kl, h1, h2, _, h4⟩
    rw [(hR.at_ c kl h1).1] at h2
    have hex := hc.1.1 h2
    refine ⟨hex, ?_⟩
    unfold livesC
    unfold lvP at h4
    split
    · rename_i hm; rw [if_pos hm] at h4; exact h4
    · rename_i hm; rw [if_neg hm] at h4
      obtain ⟨d, hd, hcd⟩ := hex
      have hnb : isNb c d = true := eight_isNb.1 (mem_eight.2 ⟨hcd, fun e => hm (e ▸ hd)⟩)
      have hp : 0 < nbC C c := List.countP_pos_iff.2 ⟨d, hd, hnb⟩
      simp [hp, h4]
  · rintro ⟨hex, h4⟩
    obtain ⟨d, hd, hcd⟩ := hex
    have hbd := hB d hd
    have hca := mem_around.1 hcd
    obtain ⟨kl, hkl⟩ := key64 (c := c) ⟨by omega, by omega⟩ ⟨by omega, by omega⟩
    refine ⟨kl, hkl, by rw [(hR.at_ c kl hkl).1]; exact hc.1.2 ⟨d, hd, hcd⟩, hl kl, ?_⟩
    unfold lvP
    unfold livesC at h4
    split
    · rename_i hm; rw [if_pos hm] at h4; exact h4
    · rename_i hm; rw [if_neg hm] at h4
      simp only [Bool.and_eq_true] at h4
      exact h4.2
theorem Col.near {D : DataW Unit} {lv : Cel → Bool} {C : List Cel} {left : Lit → Bool} {out : List Cel} (h : Col D lv left out) (hR : Reads Try.prog 99 D (countF C)) : out.length ≤ 9 * C.length := by
  have hlen : (C.flatMap around).length = 9 * C.length := by
    clear h hR
    induction C with
    | nil => rfl
    | cons c r ih => rw [List.flatMap_cons, List.length_append, ih]; simp [around]; omega
  rw [← hlen]
  refine nodup_le _ _ h.nd fun c hc => ?_
  obtain ⟨kl, h1, h2, _, _⟩ := (h.mem c).1 hc
  rw [(hR.at_ c kl h1).1] at h2
  obtain ⟨d, hd, hcd⟩ := (countF_is c _ C rfl).1.1 h2
  exact List.mem_flatMap.2 ⟨d, hd, hcd⟩
theorem next_same {f g : Nat → Bool} {C out : List Cel} (hn : out.Nodup) (h : ∀ c, c ∈ out ↔ c ∈ nextL f g C) : out.length = (nextL f g C).length :=
  Nat.le_antisymm (nodup_le _ _ hn fun c hc => (h c).1 hc) (nodup_le _ _ (asc_nodup (asc_nextL f g C)) fun c hc => (h c).2 hc)

/-- More of the same: the map at b, and what is new. -/
theorem grown_own {w W W' : World} {b : Nat} {row : Option Nat} (h : w.grownBy W (some b)) (k : W.grownBy W' row) (hr : ∀ j, row = some j → w.heap.size ≤ j) : w.grownBy W' (some b) :=
  ⟨k.os.trans h.os, k.tape.trans h.tape, k.output.trans h.output, Nat.le_trans h.size k.size, fun i hi hne => (k.block i (Nat.lt_of_lt_of_le hi h.size) (fun e => by have := hr i e.symm; omega)).trans (h.block i hi hne)⟩

theorem infoL : (Try.prog.info? 44).map (·.size) = some 18 := by kernel_rfl
theorem infoC : (Try.prog.info? 99).map (fun i => (i.zero, i.size, i.bytes)) = some (some (.agg #[.int .i64 0, .int .i64 0]), 2, 16) := by kernel_rfl

/-- What next leaves. -/
def NextOut (f g : Nat → Bool) (b : Nat) (C : List Cel) (w : World) (e : Ending) (w' : World) : Prop :=
  w.grownBy w' (some b) ∧ (∃ n, ∃ D : DataW Unit, w'.ownsMap Try.prog 99 (plainElem Try.prog 3) b n D) ∧
      if 100 < (nextL f g C).length then e = .panicked (refusal 5 0) else ∃ v', e = .returned v' ∧ w'.ownsRow w.heap.size 99 2 v' (nextL f g C).length (flatC (nextL f g C))

/-- What has does. -/
def HasDoes : Prop := ∀ (v : Value) (C : List Cel) (x y : Int) (w : World), RowAt w v C → C.length ≤ 1000000 → Asc C →
    Calls Try.prog 62 #[v, .agg #[.int .i64 x, .int .i64 y]] w fun e w' => e = .returned (.bool (decide ((x, y) ∈ C))) ∧ Below w.heap.size w w'

set_option maxRecDepth 100000 in
set_option maxHeartbeats 1600000 in
theorem next_walk (hhas : HasDoes) (f g : Nat → Bool) (v : Value) (b nn : Nat) (C : List Cel) (D0 : DataW Unit) (w : World) (hrow : RowAt w v C) (hasc : Asc C)
    (hm : w.ownsMap Try.prog 99 (plainElem Try.prog 3) b nn D0) (hB : ∀ c ∈ C, (-4000000000000000000 ≤ c.1 ∧ c.1 ≤ 4000000000000000000) ∧ (-4000000000000000000 ≤ c.2 ∧ c.2 ≤ 4000000000000000000)) (hl : C.length ≤ 1000) :
    Calls Try.prog 50 #[.agg (twoN f g), v, .map (some b)] w (NextOut f g b C w) := by
  obtain ⟨i0, hi, hz0, hz1, hz2⟩ := info_parts infoC
  have hbl := hm.lt
  obtain ⟨ad, cp, hv, gg, hgg, hrow'⟩ : ∃ ad cp, v = .slice ad C.length cp ∧ ∃ gg, gg < w.heap.size ∧ (C = [] ∨ (ad = some ⟨gg, 0, none⟩ ∧ CellsAt w gg C ∧ gg < w.heap.size)) := by
    rcases hrow with ⟨rfl, rfl⟩ | ⟨g', cap, rfl, h2, h3⟩
    · exact ⟨none, 0, rfl, b, hbl, .inl rfl⟩
    · exact ⟨_, cap, rfl, g', h3, .inr ⟨rfl, h2, h3⟩⟩
  have hT := fun (u : World) (hu : w.grownBy u none) => callsIn_wide.1 (tally_in ad cp b nn gg C D0 u (hrow'.imp id fun ⟨h1, h2, h3⟩ => ⟨h1, h2.same (hu.block gg h3 (by simp)), Nat.lt_of_lt_of_le h3 hu.size⟩) (Nat.lt_of_lt_of_le hgg hu.size) (hm.kept hu (by simp)) hB hl)
  have hT0 := hT (w.alloc (.cells (twoN f g) 44)) (World.grownBy_alloc w _ _)
  clear hT
  subst hv
  obtain ⟨L, hL⟩ : ∃ L, twoN f g = L := ⟨_, rfl⟩
  have HL : Hid ((Try.prog.info? 44).map (·.size) = some L.size) := by
    show _ = _
    rw [← hL]; exact infoL
  have hlv := fun b n hn w => lives_any f g b n hn w
  rw [hL] at hT0 hlv ⊢
  clear hL
  go_enter Try.func50, Try.ntmps50
  go_wp2_with (first
    | (go_at_call 60; refine hT0.mono ?_; rintro e w1 ⟨rfl, hg1, D1, ho1, hR1⟩)
    | (at_range; refine wpList_range_own _ rfl _ 111 rfl 99 3 keyC Try.underlying111 _ b (10 * C.length) D1 rfl ho1 ?_; intro w2 hrg0 hg2 hs2)
    | go_in)
  have hr0 : w.heap.size < w1.heap.size := by have := hg1.size; simp at this; omega
  have gw1 : w.grownBy w1 (some b) := (World.grownBy_alloc w _ _).trans hg1
  have bx0 : w2.heap[w.heap.size]? = some (.cells L 44 (0, 0)) := (hg2.block _ hr0 (by simp)).trans ((hg1.block w.heap.size (by simp) (fun e => by cases e; omega)).trans (blk_new w _))
  have gw2 : w.grownBy w2 (some b) := grown_own gw1 hg2 (fun j e => by cases e)
  clear hs2 hg1 hT0
  go_frame
  go_loopw [7] (fun v7 wr => ∃ (left : Lit → Bool) (cnt : Nat) (out : List Cel), wr.ranges Try.prog 99 (plainElem Try.prog 3) b w1.heap.size (10 * C.length) D1 left cnt ∧ wr.ownsRow w.heap.size 99 2 v7 out.length (flatC out) ∧ Col D1 (lvP f g C) left out ∧ w.grownBy wr (some b) ∧ wr.heap[w.heap.size]? = some (.cells L 44 (0, 0)))
    (fun _ wr => wr.rangeLeft b w1.heap.size)
  case atStart => exact ⟨_, _, [], hrg0, ⟨rfl, .inl ⟨rfl, rfl⟩⟩, Col.start D1 _, gw2, bx0⟩
  case round =>
    obtain ⟨left, cnt, out, hrg, own, hC, gw, bx⟩ := hrel
    have hlen := hC.near hR1
    go_wp2_with (first
      | (at_next; refine wpList_next_ranges _ rfl _ rfl 99 keyC (plainElem Try.prog 3) kcell (Value.int .i64) (fun key kl hk => by obtain ⟨x, y, hx, _⟩ := keyOf_pair_inv arrC Try.underlying3 sizC hk; exact ⟨(x, y), hx⟩) (fun v y hv => by obtain ⟨c, rfl, _⟩ := plainElem_int_inv Try.underlying3 hv; exact ⟨c, rfl⟩) b w1.heap.size (10 * C.length) _ _ _ rfl hrg ?_ ?_)
      | go_in)
    · intro hc0 hl0
      have hall := hC.all hl0 hR1 hB
      have hsame := next_same hC.nd hall
      have hfin : ∃ n, ∃ D : DataW Unit, wr.ownsMap Try.prog 99 (plainElem Try.prog 3) b n D := ⟨_, _, hrg.owns⟩
      have HS : Hid (out.length = (nextL f g C).length) := hsame
      clear hsame hlv hhas
      rcases own.2 with ⟨rfl, h0⟩ | ⟨g', c7, cur, rfl, hbase, hb, h1, h2, h3, h4⟩
      · have hon : out = [] := List.eq_nil_of_length_eq_zero h0
        have hnl : nextL f g C = [] := List.eq_nil_of_length_eq_zero (by rw [← HS.out]; exact h0)
        have HO : Hid (NextOut f g b C w (.returned (.slice none 0 0)) wr) := by
          show NextOut _ _ _ _ _ _ _
          unfold NextOut
          rw [hnl]
          exact ⟨gw, hfin, _, rfl, rfl, .inl ⟨rfl, rfl⟩⟩
        clear hnl h0 hon
        go_wp2_with (go_at_call 63; refine (sort_none none 0 _ _).mono ?_; rintro e w' ⟨rfl, rfl⟩)
        go_ret
        exact HO.out
      by_cases hbig : 100 < out.length
      · have hbi : (100 : Int) < (out.length : Int) := by omega
        have HO : Hid (NextOut f g b C w (.panicked (refusal 5 0)) wr) := by
          show NextOut _ _ _ _ _ _ _
          unfold NextOut
          rw [if_pos (by rw [← HS.out]; exact hbig)]
          exact ⟨gw, hfin, rfl⟩
        go_wp2_with (go_at_call 20; refine (giveUp_any 5 0 _).mono ?_; rintro e w' ⟨rfl, rfl⟩)
        exact ⟨rfl, HO.out⟩
      · have hbi : ¬ (100 : Int) < (out.length : Int) := by omega
        go_wp2_with (go_at_call 63; refine (sort_any w.heap.size g' c7 out wr own hC.nd (by omega)).mono ?_; rintro e w' ⟨rfl, M, hp, ha, ownM, hgM⟩)
        go_ret
        have hMn : M = nextL f g C := asc_unique ha (asc_nextL f g C) fun c => (hp.mem_iff).trans (hall c)
        have hbn : ¬ 100 < (nextL f g C).length := by rw [← HS.out]; exact hbig
        unfold NextOut
        rw [if_neg hbn, ← HS.out, ← hMn]
        refine ⟨grown_own gw hgM (fun j e => by cases e; exact hbase), ?_, _, rfl, ownM⟩
        obtain ⟨n, D, hD⟩ := hfin
        exact ⟨n, D, hD.kept hgM (fun e => by have := Option.some.inj e; omega)⟩
    · intro px py c kl yd yp w3 cnt2 hkey hlk hv hat hrg2 hlt hg3 hs3 hen
      obtain ⟨c', hc', hy, _⟩ := plainElem_int_inv Try.underlying3 hv
      cases hc'
      simp only [Prod.mk.injEq] at hy
      have hcn : c = (nbC C (px, py) : Int) := by
        have h1 := (hR1.at_ (px, py) kl hkey).2
        rw [hat, hy.1, (countF_is (px, py) _ C rfl).2] at h1
        cases h1; rfl
      have hm8 := nbC_le hasc (px, py)
      obtain ⟨m, hmm⟩ : ∃ m, nbC C (px, py) = m := ⟨_, rfl⟩
      rw [hmm] at hcn hm8
      subst hcn
      have HM : Hid (nbC C (px, py) = m) := hmm
      clear hmm hv hat hy hs3
      simp only [kcell] at hen
      have gw3 : w.grownBy w3 (some b) := grown_own gw hg3 (fun j e => by have := Option.some.inj e; omega)
      have own3 := own.kept hg3 (Or.inr (row_ne_iter own hrg).symm)
      have bx3 : w3.heap[w.heap.size]? = some (.cells L 44 (0, 0)) := (hg3.block _ (blk_lt bx) (fun e => by have := Option.some.inj e; omega)).trans bx
      go_wp2
      have c4 := blk_new w3 (.cells #[.int .i64 px, .int .i64 py] 99)
      have bx4 := blk_old bx3 (.cells #[.int .i64 px, .int .i64 py] 99)
      have own4 := own3.alloc (.cells #[.int .i64 px, .int .i64 py] 99)
      have hrg4 := hrg2.alloc (.cells #[.int .i64 px, .int .i64 py] 99)
      have gw4 := grown_own gw3 (World.grownBy_alloc w3 (.cells #[.int .i64 px, .int .i64 py] 99) none) (fun j e => by cases e)
      have hlt3 : w3.heap.size < (w3.alloc (.cells #[.int .i64 px, .int .i64 py] 99)).heap.size := by simp
      have row4 : RowAt (w3.alloc (.cells #[.int .i64 px, .int .i64 py] 99)).drew (.slice ad C.length cp) C := by
        rcases hrow' with h | ⟨h1, h2, h3⟩
        · subst h
          rcases hrow with ⟨h, _⟩ | ⟨g', cap, h1, h2, h3⟩
          · exact .inl ⟨h, rfl⟩
          · exact .inr ⟨g', cap, h1, ⟨fun j u hu => by simp [flatC] at hu⟩, Nat.lt_of_lt_of_le h3 gw4.size⟩
        · by_cases hgb : gg = b
          · cases C with
            | nil => 
              subst h1
              exact .inr ⟨gg, cp, rfl, ⟨fun j u hu => by simp [flatC] at hu⟩, Nat.lt_of_lt_of_le h3 gw4.size⟩
            | cons q r =>
              exfalso
              obtain ⟨es, clock, hb', _⟩ := hm
              have := (h2.get 0 q rfl).1
              subst hgb
              simp [World.cell?, hb'] at this
          · subst h1
            exact .inr ⟨gg, cp, rfl, h2.same (gw4.block gg h3 (fun e => hgb (Option.some.inj e))), Nat.lt_of_lt_of_le h3 gw4.size⟩
      have hH := hhas (.slice ad C.length cp) C px py _ row4 (by omega) hasc
      have hLb := hlv (decide ((px, py) ∈ C)) m (by omega)
      have HLV : Hid ((if decide ((px, py) ∈ C) then g m else f m) = lvP f g C (px, py)) := by
        show _ = _
        unfold lvP
        rw [HM.out]
        by_cases hmem : (px, py) ∈ C <;> simp [hmem]
      generalize decide ((px, py) ∈ C) = hb at hH hLb HLV
      obtain ⟨lv, hlvv⟩ : ∃ lv, (if hb = true then g m else f m) = lv := ⟨_, rfl⟩
      simp only [hlvv] at hLb
      rw [hlvv] at HLV
      clear hlvv hhas hlv row4 hrow hrow'
      generalize (w3.alloc (.cells #[.int .i64 px, .int .i64 py] 99)) = W4 at *
      have q0 := cell_of c4 0
      have q1 := cell_of c4 1
      have q0' : W4.drew.cell? ⟨w3.heap.size, 0, none⟩ = some (.int .i64 px) := q0
      have q1' : W4.drew.cell? ⟨w3.heap.size, 1, none⟩ = some (.int .i64 py) := q1
      have bx4' : W4.drew.heap[w.heap.size]? = some (.cells L 44 (0, 0)) := bx4
      refine wp_mono (Q := fun e a' w' => e = .normal ∧ a' = { tmps := List.toArray ((.agg L : Value) :: (.slice ad C.length cp : Value) :: (.map (some b) : Value) :: (.pointer (some ⟨w.heap.size, 0, none⟩) : Value) :: undef :: undef :: (.slice none 0 0 : Value) :: (u7 : Value) :: (.pointer (some ⟨w3.heap.size, 0, none⟩) : Value) :: (.int .i64 (m : Int) : Value) :: (.slice ad C.length cp : Value) :: (.map (some b) : Value) :: (.tuple #[] : Value) :: (.map (some b) : Value) :: (.pointer (some ⟨w1.heap.size, 0, none⟩) : Value) :: (.tuple #[.bool true, kcell (px, py), .int .i64 (m : Int)] : Value) :: (.bool true : Value) :: (.tuple #[.agg #[.int .i64 px, .int .i64 py], .int .i64 (m : Int)] : Value) :: (.agg #[.int .i64 px, .int .i64 py] : Value) :: (.int .i64 (m : Int) : Value) :: (.agg L : Value) :: (.slice ad C.length cp : Value) :: (.agg #[.int .i64 px, .int .i64 py] : Value) :: (.bool hb : Value) :: (.int .i64 (m : Int) : Value) :: (.bool lv : Value) :: (u26 : Value) :: (u27 : Value) :: (u28 : Value) :: (u29 : Value) :: undef :: undef :: undef :: undef :: undef :: undef :: undef :: []), defers := [] } ∧ ∃ w5, Below W4.heap.size W4 w5 ∧ w' = w5.alloc (.cells L 44)) ?_ ?_
      · refine wp_region_any (by kernel_rfl) ?_
        change wpAny _ _ _ _ _ _ _ (World.drew _)
        refine wpAny_take (i := 1) (v := .slice ad C.length cp) rfl (by kernel_rfl) (by kernel_rfl) (by kernel_rfl) (fun _ _ _ h => nomatch h.1) (Or.inl ⟨by rfl, fun w => by go_simp⟩) ?_
        refine wpAny_take (i := 4) (v := .int .i64 (m : Int)) rfl (by kernel_rfl) (by kernel_rfl) (by kernel_rfl) (fun _ _ _ h => nomatch h.1) (Or.inl ⟨by rfl, fun w => by go_simp⟩) ?_
        refine wpAny_ready (rs := [0, 2]) (by kernel_rfl) (by simp) (AllReady.cons rfl (fun K hK => ?_) (AllReady.cons rfl (fun K hK => ?_) AllReady.nil))
        · refine (if_pos (by rfl)).mpr (wp_load_row 44 (Operand.tmp 3) rfl w.heap.size rfl 44 L (0, 0) _ bx4' Try.underlying44 rfl HL.out (hK _ _ ?_))
          clear hK K
          refine wpAny_ready (rs := [2]) (by kernel_rfl) (by simp) (AllReady.cons rfl (fun K hK => ?_) AllReady.nil)
          go_simp
          refine hK _ _ ?_
          clear hK K
          refine wpAny_ready (rs := [3]) (by kernel_rfl) (by simp) (AllReady.cons rfl (fun K hK => ?_) AllReady.nil)
          go_simp
          refine hH.mono ?_
          rintro e w5 ⟨rfl, hb5⟩
          refine hK _ _ ?_
          clear hK K
          refine wpAny_ready (rs := [5]) (by kernel_rfl) (by simp) (AllReady.cons rfl (fun K hK => ?_) AllReady.nil)
          go_simp
          refine (hLb w5).mono ?_
          rintro e w6 ⟨rfl, rfl⟩
          refine hK _ _ ?_
          clear hK K
          refine wpAny_done (by kernel_rfl) ?_ _
          exact ⟨rfl, rfl, w5, ⟨hb5.os, hb5.tape, hb5.output, hb5.size, hb5.block⟩, rfl⟩
        · go_simp
          refine hK _ _ ?_
          clear hK K
          refine wpAny_ready (rs := [0, 3]) (by kernel_rfl) (by simp) (AllReady.cons rfl (fun K hK => ?_) (AllReady.cons rfl (fun K hK => ?_) AllReady.nil))
          · refine (if_pos (by rfl)).mpr (wp_load_row 44 (Operand.tmp 3) rfl w.heap.size rfl 44 L (0, 0) _ bx4' Try.underlying44 rfl HL.out (hK _ _ ?_))
            clear hK K
            refine wpAny_ready (rs := [3]) (by kernel_rfl) (by simp) (AllReady.cons rfl (fun K hK => ?_) AllReady.nil)
            go_simp
            refine hH.mono ?_
            rintro e w5 ⟨rfl, hb5⟩
            refine hK _ _ ?_
            clear hK K
            refine wpAny_ready (rs := [5]) (by kernel_rfl) (by simp) (AllReady.cons rfl (fun K hK => ?_) AllReady.nil)
            go_simp
            refine (hLb w5).mono ?_
            rintro e w6 ⟨rfl, rfl⟩
            refine hK _ _ ?_
            clear hK K
            refine wpAny_done (by kernel_rfl) ?_ _
            exact ⟨rfl, rfl, w5, ⟨hb5.os, hb5.tape, hb5.output, hb5.size, hb5.block⟩, rfl⟩
          · go_simp
            refine hH.mono ?_
            rintro e w5 ⟨rfl, hb5⟩
            refine hK _ _ ?_
            clear hK K
            refine wpAny_ready (rs := [0]) (by kernel_rfl) (by simp) (AllReady.cons rfl (fun K hK => ?_) AllReady.nil)
            refine (if_pos (by rfl)).mpr (wp_load_row 44 (Operand.tmp 3) rfl w.heap.size rfl 44 L (0, 0) _ ((hb5.block _ (blk_lt bx4')).trans bx4') Try.underlying44 rfl HL.out (hK _ _ ?_))
            clear hK K
            refine wpAny_ready (rs := [5]) (by kernel_rfl) (by simp) (AllReady.cons rfl (fun K hK => ?_) AllReady.nil)
            go_simp
            refine (hLb w5).mono ?_
            rintro e w6 ⟨rfl, rfl⟩
            refine hK _ _ ?_
            clear hK K
            refine wpAny_done (by kernel_rfl) ?_ _
            exact ⟨rfl, rfl, w5, ⟨hb5.os, hb5.tape, hb5.output, hb5.size, hb5.block⟩, rfl⟩
      rintro e a' w' ⟨rfl, rfl, w5, hb5, rfl⟩
      have gr5 : W4.grownBy (w5.alloc (.cells L 44)) none := (grown_of_below hb5).trans (World.grownBy_alloc w5 _ _)
      have hb6 : Below W4.heap.size W4 (w5.alloc (.cells L 44)) := hb5.alloc hb5.size _
      have own6 := own4.kept gr5 (Classical.em _)
      have hrg6 := hrg4.kept gr5 (by simp) (by simp)
      have gw6 := grown_own gw4 gr5 (fun j e => by cases e)
      have bx6 := (hb6.block _ (blk_lt bx4)).trans bx4
      have c6 := (hb6.block _ (blk_lt c4)).trans c4
      have hCs := hC.step hkey hlk
      rw [← HLV.out] at hCs
      clear hH hLb q0 q1 q0' q1' bx4' gr5 hb6 hb5 hen
      generalize (w5.alloc (.cells L 44)) = W6 at *
      have q0 := cell_of c6 0
      have q1 := cell_of c6 1
      have hw6 := gw6.size
      cases lv with
      | false =>
        go_wp2
        go_roundw
        case rel => exact ⟨_, _, out, hrg6, own6, by simpa using hCs, gw6, bx6⟩
        case measure => rw [hrg6.left_eq, hrg.left_eq]; exact hlt
      | true =>
        go_wp2_with (at_builtin; refine wpList_append_own _ rfl _ _ 65 rfl w.heap.size 99 i0 (.agg #[.int .i64 0, .int .i64 0]) 2 16 Try.underlying65 hi hz0 hz1 hz2 rfl (by decide) _ _ _ rfl (own6.alloc _) ⟨W6.heap.size, 0, none⟩ 1 1 [.int .i64 px, .int .i64 py] rfl rfl (cell_two_new _ _ _ _) (by simp [Value.oneCell']) (by unfold maxLen; omega) (by omega) (by simp; omega) ?_; intro v' w8 own8 hgr8 _)
        have hrg8 := (hrg6.alloc (.cells #[.int .i64 px, .int .i64 py] 99)).kept hgr8 (row_ne_low own6 hbl) (row_ne_iter own6 hrg6)
        go_roundw
        case rel =>
          refine ⟨_, _, out ++ [(px, py)], hrg8, ?_, by simpa using hCs, grown_own (gw6.trans (World.grownBy_alloc W6 _ _)) hgr8 (fun j e => (own6.lt j e).1), ?_⟩
          · rw [flatC_append, List.length_append]
            exact own8
          · exact other_kept (own6.alloc _) hgr8 ((Below.heap_alloc W6 _ _ (blk_lt bx6)).trans bx6) (by decide)
        case measure => rw [hrg8.left_eq, hrg.left_eq]; exact hlt

end Go.Proofs.Ytiohpcnnpmnjhaa
