import Derived.Test.YtiohpcnnpmnjhaaGreatDoorShelfSort
import Derived.Test.YtiohpcnnpmnjhaaGreatDoorCompareC
import Derived.Test.YtiohpcnnpmnjhaaGreatDoorLifeSpec
import Derived.Test.YtiohpcnnpmnjhaaGreatDoorTalM
import Derived.Test.YtiohpcnnpmnjhaaGreatDoorRefLife1
import Derived.Sort.OwnSorted
import Derived.Test.YtiohpcnnpmnjhaaGreatDoorArnM
import Derived.Test.YtiohpcnnpmnjhaaGreatDoorLfbM
namespace Go.Proofs.YtiohpcnnpmnjhaaGreatDoor
open Go.RowKit
open Go.Sort (SWO PermIn SortedIn grow alloc_eq_grow grow_grow Holds putRow putCells mapBlock onCells flatK get_flatK size_flatK putRowK HoldsK)
set_option linter.unusedVariables false

/-- A cell's two numbers. -/
def encS (c : Cel) : List Value := [.int .i64 c.1, .int .i64 c.2]
theorem lt_cmpC (x y : Cel) : ltOf cmpC x y = decide (before x y) := by
  unfold ltOf
  exact decide_eq_decide.2 (cmpC_lt x y)
theorem swoC : SWO (ltOf cmpC) where
  irrefl x := by rw [lt_cmpC]; simpa using before_irr x
  trans x y z h1 h2 := by
    rw [lt_cmpC] at *
    simp only [decide_eq_true_eq] at *
    exact before_trans h1 h2
  ntrans x y z h1 h2 := by
    rw [lt_cmpC] at *
    simp only [decide_eq_false_iff_not] at *
    intro h
    rcases before_tri x y with h3 | h3 | h3
    · exact h1 h3
    · subst h3; exact h2 h
    · rcases before_tri y z with h4 | h4 | h4
      · exact h2 h4
      · subst h4; exact h1 h
      · exact before_irr x (before_trans h (before_trans h4 h3))

theorem cmpLaysC (blk off size : Nat) (w : World) : CmpLays Tryz.prog 111 #[] encS 2 cmpC blk off size w := fun m os dk hs x y => by
  obtain ⟨a, b⟩ := x
  obtain ⟨c, d⟩ := y
  refine (compare_any a b c d _).mono ?_
  rintro e w' ⟨rfl, rfl⟩
  refine ⟨rfl, 1, #[.cells #[.int .i64 a, .int .i64 b] 113, .cells #[.int .i64 c, .int .i64 d] 113, .cells #[.int .i64 (cmpI b d), .int .i64 (cmpI a c)] 3], ?_⟩
  rw [alloc_eq_grow, alloc_eq_grow, alloc_eq_grow, grow_grow, grow_grow]
  rfl

theorem flat_at (L : List Cel) (j : Nat) (h : j < L.length * 2) : (flatC L)[j]? = some ((flatK encS 2 L.toArray)[j]!) := by
  have h2 : j / 2 < L.length := by omega
  obtain ⟨h3, h4⟩ := flatC_get L (j / 2) L[j / 2] (by simp [h2])
  rw [get_flatK encS 2 L.toArray j (by simpa using h)]
  have hg : L.toArray[j / 2]! = L[j / 2] := by simp [h2]
  rw [hg]
  rcases Nat.mod_two_eq_zero_or_one j with hm | hm
  · rw [hm]
    rw [show j / 2 * 2 = j by omega] at h3
    simpa [encS] using h3
  · rw [hm]
    rw [show j / 2 * 2 + 1 = j by omega] at h4
    simpa [encS] using h4

theorem sw_heap (w : World) (g n : Nat) (d : Array Cel) (os : Array Obj) {k : Nat} (hk : k < w.heap.size) (hne : k ≠ g) : (sortWorldK encS 2 w g 0 n d os).heap[k]? = w.heap[k]? := by
  unfold sortWorldK putRowK putRow mapBlock grow Sort.ahead
  simp only
  rw [Array.getElem?_append_left (by simpa using hk), Array.getElem?_modify, if_neg (fun h => hne h.symm)]
theorem sw_own (w : World) (g n : Nat) (d : Array Cel) (os : Array Obj) {cs : Array Value} {t : TypeId} {fz : Nat × Nat} (h : w.heap[g]? = some (.cells cs t fz)) :
    (sortWorldK encS 2 w g 0 n d os).heap[g]? = some (.cells (putCells id 0 (flatK encS 2 d) cs) t fz) := by
  unfold sortWorldK putRowK putRow mapBlock grow Sort.ahead
  simp only
  rw [Array.getElem?_append_left (by simpa using blk_lt h), Array.getElem?_modify, if_pos rfl, h]
  rfl
theorem sw_size (w : World) (g n : Nat) (d : Array Cel) (os : Array Obj) : w.heap.size ≤ (sortWorldK encS 2 w g 0 n d os).heap.size := by
  unfold sortWorldK putRowK putRow mapBlock grow Sort.ahead
  simp
theorem sw_rest (w : World) (g n : Nat) (d : Array Cel) (os : Array Obj) : (sortWorldK encS 2 w g 0 n d os).os = w.os ∧ (sortWorldK encS 2 w g 0 n d os).tape = w.tape ∧ (sortWorldK encS 2 w g 0 n d os).output = w.output := ⟨rfl, rfl, rfl⟩

theorem sw_take (L : List Cel) (cs : Array Value) (hs : L.length * 2 ≤ cs.size) : (putCells id 0 (flatK encS 2 L.toArray) cs).toList.take (L.length * 2) = flatC L := by
  apply List.ext_getElem?
  intro j
  rw [List.getElem?_take]
  split
  · rename_i hj
    rw [flat_at L j hj]
    unfold putCells
    rw [Array.getElem?_toList, Array.getElem?_mapIdx, Array.getElem?_eq_getElem (by omega)]
    simp only [Option.map_some, Nat.zero_le, Nat.zero_add, size_flatK, List.size_toArray, true_and, Nat.sub_zero, id_eq, if_pos hj]
  · rename_i hj
    rw [List.getElem?_eq_none (by rw [flatC_length]; omega)]

theorem sort_list {L : List Cel} {d' : Array Cel} (hp : PermIn 0 L.toArray.size L.toArray d') (hs : SortedIn (ltOf cmpC) 0 L.toArray.size d') (hn : L.Nodup) : d'.toList.Perm L ∧ Asc d'.toList := by
  obtain ⟨h1, _, h3⟩ := hp
  have hpe : d'.toList.Perm L := by
    have e1 : (d'.extract 0 L.toArray.size).toList = d'.toList := by rw [← h1]; simp
    rw [e1] at h3
    simpa using h3
  refine ⟨hpe, ?_⟩
  have hn' : d'.toList.Nodup := hpe.nodup_iff.2 hn
  refine List.pairwise_iff_getElem.2 fun i j hi hj hij => ?_
  have hlen : d'.toList.length = L.length := hpe.length_eq
  have hs' := hs i j (Nat.zero_le _) hij (by simp; omega)
  simp only [Array.length_toList] at hi hj
  rw [getElem!_pos d' j hj, getElem!_pos d' i hi, lt_cmpC] at hs'
  simp only [decide_eq_false_iff_not] at hs'
  rw [Array.getElem_toList, Array.getElem_toList]
  rcases before_tri d'[i] d'[j] with h | h | h
  · exact h
  · exact absurd h (by
      have := List.pairwise_iff_getElem.1 (List.nodup_iff_pairwise_ne.1 hn') i j (by simpa using hi) (by simpa using hj) hij
      simpa using this)
  · exact absurd h hs'

set_option maxHeartbeats 1000000 in
theorem sort_any (base g cap : Nat) (L : List Cel) (w : World) (own : w.ownsRow base 113 2 (.slice (some ⟨g, 0, none⟩) L.length cap) L.length (flatC L)) (hn : L.Nodup) (hl : L.length ≤ 1000000) :
    Calls Tryz.prog 110 #[.slice (some ⟨g, 0, none⟩) L.length cap, .func (.func 111) #[] #[]] w fun e w' => e = .returned (.tuple #[]) ∧
      ∃ M : List Cel, M.Perm L ∧ Asc M ∧ w'.ownsRow base 113 2 (.slice (some ⟨g, 0, none⟩) L.length cap) L.length (flatC M) ∧ w.grownBy w' (some g) := by
  rcases own.2 with ⟨h, _⟩ | ⟨g', cap', cur, hv, hbase, hb, h1, h2, h3, h4⟩
  · cases h
  cases hv
  have hgl := blk_lt hb
  have hH : HoldsK encS 2 w g 0 L.toArray := fun j hj => by
    have hj' : j < L.length * 2 := by simpa using hj
    have hf := flat_at L j hj'
    rw [← h4, List.getElem?_take, if_pos hj'] at hf
    refine ⟨?_, by simp [World.frozen?, hb]⟩
    simp only [Nat.zero_add, World.cell?, hb, id_eq]
    simpa using hf
  have eg : ∀ args w, (callFunc 111 args).run Tryz.prog w = .ok (.enter 111 args) w := enters_of Tryz.func111 (by kernel_rfl) rfl
  have hsz : L.toArray.size < 4611686018427387904 := by simp; omega
  have hlim : Lib.bitLen L.toArray.size < 4611686018427387904 := Nat.lt_of_le_of_lt (Lib.bitLen_le L.toArray.size 62 (by omega) (by omega)) (by omega)
  have hp := AnyQ.pdqsortCmpFunc_all Tryz.sortC 2 Tryz.isAgg113 Tryz.sizeOf113 encS cmpC 111 #[] swoC g 0 cap L.toArray w eg (cmpLaysC g 0 _ w) ⟨fun _ => rfl, fun x v hv => by simp [encS] at hv; rcases hv with rfl | rfl <;> rfl, hH, hgl⟩ (L.toArray.size + 1) 0 L.toArray.size (Lib.bitLen L.toArray.size) L.toArray w (by omega) rfl (SWK.start hH) (Nat.zero_le _) (Nat.le_refl _) hsz hlim (Or.inl rfl)
  change Calls Tryz.prog 126 _ _ _ at hp
  have hbl : Calls Tryz.prog 127 #[.int .u64 (L.toArray.size : Int)] w fun e w' => e = .returned (.int .i64 (Lib.bitLen L.toArray.size : Nat)) ∧ w' = w := by
    have h := Any.bits_Len (SlLaysF0.n15.bits Tryz.bitsC) (L.toArray.size : Int) w (by omega) (by omega)
    rwa [Int.toNat_natCast] at h
  have hps := Sort.pdq_sorts (ltOf cmpC) swoC L.toArray 0 L.toArray.size (Lib.bitLen L.toArray.size) true true (Nat.zero_le _) (Nat.le_refl _) (Or.inl rfl)
  have wr : IntKind.u64.wrap (L.toArray.size : Int) = L.toArray.size := by simp [IntKind.wrap, IntKind.bits, IntKind.signed]; omega
  have hfin : ∀ w', SWK encS 2 w g 0 (Sort.pdq (ltOf cmpC) L.toArray 0 L.toArray.size (Lib.bitLen L.toArray.size) true true) w' → ∃ M : List Cel, M.Perm L ∧ Asc M ∧ w'.ownsRow base 113 2 (.slice (some ⟨g, 0, none⟩) L.length cap) L.length (flatC M) ∧ w.grownBy w' (some g) := by
    rintro w' ⟨n, os, rfl⟩
    obtain ⟨hpe, ha⟩ := sort_list hps.1 hps.2 hn
    generalize Sort.pdq (ltOf cmpC) L.toArray 0 L.toArray.size (Lib.bitLen L.toArray.size) true true = d' at hpe ha ⊢
    have hML : d'.toList.length = L.length := hpe.length_eq
    refine ⟨d'.toList, hpe, ha, ⟨by rw [flatC_length, hML], .inr ⟨g, cap, _, rfl, hbase, sw_own w g n d' os hb, h1, h2, by simp [putCells, h3], ?_⟩⟩, ⟨rfl, rfl, rfl, sw_size _ _ _ _ _, fun k hk hne => sw_heap _ _ _ _ _ hk (fun e => hne (by rw [e]))⟩⟩
    have := sw_take d'.toList cur (by omega)
    rw [hML] at this
    simpa using this
  simp only [List.size_toArray] at hp hbl wr hfin
  generalize Sort.pdq (ltOf cmpC) L.toArray 0 L.length (Lib.bitLen L.length) true true = r at hp hfin
  clear hps hH hb h3 h4
  go_enter Tryz.func110, Tryz.ntmps110
  go_wp2_with (first
    | (go_at_call 127; refine hbl.mono ?_; rintro e w1 ⟨rfl, rfl⟩)
    | (go_at_call 126; refine hp.mono ?_; rintro e w1 ⟨rfl, hsw⟩))
  go_end0
  exact ⟨rfl, hfin _ hsw⟩

set_option maxHeartbeats 1000000 in
theorem insNone (p : Option Addr) (cap : Nat) (fv : Value) (w : World) : Calls Tryz.prog 144 #[.slice p 0 cap, .int .i64 0, .int .i64 0, fv] w fun e w' => e = .returned (.tuple #[]) ∧ w' = w := by
  go_enter Tryz.func144, Tryz.ntmps144
  go_wp2
  refine wp_loop_rounds 1 ?_
  rw [rounds_succ]
  go_wp2
  go_end0
  exact ⟨rfl, rfl⟩

set_option maxHeartbeats 1000000 in
theorem pdqNone (p : Option Addr) (cap : Nat) (lim : Int) (fv : Value) (w : World) : Calls Tryz.prog 126 #[.slice p 0 cap, .int .i64 0, .int .i64 0, .int .i64 lim, fv] w fun e w' => e = .returned (.tuple #[]) ∧ w' = w := by
  go_enter Tryz.func126, Tryz.ntmps126
  go_wp2
  refine wp_loop_rounds 1 ?_
  rw [rounds_succ]
  go_wp2_with (go_at_call 144; refine (insNone p cap fv _).mono ?_; rintro e w' ⟨rfl, rfl⟩)
  (try simp only [Exit.inBlock, Exit.then]); refine bodyPost_ret (results_none rfl _ _ _) rfl ?_
  exact ⟨rfl, rfl⟩

set_option maxHeartbeats 1000000 in
theorem sort_none (p : Option Addr) (cap : Nat) (fv : Value) (w : World) : Calls Tryz.prog 110 #[.slice p 0 cap, fv] w fun e w' => e = .returned (.tuple #[]) ∧ w' = w := by
  have hl : ∀ W, Calls Tryz.prog 127 #[.int .u64 0] W fun e w' => e = .returned (.int .i64 (Lib.bitLen 0 : Nat)) ∧ w' = W := fun W => Any.bits_Len (SlLaysF0.n15.bits Tryz.bitsC) 0 W (by omega) (by omega)
  go_enter Tryz.func110, Tryz.ntmps110
  go_wp2_with (first
    | (go_at_call 127; refine (hl _).mono ?_; rintro e w1 ⟨rfl, rfl⟩)
    | (go_at_call 126; refine (pdqNone p cap _ fv _).mono ?_; rintro e w1 ⟨rfl, rfl⟩))
  go_end0
  exact ⟨rfl, rfl⟩

end Go.Proofs.YtiohpcnnpmnjhaaGreatDoor

namespace Go.Proofs.YtiohpcnnpmnjhaaGreatDoor
open Go.RowKit Go.WideMaps Go.Maps
set_option linter.unusedVariables false

/-- What the program asks of a cell that it has counted for. -/
def lvP (f g : Nat → Bool) (C : List Cel) (c : Cel) : Bool := if c ∈ C then g (nbC C c) else f (nbC C c)
/-- What has been collected while a map is gone through. -/
structure Col (D : DataW Unit) (lv : Cel → Bool) (left : Lit → Bool) (out : List Cel) : Prop where
  nd : out.Nodup
  mem : ∀ c, c ∈ out ↔ ∃ kl, keyOf Tryz.prog 113 (kcell c) = some kl ∧ has D kl = true ∧ left kl = false ∧ lv c = true
  sub : ∀ kl, left kl = true → has D kl = true
theorem Col.start (D : DataW Unit) (lv : Cel → Bool) : Col D lv (has D) [] :=
  ⟨by simp, fun c => ⟨fun h => by simp at h, fun ⟨kl, _, h1, h2, _⟩ => by rw [h1] at h2; cases h2⟩, fun kl h => h⟩
theorem Col.step {D : DataW Unit} {lv : Cel → Bool} {left : Lit → Bool} {out : List Cel} (h : Col D lv left out) {x : Cel} {kl : Lit} (hk : keyOf Tryz.prog 113 (kcell x) = some kl) (hl : left kl = true) :
    Col D lv (fun z => left z && !z.sameKey kl) (if lv x then out ++ [x] else out) := by
  have hx : ¬ x ∈ out := fun hm => by
    obtain ⟨k', h1, _, h3, _⟩ := (h.mem x).1 hm
    rw [hk] at h1; cases h1
    rw [hl] at h3; cases h3
  have hself := WideAt.sameKey_self (keyC.key hk)
  refine ⟨?_, fun c => ?_, fun k' hk' => ?_⟩
  · split
    · exact List.nodup_append.2 ⟨h.nd, by simp, fun a ha b hb => by simp at hb; subst hb; exact fun e => hx (e ▸ ha)⟩
    · exact h.nd
  · by_cases e : c = x
    · subst e
      constructor
      · intro hm
        cases hv : lv c
        · rw [hv] at hm; exact absurd hm hx
        · exact ⟨kl, hk, h.sub kl hl, by simp [hself], rfl⟩
      · rintro ⟨k', h1, h2, h3, h4⟩
        rw [h4]; simp
    · have hmem : (c ∈ if lv x = true then out ++ [x] else out) ↔ c ∈ out := by
        split
        · simp [e]
        · exact Iff.rfl
      rw [hmem, h.mem c]
      refine ⟨fun ⟨k', h1, h2, h3, h4⟩ => ⟨k', h1, h2, by simp [h3], h4⟩, fun ⟨k', h1, h2, h3, h4⟩ => ⟨k', h1, h2, ?_, h4⟩⟩
      have hne : k'.sameKey kl = false := by
        cases hs : k'.sameKey kl
        · rfl
        · exact absurd (kcell_inj (keyC.inj h1 (WideAt.sameKey_eq hs ▸ hk))) e
      simpa [hne] using h3
  · simp only [Bool.and_eq_true] at hk'
    exact h.sub k' hk'.1
theorem Col.all {D : DataW Unit} {f g : Nat → Bool} {C : List Cel} {left : Lit → Bool} {out : List Cel} (h : Col D (lvP f g C) left out) (hl : ∀ kl, left kl = false) (hR : Reads Tryz.prog 113 D (countF C))
    (hB : ∀ c ∈ C, (-4000000000000000000 ≤ c.1 ∧ c.1 ≤ 4000000000000000000) ∧ (-4000000000000000000 ≤ c.2 ∧ c.2 ≤ 4000000000000000000)) (c : Cel) : c ∈ out ↔ c ∈ nextL f g C := by
  rw [h.mem c, mem_nextL]
  have hc := countF_is c _ C rfl
  constructor
  · rintro ⟨kl, h1, h2, _, h4⟩
    rw [(hR.at_ c kl h1).1] at h2
    have hex := hc.1.1 h2
    refine ⟨hex, ?_⟩
    unfold livesC
    unfold lvP at h4
    split
    · rename_i hm; rw [if_pos hm] at h4; exact h4
    · rename_i hm; rw [if_neg hm] at h4
      obtain ⟨d, hd, hcd⟩ := hex
      have hnb : isNb c d = true := eight_isNb.1 (mem_eight.2 ⟨hcd, fun e => hm (e ▸ hd)⟩)
      have hp : 0 < nbC C c := List.countP_pos_iff.2 ⟨d, hd, hnb⟩
      simp [hp, h4]
  · rintro ⟨hex, h4⟩
    obtain ⟨d, hd, hcd⟩ := hex
    have hbd := hB d hd
    have hca := mem_around.1 hcd
    obtain ⟨kl, hkl⟩ := key64 (c := c) ⟨by omega, by omega⟩ ⟨by omega, by omega⟩
    refine ⟨kl, hkl, by rw [(hR.at_ c kl hkl).1]; exact hc.1.2 ⟨d, hd, hcd⟩, hl kl, ?_⟩
    unfold lvP
    unfold livesC at h4
    split
    · rename_i hm; rw [if_pos hm] at h4; exact h4
    · rename_i hm; rw [if_neg hm] at h4
      simp only [Bool.and_eq_true] at h4
      exact h4.2
theorem Col.near {D : DataW Unit} {lv : Cel → Bool} {C : List Cel} {left : Lit → Bool} {out : List Cel} (h : Col D lv left out) (hR : Reads Tryz.prog 113 D (countF C)) : out.length ≤ 9 * C.length := by
  have hlen : (C.flatMap around).length = 9 * C.length := by
    clear h hR
    induction C with
    | nil => rfl
    | cons c r ih => rw [List.flatMap_cons, List.length_append, ih]; simp [around]; omega
  rw [← hlen]
  refine nodup_le _ _ h.nd fun c hc => ?_
  obtain ⟨kl, h1, h2, _, _⟩ := (h.mem c).1 hc
  rw [(hR.at_ c kl h1).1] at h2
  obtain ⟨d, hd, hcd⟩ := (countF_is c _ C rfl).1.1 h2
  exact List.mem_flatMap.2 ⟨d, hd, hcd⟩
theorem next_same {f g : Nat → Bool} {C out : List Cel} (hn : out.Nodup) (h : ∀ c, c ∈ out ↔ c ∈ nextL f g C) : out.length = (nextL f g C).length :=
  Nat.le_antisymm (nodup_le _ _ hn fun c hc => (h c).1 hc) (nodup_le _ _ (asc_nodup (asc_nextL f g C)) fun c hc => (h c).2 hc)

/-- More of the same: the map at b, and what is new. -/
theorem grown_own {w W W' : World} {b : Nat} {row : Option Nat} (h : w.grownBy W (some b)) (k : W.grownBy W' row) (hr : ∀ j, row = some j → w.heap.size ≤ j) : w.grownBy W' (some b) :=
  ⟨k.os.trans h.os, k.tape.trans h.tape, k.output.trans h.output, Nat.le_trans h.size k.size, fun i hi hne => (k.block i (Nat.lt_of_lt_of_le hi h.size) (fun e => by have := hr i e.symm; omega)).trans (h.block i hi hne)⟩

theorem infoL : (Tryz.prog.info? 69).map (·.size) = some 18 := by kernel_rfl
theorem infoC : (Tryz.prog.info? 113).map (fun i => (i.zero, i.size, i.bytes)) = some (some (.agg #[.int .i64 0, .int .i64 0]), 2, 16) := by kernel_rfl

/-- What next leaves. -/
def NextOut (f g : Nat → Bool) (b : Nat) (C : List Cel) (w : World) (e : Ending) (w' : World) : Prop :=
  w.grownBy w' (some b) ∧ (∃ n, ∃ D : DataW Unit, w'.ownsMap Tryz.prog 113 (plainElem Tryz.prog 3) b n D) ∧
      if 100 < (nextL f g C).length then e = .panicked (refusal 5 0) else ∃ v', e = .returned v' ∧ w'.ownsRow w.heap.size 113 2 v' (nextL f g C).length (flatC (nextL f g C))

/-- What has does. -/
def HasDoes : Prop := ∀ (v : Value) (C : List Cel) (x y : Int) (w : World), RowAt w v C → C.length ≤ 1000000 → Asc C →
    Calls Tryz.prog 141 #[v, .agg #[.int .i64 x, .int .i64 y]] w fun e w' => e = .returned (.bool (decide ((x, y) ∈ C))) ∧ Below w.heap.size w w'

set_option maxRecDepth 100000 in
set_option maxHeartbeats 1600000 in
theorem next_walk (hhas : HasDoes) (f g : Nat → Bool) (v : Value) (b nn : Nat) (C : List Cel) (D0 : DataW Unit) (w : World) (hrow : RowAt w v C) (hasc : Asc C)
    (hm : w.ownsMap Tryz.prog 113 (plainElem Tryz.prog 3) b nn D0) (hB : ∀ c ∈ C, (-4000000000000000000 ≤ c.1 ∧ c.1 ≤ 4000000000000000000) ∧ (-4000000000000000000 ≤ c.2 ∧ c.2 ≤ 4000000000000000000)) (hl : C.length ≤ 1000) :
    Calls Tryz.prog 123 #[.agg (twoN f g), v, .map (some b)] w (NextOut f g b C w) := by
  obtain ⟨i0, hi, hz0, hz1, hz2⟩ := info_parts infoC
  have hbl := hm.lt
  obtain ⟨ad, cp, hv, gg, hgg, hrow'⟩ : ∃ ad cp, v = .slice ad C.length cp ∧ ∃ gg, gg < w.heap.size ∧ (C = [] ∨ (ad = some ⟨gg, 0, none⟩ ∧ CellsAt w gg C ∧ gg < w.heap.size)) := by
    rcases hrow with ⟨rfl, rfl⟩ | ⟨g', cap, rfl, h2, h3⟩
    · exact ⟨none, 0, rfl, b, hbl, .inl rfl⟩
    · exact ⟨_, cap, rfl, g', h3, .inr ⟨rfl, h2, h3⟩⟩
  have hT := fun (u : World) (hu : w.grownBy u none) => callsIn_wide.1 (tally_in ad cp b nn gg C D0 u (hrow'.imp id fun ⟨h1, h2, h3⟩ => ⟨h1, h2.same (hu.block gg h3 (by simp)), Nat.lt_of_lt_of_le h3 hu.size⟩) (Nat.lt_of_lt_of_le hgg hu.size) (hm.kept hu (by simp)) hB hl)
  have hT0 := hT (w.alloc (.cells (twoN f g) 69)) (World.grownBy_alloc w _ _)
  clear hT
  subst hv
  obtain ⟨L, hL⟩ : ∃ L, twoN f g = L := ⟨_, rfl⟩
  have HL : Hid ((Tryz.prog.info? 69).map (·.size) = some L.size) := by
    show _ = _
    rw [← hL]; exact infoL
  have hlv := fun b n hn w => lives_any f g b n hn w
  rw [hL] at hT0 hlv ⊢
  clear hL
  go_enter Tryz.func123, Tryz.ntmps123
  go_wp2_with (first
    | (go_at_call 139; refine hT0.mono ?_; rintro e w1 ⟨rfl, hg1, D1, ho1, hR1⟩)
    | (at_range; refine wpList_range_own _ rfl _ 187 rfl 113 3 keyC Tryz.underlying187 _ b (10 * C.length) D1 rfl ho1 ?_; intro w2 hrg0 hg2 hs2)
    | go_in)
  have hr0 : w.heap.size < w1.heap.size := by have := hg1.size; simp at this; omega
  have gw1 : w.grownBy w1 (some b) := (World.grownBy_alloc w _ _).trans hg1
  have bx0 : w2.heap[w.heap.size]? = some (.cells L 69 (0, 0)) := (hg2.block _ hr0 (by simp)).trans ((hg1.block w.heap.size (by simp) (fun e => by cases e; omega)).trans (blk_new w _))
  have gw2 : w.grownBy w2 (some b) := grown_own gw1 hg2 (fun j e => by cases e)
  clear hs2 hg1 hT0
  go_frame
  go_loopw [7] (fun v7 wr => ∃ (left : Lit → Bool) (cnt : Nat) (out : List Cel), wr.ranges Tryz.prog 113 (plainElem Tryz.prog 3) b w1.heap.size (10 * C.length) D1 left cnt ∧ wr.ownsRow w.heap.size 113 2 v7 out.length (flatC out) ∧ Col D1 (lvP f g C) left out ∧ w.grownBy wr (some b) ∧ wr.heap[w.heap.size]? = some (.cells L 69 (0, 0)))
    (fun _ wr => wr.rangeLeft b w1.heap.size)
  case atStart => exact ⟨_, _, [], hrg0, ⟨rfl, .inl ⟨rfl, rfl⟩⟩, Col.start D1 _, gw2, bx0⟩
  case round =>
    obtain ⟨left, cnt, out, hrg, own, hC, gw, bx⟩ := hrel
    have hlen := hC.near hR1
    go_wp2_with (first
      | (at_next; refine wpList_next_ranges _ rfl _ rfl 113 keyC (plainElem Tryz.prog 3) kcell (Value.int .i64) (fun key kl hk => by obtain ⟨x, y, hx, _⟩ := keyOf_pair_inv arrC Tryz.underlying3 sizC hk; exact ⟨(x, y), hx⟩) (fun v y hv => by obtain ⟨c, rfl, _⟩ := plainElem_int_inv Tryz.underlying3 hv; exact ⟨c, rfl⟩) b w1.heap.size (10 * C.length) _ _ _ rfl hrg ?_ ?_)
      | go_in)
    · intro hc0 hl0
      have hall := hC.all hl0 hR1 hB
      have hsame := next_same hC.nd hall
      have hfin : ∃ n, ∃ D : DataW Unit, wr.ownsMap Tryz.prog 113 (plainElem Tryz.prog 3) b n D := ⟨_, _, hrg.owns⟩
      have HS : Hid (out.length = (nextL f g C).length) := hsame
      clear hsame hlv hhas
      rcases own.2 with ⟨rfl, h0⟩ | ⟨g', c7, cur, rfl, hbase, hb, h1, h2, h3, h4⟩
      · have hon : out = [] := List.eq_nil_of_length_eq_zero h0
        have hnl : nextL f g C = [] := List.eq_nil_of_length_eq_zero (by rw [← HS.out]; exact h0)
        have HO : Hid (NextOut f g b C w (.returned (.slice none 0 0)) wr) := by
          show NextOut _ _ _ _ _ _ _
          unfold NextOut
          rw [hnl]
          exact ⟨gw, hfin, _, rfl, rfl, .inl ⟨rfl, rfl⟩⟩
        clear hnl h0 hon
        go_wp2_with (go_at_call 110; refine (sort_none none 0 _ _).mono ?_; rintro e w' ⟨rfl, rfl⟩)
        go_ret
        exact HO.out
      by_cases hbig : 100 < out.length
      · have hbi : (100 : Int) < (out.length : Int) := by omega
        have HO : Hid (NextOut f g b C w (.panicked (refusal 5 0)) wr) := by
          show NextOut _ _ _ _ _ _ _
          unfold NextOut
          rw [if_pos (by rw [← HS.out]; exact hbig)]
          exact ⟨gw, hfin, rfl⟩
        go_wp2_with (go_at_call 71; refine (giveUp_any 5 0 _).mono ?_; rintro e w' ⟨rfl, rfl⟩)
        exact ⟨rfl, HO.out⟩
      · have hbi : ¬ (100 : Int) < (out.length : Int) := by omega
        go_wp2_with (go_at_call 110; refine (sort_any w.heap.size g' c7 out wr own hC.nd (by omega)).mono ?_; rintro e w' ⟨rfl, M, hp, ha, ownM, hgM⟩)
        go_ret
        have hMn : M = nextL f g C := asc_unique ha (asc_nextL f g C) fun c => (hp.mem_iff).trans (hall c)
        have hbn : ¬ 100 < (nextL f g C).length := by rw [← HS.out]; exact hbig
        unfold NextOut
        rw [if_neg hbn, ← HS.out, ← hMn]
        refine ⟨grown_own gw hgM (fun j e => by cases e; exact hbase), ?_, _, rfl, ownM⟩
        obtain ⟨n, D, hD⟩ := hfin
        exact ⟨n, D, hD.kept hgM (fun e => by have := Option.some.inj e; omega)⟩
    · intro px py c kl yd yp w3 cnt2 hkey hlk hv hat hrg2 hlt hg3 hs3 hen
      obtain ⟨c', hc', hy, _⟩ := plainElem_int_inv Tryz.underlying3 hv
      cases hc'
      simp only [Prod.mk.injEq] at hy
      have hcn : c = (nbC C (px, py) : Int) := by
        have h1 := (hR1.at_ (px, py) kl hkey).2
        rw [hat, hy.1, (countF_is (px, py) _ C rfl).2] at h1
        cases h1; rfl
      have hm8 := nbC_le hasc (px, py)
      obtain ⟨m, hmm⟩ : ∃ m, nbC C (px, py) = m := ⟨_, rfl⟩
      rw [hmm] at hcn hm8
      subst hcn
      have HM : Hid (nbC C (px, py) = m) := hmm
      clear hmm hv hat hy hs3
      simp only [kcell] at hen
      have gw3 : w.grownBy w3 (some b) := grown_own gw hg3 (fun j e => by have := Option.some.inj e; omega)
      have own3 := own.kept hg3 (Or.inr (row_ne_iter own hrg).symm)
      have bx3 : w3.heap[w.heap.size]? = some (.cells L 69 (0, 0)) := (hg3.block _ (blk_lt bx) (fun e => by have := Option.some.inj e; omega)).trans bx
      go_wp2
      have c4 := blk_new w3 (.cells #[.int .i64 px, .int .i64 py] 113)
      have bx4 := blk_old bx3 (.cells #[.int .i64 px, .int .i64 py] 113)
      have own4 := own3.alloc (.cells #[.int .i64 px, .int .i64 py] 113)
      have hrg4 := hrg2.alloc (.cells #[.int .i64 px, .int .i64 py] 113)
      have gw4 := grown_own gw3 (World.grownBy_alloc w3 (.cells #[.int .i64 px, .int .i64 py] 113) none) (fun j e => by cases e)
      have hlt3 : w3.heap.size < (w3.alloc (.cells #[.int .i64 px, .int .i64 py] 113)).heap.size := by simp
      have row4 : RowAt (w3.alloc (.cells #[.int .i64 px, .int .i64 py] 113)).drew (.slice ad C.length cp) C := by
        rcases hrow' with h | ⟨h1, h2, h3⟩
        · subst h
          rcases hrow with ⟨h, _⟩ | ⟨g', cap, h1, h2, h3⟩
          · exact .inl ⟨h, rfl⟩
          · exact .inr ⟨g', cap, h1, ⟨fun j u hu => by simp [flatC] at hu⟩, Nat.lt_of_lt_of_le h3 gw4.size⟩
        · by_cases hgb : gg = b
          · cases C with
            | nil => 
              subst h1
              exact .inr ⟨gg, cp, rfl, ⟨fun j u hu => by simp [flatC] at hu⟩, Nat.lt_of_lt_of_le h3 gw4.size⟩
            | cons q r =>
              exfalso
              obtain ⟨es, clock, hb', _⟩ := hm
              have := (h2.get 0 q rfl).1
              subst hgb
              simp [World.cell?, hb'] at this
          · subst h1
            exact .inr ⟨gg, cp, rfl, h2.same (gw4.block gg h3 (fun e => hgb (Option.some.inj e))), Nat.lt_of_lt_of_le h3 gw4.size⟩
      have hH := hhas (.slice ad C.length cp) C px py _ row4 (by omega) hasc
      have hLb := hlv (decide ((px, py) ∈ C)) m (by omega)
      have HLV : Hid ((if decide ((px, py) ∈ C) then g m else f m) = lvP f g C (px, py)) := by
        show _ = _
        unfold lvP
        rw [HM.out]
        by_cases hmem : (px, py) ∈ C <;> simp [hmem]
      generalize decide ((px, py) ∈ C) = hb at hH hLb HLV
      obtain ⟨lv, hlvv⟩ : ∃ lv, (if hb = true then g m else f m) = lv := ⟨_, rfl⟩
      simp only [hlvv] at hLb
      rw [hlvv] at HLV
      clear hlvv hhas hlv row4 hrow hrow'
      generalize (w3.alloc (.cells #[.int .i64 px, .int .i64 py] 113)) = W4 at *
      have q0 := cell_of c4 0
      have q1 := cell_of c4 1
      have q0' : W4.drew.cell? ⟨w3.heap.size, 0, none⟩ = some (.int .i64 px) := q0
      have q1' : W4.drew.cell? ⟨w3.heap.size, 1, none⟩ = some (.int .i64 py) := q1
      have bx4' : W4.drew.heap[w.heap.size]? = some (.cells L 69 (0, 0)) := bx4
      refine wp_mono (Q := fun e a' w' => e = .normal ∧ a' = { tmps := List.toArray ((.agg L : Value) :: (.slice ad C.length cp : Value) :: (.map (some b) : Value) :: (.pointer (some ⟨w.heap.size, 0, none⟩) : Value) :: undef :: undef :: (.slice none 0 0 : Value) :: (u7 : Value) :: (.pointer (some ⟨w3.heap.size, 0, none⟩) : Value) :: (.int .i64 (m : Int) : Value) :: (.slice ad C.length cp : Value) :: (.map (some b) : Value) :: (.tuple #[] : Value) :: (.map (some b) : Value) :: (.pointer (some ⟨w1.heap.size, 0, none⟩) : Value) :: (.tuple #[.bool true, kcell (px, py), .int .i64 (m : Int)] : Value) :: (.bool true : Value) :: (.tuple #[.agg #[.int .i64 px, .int .i64 py], .int .i64 (m : Int)] : Value) :: (.agg #[.int .i64 px, .int .i64 py] : Value) :: (.int .i64 (m : Int) : Value) :: (.agg L : Value) :: (.slice ad C.length cp : Value) :: (.agg #[.int .i64 px, .int .i64 py] : Value) :: (.bool hb : Value) :: (.int .i64 (m : Int) : Value) :: (.bool lv : Value) :: (u26 : Value) :: (u27 : Value) :: (u28 : Value) :: (u29 : Value) :: undef :: undef :: undef :: undef :: undef :: undef :: undef :: []), defers := [] } ∧ ∃ w5, Below W4.heap.size W4 w5 ∧ w' = w5.alloc (.cells L 69)) ?_ ?_
      · refine wp_region_any (by kernel_rfl) ?_
        change wpAny _ _ _ _ _ _ _ (World.drew _)
        refine wpAny_take (i := 1) (v := .slice ad C.length cp) rfl (by kernel_rfl) (by kernel_rfl) (by kernel_rfl) (fun _ _ _ h => nomatch h.1) (Or.inl ⟨by rfl, fun w => by go_simp⟩) ?_
        refine wpAny_take (i := 4) (v := .int .i64 (m : Int)) rfl (by kernel_rfl) (by kernel_rfl) (by kernel_rfl) (fun _ _ _ h => nomatch h.1) (Or.inl ⟨by rfl, fun w => by go_simp⟩) ?_
        refine wpAny_ready (rs := [0, 2]) (by kernel_rfl) (by simp) (AllReady.cons rfl (fun K hK => ?_) (AllReady.cons rfl (fun K hK => ?_) AllReady.nil))
        · refine (if_pos (by rfl)).mpr (wp_load_row 69 (Operand.tmp 3) rfl w.heap.size rfl 69 L (0, 0) _ bx4' Tryz.underlying69 rfl HL.out (hK _ _ ?_))
          clear hK K
          refine wpAny_ready (rs := [2]) (by kernel_rfl) (by simp) (AllReady.cons rfl (fun K hK => ?_) AllReady.nil)
          go_simp
          refine hK _ _ ?_
          clear hK K
          refine wpAny_ready (rs := [3]) (by kernel_rfl) (by simp) (AllReady.cons rfl (fun K hK => ?_) AllReady.nil)
          go_simp
          refine hH.mono ?_
          rintro e w5 ⟨rfl, hb5⟩
          refine hK _ _ ?_
          clear hK K
          refine wpAny_ready (rs := [5]) (by kernel_rfl) (by simp) (AllReady.cons rfl (fun K hK => ?_) AllReady.nil)
          go_simp
          refine (hLb w5).mono ?_
          rintro e w6 ⟨rfl, rfl⟩
          refine hK _ _ ?_
          clear hK K
          refine wpAny_done (by kernel_rfl) ?_ _
          exact ⟨rfl, rfl, w5, ⟨hb5.os, hb5.tape, hb5.output, hb5.size, hb5.block⟩, rfl⟩
        · go_simp
          refine hK _ _ ?_
          clear hK K
          refine wpAny_ready (rs := [0, 3]) (by kernel_rfl) (by simp) (AllReady.cons rfl (fun K hK => ?_) (AllReady.cons rfl (fun K hK => ?_) AllReady.nil))
          · refine (if_pos (by rfl)).mpr (wp_load_row 69 (Operand.tmp 3) rfl w.heap.size rfl 69 L (0, 0) _ bx4' Tryz.underlying69 rfl HL.out (hK _ _ ?_))
            clear hK K
            refine wpAny_ready (rs := [3]) (by kernel_rfl) (by simp) (AllReady.cons rfl (fun K hK => ?_) AllReady.nil)
            go_simp
            refine hH.mono ?_
            rintro e w5 ⟨rfl, hb5⟩
            refine hK _ _ ?_
            clear hK K
            refine wpAny_ready (rs := [5]) (by kernel_rfl) (by simp) (AllReady.cons rfl (fun K hK => ?_) AllReady.nil)
            go_simp
            refine (hLb w5).mono ?_
            rintro e w6 ⟨rfl, rfl⟩
            refine hK _ _ ?_
            clear hK K
            refine wpAny_done (by kernel_rfl) ?_ _
            exact ⟨rfl, rfl, w5, ⟨hb5.os, hb5.tape, hb5.output, hb5.size, hb5.block⟩, rfl⟩
          · go_simp
            refine hH.mono ?_
            rintro e w5 ⟨rfl, hb5⟩
            refine hK _ _ ?_
            clear hK K
            refine wpAny_ready (rs := [0]) (by kernel_rfl) (by simp) (AllReady.cons rfl (fun K hK => ?_) AllReady.nil)
            refine (if_pos (by rfl)).mpr (wp_load_row 69 (Operand.tmp 3) rfl w.heap.size rfl 69 L (0, 0) _ ((hb5.block _ (blk_lt bx4')).trans bx4') Tryz.underlying69 rfl HL.out (hK _ _ ?_))
            clear hK K
            refine wpAny_ready (rs := [5]) (by kernel_rfl) (by simp) (AllReady.cons rfl (fun K hK => ?_) AllReady.nil)
            go_simp
            refine (hLb w5).mono ?_
            rintro e w6 ⟨rfl, rfl⟩
            refine hK _ _ ?_
            clear hK K
            refine wpAny_done (by kernel_rfl) ?_ _
            exact ⟨rfl, rfl, w5, ⟨hb5.os, hb5.tape, hb5.output, hb5.size, hb5.block⟩, rfl⟩
      rintro e a' w' ⟨rfl, rfl, w5, hb5, rfl⟩
      have gr5 : W4.grownBy (w5.alloc (.cells L 69)) none := (grown_of_below hb5).trans (World.grownBy_alloc w5 _ _)
      have hb6 : Below W4.heap.size W4 (w5.alloc (.cells L 69)) := hb5.alloc hb5.size _
      have own6 := own4.kept gr5 (Classical.em _)
      have hrg6 := hrg4.kept gr5 (by simp) (by simp)
      have gw6 := grown_own gw4 gr5 (fun j e => by cases e)
      have bx6 := (hb6.block _ (blk_lt bx4)).trans bx4
      have c6 := (hb6.block _ (blk_lt c4)).trans c4
      have hCs := hC.step hkey hlk
      rw [← HLV.out] at hCs
      clear hH hLb q0 q1 q0' q1' bx4' gr5 hb6 hb5 hen
      generalize (w5.alloc (.cells L 69)) = W6 at *
      have q0 := cell_of c6 0
      have q1 := cell_of c6 1
      have hw6 := gw6.size
      cases lv with
      | false =>
        go_wp2
        go_roundw
        case rel => exact ⟨_, _, out, hrg6, own6, by simpa using hCs, gw6, bx6⟩
        case measure => rw [hrg6.left_eq, hrg.left_eq]; exact hlt
      | true =>
        go_wp2_with (at_builtin; refine wpList_append_own _ rfl _ _ 71 rfl w.heap.size 113 i0 (.agg #[.int .i64 0, .int .i64 0]) 2 16 Tryz.underlying71 hi hz0 hz1 hz2 rfl (by decide) _ _ _ rfl (own6.alloc _) ⟨W6.heap.size, 0, none⟩ 1 1 [.int .i64 px, .int .i64 py] rfl rfl (cell_two_new _ _ _ _) (by simp [Value.oneCell']) (by unfold maxLen; omega) (by omega) (by simp; omega) ?_; intro v' w8 own8 hgr8 _)
        have hrg8 := (hrg6.alloc (.cells #[.int .i64 px, .int .i64 py] 113)).kept hgr8 (row_ne_low own6 hbl) (row_ne_iter own6 hrg6)
        go_roundw
        case rel =>
          refine ⟨_, _, out ++ [(px, py)], hrg8, ?_, by simpa using hCs, grown_own (gw6.trans (World.grownBy_alloc W6 _ _)) hgr8 (fun j e => (own6.lt j e).1), ?_⟩
          · rw [flatC_append, List.length_append]
            exact own8
          · exact other_kept (own6.alloc _) hgr8 ((Below.heap_alloc W6 _ _ (blk_lt bx6)).trans bx6) (by decide)
        case measure => rw [hrg8.left_eq, hrg.left_eq]; exact hlt

end Go.Proofs.YtiohpcnnpmnjhaaGreatDoor

namespace Go.Proofs.YtiohpcnnpmnjhaaGreatDoor
open Go.RowKit Go.Shelf Go.WideMaps Go.Maps
set_option linter.unusedVariables false
attribute [local go_sem] Oper.semAt_some

theorem wpListIn_load_all {F : Fence} {n : Nat} {P : Program} {ops : Array Oper} {rest : List Oper} {o : Oper} {a : Act} {w : World} {Q : Exit → Act → World → Prop} (hgd : o.guard = none) (ty : TypeId) (x : Operand) (ho : o.op = .load ty x)
    (g : Nat) (hx : a.eval x = .pointer (some ⟨g, 0, none⟩)) (t : TypeId) (cs : Array Value) (fr : Nat × Nat) (d : TypeDesc) (hg : w.heap[g]? = some (.cells cs t fr))
    (hu : P.underlying ty = some d) (hd : (match d with | .struct _ | .array _ _ => true | _ => false) = true) (hi : (P.info? ty).map (·.size) = some cs.size)
    (h : wpListIn F n P ops Q rest (a.put o.dst (.agg cs)) w) : wpListIn F n P ops Q (o :: rest) a w := by
  refine wpListIn_plain hgd fun K hK => ?_
  unfold Oper.wpIn
  refine ⟨by simp [Oper.about, ho], ?_⟩
  rw [Oper.semAt_plain F _ _ (by rw [ho]; intro c hc; cases hc)]
  unfold execOp
  simp only [ho, hx, Instr.loadAt, Instr.sureAddr, Sem.run_bind, Sem.run_pure, Result.andThen_ok, run_loadVar_row w g t ty cs fr d hg hu hd hi]
  exact hK _ _ h

/-- A generation as it is given out: its number and its slice. -/
abbrev GenV := Nat × Value
def encG (x : GenV) : Array Value := #[.int .i64 (x.1 : Int), x.2]
/-- What is said of a generation that is given out. -/
structure ElG (f g : Nat → Bool) (C : List Cel) (pre : List GenV) (x : GenV) (W : World) : Prop where
  num : x.1 = pre.length
  le : pre.length ≤ 200
  own : W.ownsRow 0 113 2 x.2 (gen f g C pre.length).length (flatC (gen f g C pre.length))
  len : (gen f g C pre.length).length ≤ 100
/-- What the iterator needs to be kept: the map, the rows of cells, the rule. -/
def KeptO : Obj → Prop
  | .map _ _ => True
  | .cells _ t _ => t = 113 ∨ t = 69
  | _ => False
structure KpI (W W' : World) : Prop where
  size : W.heap.size ≤ W'.heap.size
  same : ∀ (k : Nat) (o : Obj), W.heap[k]? = some o → KeptO o → W'.heap[k]? = some o
theorem KpI.refl (W : World) : KpI W W := ⟨Nat.le_refl _, fun _ _ h _ => h⟩
theorem KpI.trans {A B C : World} (h : KpI A B) (k : KpI B C) : KpI A C := ⟨Nat.le_trans h.size k.size, fun i o hi ho => k.same i o (h.same i o hi ho) ho⟩
theorem KpI.map {W W' : World} (h : KpI W W') {b n : Nat} {D : DataW Unit} (hm : W.ownsMap Tryz.prog 113 (plainElem Tryz.prog 3) b n D) : W'.ownsMap Tryz.prog 113 (plainElem Tryz.prog 3) b n D := by
  obtain ⟨es, clock, hb, F, hs, hD⟩ := hm
  exact ⟨es, clock, h.same _ _ hb trivial, F, hs, hD⟩
theorem KpI.row {W W' : World} (h : KpI W W') {B n : Nat} {v : Value} {xs : List Value} (hr : W.ownsRow B 113 2 v n xs) : W'.ownsRow B 113 2 v n xs := by
  refine ⟨hr.1, hr.2.imp id ?_⟩
  rintro ⟨g, cap, cur, h1, h2, h3, h4⟩
  exact ⟨g, cap, cur, h1, h2, h.same _ _ h3 (.inl rfl), h4⟩
theorem Ab.row {n : Nat} {W W' : World} (h : Ab n W W') {B m k : Nat} {e : TypeId} {v : Value} {xs : List Value} (hr : W.ownsRow B e m v k xs) : W'.ownsRow B e m v k xs := by
  refine ⟨hr.1, hr.2.imp id ?_⟩
  rintro ⟨g, cap, cur, h1, h2, h3, h4⟩
  exact ⟨g, cap, cur, h1, h2, h.cells _ _ h3 rfl, h4⟩
theorem ownsRow_low {w : World} {B B' e m n : Nat} {v : Value} {xs : List Value} (h : w.ownsRow B e m v n xs) (hb : B' ≤ B) : w.ownsRow B' e m v n xs := by
  refine ⟨h.1, h.2.imp id ?_⟩
  rintro ⟨g, cap, cur, h1, h2, h3⟩
  exact ⟨g, cap, cur, h1, Nat.le_trans hb h2, h3⟩
/-- What is new, and the map at b: as an iterator leaves it. -/
theorem ab_of_grown {w w' : World} {n b nn : Nat} {D : DataW Unit} {R : Value → Option (DataW Unit × List MemPlace)} {k : TypeId} {P : Program} (hg : w.grownBy w' (some b)) (hm : w.ownsMap P k R b nn D) (hn : n ≤ b) : Ab n w w' := by
  obtain ⟨es, clock, hb, _⟩ := hm
  refine ⟨⟨hg.os, hg.tape, hg.output, hg.size, fun i hi => hg.block i (by have := blk_lt hb; omega) (fun e => by have := Option.some.inj e; omega)⟩, fun i o hi hc => (hg.block i (blk_lt hi) (fun e => ?_)).trans hi⟩
  have := Option.some.inj e
  subst this
  rw [hb] at hi; cases hi; cases hc
theorem roam_b {X Y : Int} {C : List Cel} (h : Roam X Y C) : ∀ c ∈ C, (-4000000000000000000 ≤ c.1 ∧ c.1 ≤ 4000000000000000000) ∧ (-4000000000000000000 ≤ c.2 ∧ c.2 ≤ 4000000000000000000) := fun c hc => by
  have := h.bx c hc
  have := h.x1; have := h.x2; have := h.y1; have := h.y2
  omega

/-- What next does. -/
def NextDoes : Prop := ∀ (f g : Nat → Bool) (v : Value) (b nn : Nat) (C : List Cel) (D0 : DataW Unit) (w : World), RowAt w v C → Asc C → w.ownsMap Tryz.prog 113 (plainElem Tryz.prog 3) b nn D0 →
    (∀ c ∈ C, (-4000000000000000000 ≤ c.1 ∧ c.1 ≤ 4000000000000000000) ∧ (-4000000000000000000 ≤ c.2 ∧ c.2 ≤ 4000000000000000000)) → C.length ≤ 1000 → Calls Tryz.prog 123 #[.agg (twoN f g), v, .map (some b)] w (NextOut f g b C w)

set_option maxRecDepth 100000 in
set_option maxHeartbeats 1600000 in
theorem gens_seq (hnext : NextDoes) (n : Nat) (hn : 3 ≤ n) (f g : Nat → Bool) (C : List Cel) (X Y : Int) (v0 : Value) (Bf Bl : Nat) (w0 : World) (hasc : Asc C) (hr : ∀ t, t ≤ 300 → Roam X Y (gen f g C t)) (hl : C.length ≤ 100)
    (own0 : w0.ownsRow 0 113 2 v0 C.length (flatC C)) (hBf : w0.heap[Bf]? = some (.cells #[v0] 71 (0, 0))) (hBl : w0.heap[Bl]? = some (.cells (twoN f g) 69 (0, 0))) :
    SeqP Fence.wide n Tryz.prog 122 #[.pointer (some ⟨Bf, 0, none⟩), .pointer (some ⟨Bl, 0, none⟩)] encG (ElG f g C) KpI (fun xs => xs.length = 201) (fun pre ch => ch = refusal 5 0 ∧ 1 ≤ pre.length ∧ pre.length ≤ 200 ∧ 100 < (gen f g C pre.length).length) w0 := fun l J Jx W hW hJ hJx hY h0 => by
  have h1n : 1 ≤ n := by omega
  have hnot : ∀ (x : Bool) (w : World), (Op.unary .not (.bool x)).run Tryz.prog w = .ok (.bool (!x)) w := fun _ _ => rfl
  have hBf' := (hW.block Bf (blk_lt hBf)).trans hBf
  have hBl' := (hW.block Bl (blk_lt hBl)).trans hBl
  have own1 : W.ownsRow 0 113 2 v0 C.length (flatC C) := by
    rcases own0.2 with h | ⟨g', cap, cur, h1, h2, h3, h4⟩
    · exact ⟨own0.1, .inl h⟩
    · exact ⟨own0.1, .inr ⟨g', cap, cur, h1, h2, (hW.block g' (blk_lt h3)).trans h3, h4⟩⟩
  have HL : Hid ((Tryz.prog.info? 69).map (·.size) = some (twoN f g).size) := infoL
  have hN := fun v b nn t D0 w h1 h2 h3 h4 => hnext f g v b nn (gen f g C t) D0 w h1 (gen_asc hasc t) h2 h3 h4
  obtain ⟨L, hL⟩ : ∃ L, twoN f g = L := ⟨_, rfl⟩
  rw [hL] at HL hBl'
  simp only [hL] at hN
  clear hBf hBl own0 hnext hL
  have cf := cell_of hBf' 0
  have hmm := @run_makeMap Tryz.prog
  refine callsIn_of_wp Tryz.func122 rfl trivial ?_ rfl
  simp only [Tryz.ntmps122, List.size_toArray, List.length_cons, List.length_nil, Nat.reduceAdd, Nat.reduceSub, Array.replicate_succ, Array.replicate_zero, List.push_toArray, List.append_toArray, List.nil_append, List.cons_append]
  gi_wp2
  have hm0 : (W.alloc (.map #[] 0)).ownsMap Tryz.prog 113 (plainElem (H := Unit) Tryz.prog 3) W.heap.size 0 (.map []) := World.ownsMap_made _ _ _ _
  gi_loopw [4, 9] (fun vn i wr => ∃ (t : Nat) (pre : List GenV), t ≤ 201 ∧ i = .int .i64 (t : Int) ∧ pre.length = t ∧ J pre wr ∧ W.heap.size < wr.heap.size ∧ (∃ nn, ∃ D : DataW Unit, wr.ownsMap Tryz.prog 113 (plainElem Tryz.prog 3) W.heap.size nn D) ∧ wr.heap[Bl]? = some (.cells L 69 (0, 0)) ∧ wr.ownsRow 0 113 2 vn (gen f g C (t - 1)).length (flatC (gen f g C (t - 1))) ∧ (gen f g C (t - 1)).length ≤ 100) (fun _ i _ => 201 - (intOf i).toNat)
  case atStart => exact ⟨0, [], by omega, rfl, rfl, hJ _ _ _ h0 (Ab.alloc W (Nat.le_refl _) _), by simp, ⟨_, _, hm0⟩, (Below.heap_alloc W _ _ (blk_lt hBl')).trans hBl', (Ab.alloc (n := 0) W (Nat.zero_le _) _).row own1, hl⟩
  case round =>
    obtain ⟨t, pre, ht, rfl, hpl, hJs, hlt, ⟨nn, D, hm⟩, hbl, own, hlen⟩ := hrel
    by_cases h201 : t < 201
    · rcases Nat.eq_zero_or_pos t with rfl | hpos
      · have hel : ElG f g C pre (0, u4) wr := ⟨hpl.symm, by omega, by rw [hpl]; exact own, by rw [hpl]; exact hlen⟩
        have HPL : Hid (pre.length = 0) := hpl
        clear hpl
        obtain ⟨fn, tmps, assign, body, hy, hR⟩ := hY pre (0, u4) wr hJs hel (by omega)
        replace hy : (Instr.yield l #[.int .i64 0, u4]).run Tryz.prog wr = .ok (.round l fn tmps assign body) wr := hy
        gi_wp2
        refine hR.mono ?_
        rintro e W3 (⟨rfl, hJ3, hk3⟩ | ⟨rfl, hJx3⟩)
        · gi_wp2
          go_roundw
          case rel => exact ⟨0 + 1, pre ++ [(0, u4)], by omega, by go_num, by simp [HPL.out], hJ3, Nat.lt_of_lt_of_le hlt hk3.size, ⟨_, _, hk3.map hm⟩, hk3.same _ _ hbl (.inr rfl), hk3.row own, hlen⟩
          case measure => simp [intOf]
        · gi_wp2
          refine bodyPost_ret (results_none rfl _ _ _) rfl ?_
          exact .inl ⟨⟨_, rfl⟩, .inr ⟨_, hJx3⟩⟩
      · obtain ⟨k, rfl⟩ : ∃ k, t = k + 1 := ⟨t - 1, by omega⟩
        simp only [Nat.add_sub_cancel] at own hlen
        have hkk : k < 200 := by omega
        have hpi : (0 : Int) < ((k : Int) + 1) := by omega
        have hNx := hN u4 W.heap.size nn k D wr (RowAt.of_owns own) hm (roam_b (hr k (by omega))) (by omega)
        have HPL : Hid (pre.length = k + 1) := hpl
        clear hpl
        by_cases hbig : 100 < (nextL f g (gen f g C k)).length
        · gi_wp2_with (first
            | (refine wpListIn_load_all rfl 69 (Operand.tmp 2) rfl Bl rfl 69 L (0, 0) _ hbl Tryz.underlying69 rfl HL.out ?_)
            | (refine ⟨trivial, ?_⟩; gi_at_call 123; refine (callsIn_wide.2 hNx).mono ?_; rintro e w1 ⟨hg1, hm1, he1⟩; rw [if_pos hbig] at he1; subst he1))
          have hgn : 100 < (gen f g C (k + 1)).length := hbig
          exact ⟨rfl, .inr ⟨_, pre, rfl, ⟨rfl, by rw [HPL.out]; omega, by rw [HPL.out]; omega, by rw [HPL.out]; exact hgn⟩, hJ _ _ _ hJs (ab_of_grown hg1 hm (Nat.le_refl _))⟩⟩
        · gi_wp2_with (first
            | (refine wpListIn_load_all rfl 69 (Operand.tmp 2) rfl Bl rfl 69 L (0, 0) _ hbl Tryz.underlying69 rfl HL.out ?_)
            | (refine ⟨trivial, ?_⟩; gi_at_call 123; refine (callsIn_wide.2 hNx).mono ?_; rintro e w1 ⟨hg1, ⟨nn1, D1, hm1⟩, he1⟩; rw [if_neg hbig] at he1; obtain ⟨v1, rfl, own1'⟩ := he1
               obtain ⟨fn, tmps, assign, body, hy, hR⟩ := hY pre (k + 1, v1) w1 (hJ _ _ _ hJs (ab_of_grown hg1 hm (Nat.le_refl _))) ⟨HPL.out.symm, by rw [HPL.out]; omega, by rw [HPL.out]; exact ownsRow_low own1' (Nat.zero_le _), by rw [HPL.out]; exact Nat.le_of_not_lt hbig⟩ (by have := hg1.size; omega)
               replace hy : (Instr.yield l #[.int .i64 ((k : Int) + 1), v1]).run Tryz.prog w1 = .ok (.round l fn tmps assign body) w1 := hy))
          have hbl1 := (hg1.block Bl (blk_lt hbl) (fun e => by have := Option.some.inj e; have := blk_lt hBl'; omega)).trans hbl
          have hw1s := hg1.size
          have hlen1 : (gen f g C (k + 1)).length ≤ 100 := Nat.le_of_not_lt hbig
          refine hR.mono ?_
          rintro e W3 (⟨rfl, hJ3, hk3⟩ | ⟨rfl, hJx3⟩)
          · gi_wp2
            go_roundw
            case rel => exact ⟨k + 1 + 1, pre ++ [(k + 1, v1)], by omega, by go_num, by simp [HPL.out], hJ3, by have := hk3.size; omega, ⟨_, _, hk3.map hm1⟩, hk3.same _ _ hbl1 (.inr rfl), hk3.row (ownsRow_low own1' (Nat.zero_le _)), hlen1⟩
            case measure => simp [intOf]; omega
          · gi_wp2
            refine bodyPost_ret (results_none rfl _ _ _) rfl ?_
            exact .inl ⟨⟨_, rfl⟩, .inr ⟨_, hJx3⟩⟩
    · obtain rfl : t = 201 := by omega
      have HPL : Hid (pre.length = 201) := hpl
      clear hpl
      gi_wp2
      go_end0
      exact .inl ⟨⟨_, rfl⟩, .inl ⟨pre, HPL.out, hJs⟩⟩

end Go.Proofs.YtiohpcnnpmnjhaaGreatDoor
