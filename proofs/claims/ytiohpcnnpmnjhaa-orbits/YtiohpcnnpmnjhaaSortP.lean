import Derived.Test.YtiohpcnnpmnjhaaShelfSort
import Derived.Test.YtiohpcnnpmnjhaaCompareC
import Derived.Test.YtiohpcnnpmnjhaaLifeSpec
namespace Go.Proofs.Ytiohpcnnpmnjhaa
open Go.RowKit
open Go.Sort (SWO PermIn SortedIn grow alloc_eq_grow grow_grow Holds putRow putCells mapBlock onCells flatK get_flatK size_flatK putRowK HoldsK)
set_option linter.unusedVariables false

/-- A cell's two numbers. -/
def encS (c : Cel) : List Value := [.int .i64 c.1, .int .i64 c.2]
theorem lt_cmpC (x y : Cel) : ltOf cmpC x y = decide (before x y) := by
  unfold ltOf
  exact decide_eq_decide.2 (cmpC_lt x y)
theorem swoC : SWO (ltOf cmpC) where
  irrefl x := by rw [lt_cmpC]; simpa using before_irr x
  trans x y z h1 h2 := by
    rw [lt_cmpC] at *
    simp only [decide_eq_true_eq] at *
    exact before_trans h1 h2
  ntrans x y z h1 h2 := by
    rw [lt_cmpC] at *
    simp only [decide_eq_false_iff_not] at *
    intro h
    rcases before_tri x y with h3 | h3 | h3
    · exact h1 h3
    · subst h3; exact h2 h
    · rcases before_tri y z with h4 | h4 | h4
      · exact h2 h4
      · subst h4; exact h1 h
      · exact before_irr x (before_trans h (before_trans h4 h3))

theorem cmpLaysC (blk off size : Nat) (w : World) : CmpLays Try.prog 64 #[] encS 2 cmpC blk off size w := fun m os dk hs x y => by
  obtain ⟨a, b⟩ := x
  obtain ⟨c, d⟩ := y
  refine (compare_any a b c d _).mono ?_
  rintro e w' ⟨rfl, rfl⟩
  refine ⟨rfl, 1, #[.cells #[.int .i64 a, .int .i64 b] 99, .cells #[.int .i64 c, .int .i64 d] 99, .cells #[.int .i64 (cmpI b d), .int .i64 (cmpI a c)] 3], ?_⟩
  rw [alloc_eq_grow, alloc_eq_grow, alloc_eq_grow, grow_grow, grow_grow]
  rfl

theorem flat_at (L : List Cel) (j : Nat) (h : j < L.length * 2) : (flatC L)[j]? = some ((flatK encS 2 L.toArray)[j]!) := by
  have h2 : j / 2 < L.length := by omega
  obtain ⟨h3, h4⟩ := flatC_get L (j / 2) L[j / 2] (by simp [h2])
  rw [get_flatK encS 2 L.toArray j (by simpa using h)]
  have hg : L.toArray[j / 2]! = L[j / 2] := by simp [h2]
  rw [hg]
  rcases Nat.mod_two_eq_zero_or_one j with hm | hm
  · rw [hm]
    rw [show j / 2 * 2 = j by omega] at h3
    simpa [encS] using h3
  · rw [hm]
    rw [show j / 2 * 2 + 1 = j by omega] at h4
    simpa [encS] using h4

theorem sw_heap (w : World) (g n : Nat) (d : Array Cel) (os : Array Obj) {k : Nat} (hk : k < w.heap.size) (hne : k ≠ g) : (sortWorldK encS 2 w g 0 n d os).heap[k]? = w.heap[k]? := by
  unfold sortWorldK putRowK putRow mapBlock grow Sort.ahead
  simp only
  rw [Array.getElem?_append_left (by simpa using hk), Array.getElem?_modify, if_neg (fun h => hne h.symm)]
theorem sw_own (w : World) (g n : Nat) (d : Array Cel) (os : Array Obj) {cs : Array Value} {t : TypeId} {fz : Nat × Nat} (h : w.heap[g]? = some (.cells cs t fz)) :
    (sortWorldK encS 2 w g 0 n d os).heap[g]? = some (.cells (putCells id 0 (flatK encS 2 d) cs) t fz) := by
  unfold sortWorldK putRowK putRow mapBlock grow Sort.ahead
  simp only
  rw [Array.getElem?_append_left (by simpa using blk_lt h), Array.getElem?_modify, if_pos rfl, h]
  rfl
theorem sw_size (w : World) (g n : Nat) (d : Array Cel) (os : Array Obj) : w.heap.size ≤ (sortWorldK encS 2 w g 0 n d os).heap.size := by
  unfold sortWorldK putRowK putRow mapBlock grow Sort.ahead
  simp
theorem sw_rest (w : World) (g n : Nat) (d : Array Cel) (os : Array Obj) : (sortWorldK encS 2 w g 0 n d os).os = w.os ∧ (sortWorldK encS 2 w g 0 n d os).tape = w.tape ∧ (sortWorldK encS 2 w g 0 n d os).output = w.output := ⟨rfl, rfl, rfl⟩

theorem sw_take (L : List Cel) (cs : Array Value) (hs : L.length * 2 ≤ cs.size) : (putCells id 0 (flatK encS 2 L.toArray) cs).toList.take (L.length * 2) = flatC L := by
  apply List.ext_getElem?
  intro j
  rw [List.getElem?_take]
  split
  · rename_i hj
    rw [flat_at L j hj]
    unfold putCells
    rw [Array.getElem?_toList, Array.getElem?_mapIdx, Array.getElem?_eq_getElem (by omega)]
    simp only [Option.map_some, Nat.zero_le, Nat.zero_add, size_flatK, List.size_toArray, true_and, Nat.sub_zero, id_eq, if_pos hj]
  · rename_i hj
    rw [List.getElem?_eq_none (by rw [flatC_length]; omega)]

theorem sort_list {L : List Cel} {d' : Array Cel} (hp : PermIn 0 L.toArray.size L.toArray d') (hs : SortedIn (ltOf cmpC) 0 L.toArray.size d') (hn : L.Nodup) : d'.toList.Perm L ∧ Asc d'.toList := by
  obtain ⟨h1, _, h3⟩ := hp
  have hpe : d'.toList.Perm L := by
    have e1 : (d'.extract 0 L.toArray.size).toList = d'.toList := by rw [← h1]; simp
    rw [e1] at h3
    simpa using h3
  refine ⟨hpe, ?_⟩
  have hn' : d'.toList.Nodup := hpe.nodup_iff.2 hn
  refine List.pairwise_iff_getElem.2 fun i j hi hj hij => ?_
  have hlen : d'.toList.length = L.length := hpe.length_eq
  have hs' := hs i j (Nat.zero_le _) hij (by simp; omega)
  simp only [Array.length_toList] at hi hj
  rw [getElem!_pos d' j hj, getElem!_pos d' i hi, lt_cmpC] at hs'
  simp only [decide_eq_false_iff_not] at hs'
  rw [Array.getElem_toList, Array.getElem_toList]
  rcases before_tri d'[i] d'[j] with h | h | h
  · exact h
  · exact absurd h (by
      have := List.pairwise_iff_getElem.1 (List.nodup_iff_pairwise_ne.1 hn') i j (by simpa using hi) (by simpa using hj) hij
      simpa using this)
  · exact absurd h hs'

set_option maxHeartbeats 1000000 in
theorem sort_any (base g cap : Nat) (L : List Cel) (w : World) (own : w.ownsRow base 99 2 (.slice (some ⟨g, 0, none⟩) L.length cap) L.length (flatC L)) (hn : L.Nodup) (hl : L.length ≤ 1000000) :
    Calls Try.prog 63 #[.slice (some ⟨g, 0, none⟩) L.length cap, .func (.func 64) #[] #[]] w fun e w' => e = .returned (.tuple #[]) ∧
      ∃ M : List Cel, M.Perm L ∧ Asc M ∧ w'.ownsRow base 99 2 (.slice (some ⟨g, 0, none⟩) L.length cap) L.length (flatC M) ∧ w.grownBy w' (some g) := by
  rcases own.2 with ⟨h, _⟩ | ⟨g', cap', cur, hv, hbase, hb, h1, h2, h3, h4⟩
  · cases h
  cases hv
  have hgl := blk_lt hb
  have hH : HoldsK encS 2 w g 0 L.toArray := fun j hj => by
    have hj' : j < L.length * 2 := by simpa using hj
    have hf := flat_at L j hj'
    rw [← h4, List.getElem?_take, if_pos hj'] at hf
    refine ⟨?_, by simp [World.frozen?, hb]⟩
    simp only [Nat.zero_add, World.cell?, hb, id_eq]
    simpa using hf
  have eg : ∀ args w, (callFunc 64 args).run Try.prog w = .ok (.enter 64 args) w := enters_of Try.func64 (by kernel_rfl) rfl
  have hsz : L.toArray.size < 4611686018427387904 := by simp; omega
  have hlim : Lib.bitLen L.toArray.size < 4611686018427387904 := Nat.lt_of_le_of_lt (Lib.bitLen_le L.toArray.size 62 (by omega) (by omega)) (by omega)
  have hp := AnyQ.pdqsortCmpFunc_all Try.sortC 2 Try.isAgg99 Try.sizeOf99 encS cmpC 64 #[] swoC g 0 cap L.toArray w eg (cmpLaysC g 0 _ w) ⟨fun _ => rfl, fun x v hv => by simp [encS] at hv; rcases hv with rfl | rfl <;> rfl, hH, hgl⟩ (L.toArray.size + 1) 0 L.toArray.size (Lib.bitLen L.toArray.size) L.toArray w (by omega) rfl (SWK.start hH) (Nat.zero_le _) (Nat.le_refl _) hsz hlim (Or.inl rfl)
  change Calls Try.prog 77 _ _ _ at hp
  have hbl : Calls Try.prog 78 #[.int .u64 (L.toArray.size : Int)] w fun e w' => e = .returned (.int .i64 (Lib.bitLen L.toArray.size : Nat)) ∧ w' = w := by
    have h := Any.bits_Len (SlLaysF0.n15.bits Try.bitsC) (L.toArray.size : Int) w (by omega) (by omega)
    rwa [Int.toNat_natCast] at h
  have hps := Sort.pdq_sorts (ltOf cmpC) swoC L.toArray 0 L.toArray.size (Lib.bitLen L.toArray.size) true true (Nat.zero_le _) (Nat.le_refl _) (Or.inl rfl)
  have wr : IntKind.u64.wrap (L.toArray.size : Int) = L.toArray.size := by simp [IntKind.wrap, IntKind.bits, IntKind.signed]; omega
  have hfin : ∀ w', SWK encS 2 w g 0 (Sort.pdq (ltOf cmpC) L.toArray 0 L.toArray.size (Lib.bitLen L.toArray.size) true true) w' → ∃ M : List Cel, M.Perm L ∧ Asc M ∧ w'.ownsRow base 99 2 (.slice (some ⟨g, 0, none⟩) L.length cap) L.length (flatC M) ∧ w.grownBy w' (some g) := by
    rintro w' ⟨n, os, rfl⟩
    obtain ⟨hpe, ha⟩ := sort_list hps.1 hps.2 hn
    generalize Sort.pdq (ltOf cmpC) L.toArray 0 L.toArray.size (Lib.bitLen L.toArray.size) true true = d' at hpe ha ⊢
    have hML : d'.toList.length = L.length := hpe.length_eq
    refine ⟨d'.toList, hpe, ha, ⟨by rw [flatC_length, hML], .inr ⟨g, cap, _, rfl, hbase, sw_own w g n d' os hb, h1, h2, by simp [putCells, h3], ?_⟩⟩, ⟨rfl, rfl, rfl, sw_size _ _ _ _ _, fun k hk hne => sw_heap _ _ _ _ _ hk (fun e => hne (by rw [e]))⟩⟩
    have := sw_take d'.toList cur (by omega)
    rw [hML] at this
    simpa using this
  simp only [List.size_toArray] at hp hbl wr hfin
  generalize Sort.pdq (ltOf cmpC) L.toArray 0 L.length (Lib.bitLen L.length) true true = r at hp hfin
  clear hps hH hb h3 h4
  go_enter Try.func63, Try.ntmps63
  go_wp2_with (first
    | (go_at_call 78; refine hbl.mono ?_; rintro e w1 ⟨rfl, rfl⟩)
    | (go_at_call 77; refine hp.mono ?_; rintro e w1 ⟨rfl, hsw⟩))
  go_end0
  exact ⟨rfl, hfin _ hsw⟩

set_option maxHeartbeats 1000000 in
theorem insNone (p : Option Addr) (cap : Nat) (fv : Value) (w : World) : Calls Try.prog 83 #[.slice p 0 cap, .int .i64 0, .int .i64 0, fv] w fun e w' => e = .returned (.tuple #[]) ∧ w' = w := by
  go_enter Try.func83, Try.ntmps83
  go_wp2
  refine wp_loop_rounds 1 ?_
  rw [rounds_succ]
  go_wp2
  go_end0
  exact ⟨rfl, rfl⟩

set_option maxHeartbeats 1000000 in
theorem pdqNone (p : Option Addr) (cap : Nat) (lim : Int) (fv : Value) (w : World) : Calls Try.prog 77 #[.slice p 0 cap, .int .i64 0, .int .i64 0, .int .i64 lim, fv] w fun e w' => e = .returned (.tuple #[]) ∧ w' = w := by
  go_enter Try.func77, Try.ntmps77
  go_wp2
  refine wp_loop_rounds 1 ?_
  rw [rounds_succ]
  go_wp2_with (go_at_call 83; refine (insNone p cap fv _).mono ?_; rintro e w' ⟨rfl, rfl⟩)
  (try simp only [Exit.inBlock, Exit.then]); refine bodyPost_ret (results_none rfl _ _ _) rfl ?_
  exact ⟨rfl, rfl⟩

set_option maxHeartbeats 1000000 in
theorem sort_none (p : Option Addr) (cap : Nat) (fv : Value) (w : World) : Calls Try.prog 63 #[.slice p 0 cap, fv] w fun e w' => e = .returned (.tuple #[]) ∧ w' = w := by
  have hl : ∀ W, Calls Try.prog 78 #[.int .u64 0] W fun e w' => e = .returned (.int .i64 (Lib.bitLen 0 : Nat)) ∧ w' = W := fun W => Any.bits_Len (SlLaysF0.n15.bits Try.bitsC) 0 W (by omega) (by omega)
  go_enter Try.func63, Try.ntmps63
  go_wp2_with (first
    | (go_at_call 78; refine (hl _).mono ?_; rintro e w1 ⟨rfl, rfl⟩)
    | (go_at_call 77; refine (pdqNone p cap _ fv _).mono ?_; rintro e w1 ⟨rfl, rfl⟩))
  go_end0
  exact ⟨rfl, rfl⟩

end Go.Proofs.Ytiohpcnnpmnjhaa
