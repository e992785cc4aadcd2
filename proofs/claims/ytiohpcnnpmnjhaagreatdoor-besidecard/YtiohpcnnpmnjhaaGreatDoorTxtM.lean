import Derived.Test.YtiohpcnnpmnjhaaGreatDoorPrtM
import Derived.Test.YtiohpcnnpmnjhaaGreatDoorOnwM
namespace Go.Proofs.YtiohpcnnpmnjhaaGreatDoor
set_option linter.unusedVariables false

/-- Has the cell another one within 2? -/
def Mov (G : List Cel) (c : Cel) : Prop := ∃ d ∈ G, d ≠ c ∧ nearB 2 c d = true
/-- The cell of the first layer that a cell is held by. -/
def Anc (G : List Cel) (t : Nat) (c d : Cel) : Prop := (Mov G d ∧ nearB (t : Int) d c = true) ∨ (¬ Mov G d ∧ d = c)
theorem two_of_count {q : Cel → Bool} {C : List Cel} (ha : Asc C) (h : 2 ≤ C.countP q) : ∃ a b, a ∈ C ∧ b ∈ C ∧ a ≠ b ∧ q a = true ∧ q b = true := by
  rw [List.countP_eq_length_filter] at h
  have hn : (C.filter q).Nodup := (asc_nodup ha).filter _
  have hm : ∀ x ∈ C.filter q, x ∈ C ∧ q x = true := fun x hx => List.mem_filter.1 hx
  match hl : C.filter q with
  | [] => rw [hl] at h; simp at h
  | [_] => rw [hl] at h; simp at h
  | a :: b :: r =>
    rw [hl] at hn hm
    have h1 := hm a (by simp); have h2 := hm b (by simp)
    refine ⟨a, b, h1.1, h2.1, ?_, h1.2, h2.2⟩
    rintro rfl
    simp at hn
theorem anc_mov {f g : Nat → Bool} (hf : f 1 = false) {Gs : List (List Cel)} {d1 d2 : Int} (R : Ring f g Gs d1 d2) : ∀ (t i : Nat) (c : Cel), CellAt Gs t i c → ∃ j d, CellAt Gs 0 j d ∧ grp Gs (startOf Gs t + i) = grp Gs j ∧ Anc (Gs.getD 0 []) t c d
  | 0, i, c, h => by
    refine ⟨i, c, h, by rw [show startOf Gs 0 = 0 from rfl, Nat.zero_add], ?_⟩
    by_cases hm : Mov (Gs.getD 0 []) c
    · exact .inl ⟨hm, near_iff.2 (by omega)⟩
    · exact .inr ⟨hm, rfl⟩
  | t + 1, i, c, h => by
    have h2 := R.two
    have ht := h.lt
    have hcn : c ∈ Gs.getD (t + 1) [] := (cell_mem ht).2 ⟨i, h⟩
    rw [R.next t ht] at hcn
    obtain ⟨⟨d, hd, hc⟩, hl⟩ := mem_nextL.1 hcn
    by_cases hM : ∃ k e, CellAt Gs t k e ∧ c ∈ around e ∧ ∃ j d, CellAt Gs 0 j d ∧ grp Gs (startOf Gs t + k) = grp Gs j ∧ Mov (Gs.getD 0 []) d ∧ nearB (t : Int) d e = true
    · obtain ⟨k, e, hk, hce, j, d', hj, hg, hm, hnr⟩ := hM
      refine ⟨j, d', hj, by rw [← hg]; exact (link_turn (by omega) hk h (near_around hce)).symm, .inl ⟨hm, ?_⟩⟩
      rw [near_iff] at hnr ⊢
      rw [mem_around] at hce
      omega
    · have lone : ∀ k e, CellAt Gs t k e → c ∈ around e → ∃ j, CellAt Gs 0 j e ∧ grp Gs (startOf Gs t + k) = grp Gs j ∧ ¬ Mov (Gs.getD 0 []) e := fun k e hk hce => by
        obtain ⟨j, d', hj, hg, ha⟩ := anc_mov hf R t k e hk
        rcases ha with ⟨hm, hnr⟩ | ⟨hm, rfl⟩
        · exact absurd ⟨k, e, hk, hce, j, d', hj, hg, hm, hnr⟩ hM
        · exact ⟨j, hj, hg, hm⟩
      by_cases hcG : c ∈ Gs.getD t []
      · obtain ⟨k, hk⟩ := (cell_mem (by omega)).1 hcG
        have hcc : c ∈ around c := by rw [mem_around]; omega
        obtain ⟨j, hj, hg, hm⟩ := lone k c hk hcc
        exact ⟨j, c, hj, by rw [← hg]; exact (link_turn (by omega) hk h (near_around hcc)).symm, .inr ⟨hm, rfl⟩⟩
      · exfalso
        unfold livesC at hl
        rw [if_neg hcG, Bool.and_eq_true, decide_eq_true_eq] at hl
        have h1 : nbC (Gs.getD t []) c ≠ 1 := fun e => by rw [e, hf] at hl; cases hl.2
        obtain ⟨a, b, ha, hb, hab, qa, qb⟩ := two_of_count (R.asc t (by omega)) (q := isNb c) (show 2 ≤ nbC (Gs.getD t []) c by omega)
        obtain ⟨ka, hka⟩ := (cell_mem (by omega)).1 ha
        obtain ⟨kb, hkb⟩ := (cell_mem (by omega)).1 hb
        have qa' := (isNb_iff.1 qa).1; have qb' := (isNb_iff.1 qb).1
        rw [mem_around] at qa' qb'
        obtain ⟨ja, hja, _, hma⟩ := lone ka a hka (by rw [mem_around]; omega)
        obtain ⟨jb, hjb, _, _⟩ := lone kb b hkb (by rw [mem_around]; omega)
        exact hma ⟨b, (cell_mem (by omega)).2 ⟨jb, hjb⟩, fun e => hab e.symm, near_iff.2 (by omega)⟩
open Classical in
/-- How far a cell reaches. -/
noncomputable def rm (G : List Cel) (c : Cel) : Int := if Mov G c then 267 else 133
/-- Two cells of the first layer that may be linked at once. -/
def Edge (G : List Cel) (u v : Cel) : Prop := nearB (rm G u + rm G v) u v = true ∧ nearB 402 u v = true
theorem edge_symm {G : List Cel} {u v : Cel} (h : Edge G u v) : Edge G v u := by
  obtain ⟨h1, h2⟩ := h
  rw [near_iff] at h1 h2
  exact ⟨near_iff.2 (by omega), near_iff.2 (by omega)⟩
theorem rm_cases (G : List Cel) (c : Cel) : (Mov G c ∧ rm G c = 267) ∨ (¬ Mov G c ∧ rm G c = 133) := by
  unfold rm
  by_cases h : Mov G c
  · rw [if_pos h]; exact .inl ⟨h, rfl⟩
  · rw [if_neg h]; exact .inr ⟨h, rfl⟩
theorem edge_near {G : List Cel} {t : Nat} (ht : t ≤ 200) {c c' d d' : Cel} (h : nearB 2 c c' = true) (ha : Anc G t c d) (ha' : Anc G t c' d') : Edge G d d' := by
  have r1 := rm_cases G d; have r2 := rm_cases G d'
  rw [near_iff] at h
  unfold Edge
  rw [near_iff, near_iff]
  rcases ha with ⟨m, n⟩ | ⟨m, rfl⟩ <;> rcases ha' with ⟨m', n'⟩ | ⟨m', rfl⟩
  · rw [near_iff] at n n'
    rcases r1 with ⟨_, r1⟩ | ⟨k, _⟩
    · rcases r2 with ⟨_, r2⟩ | ⟨k, _⟩
      · rw [r1, r2]; omega
      · exact absurd m' k
    · exact absurd m k
  · rw [near_iff] at n
    rcases r1 with ⟨_, r1⟩ | ⟨k, _⟩
    · rcases r2 with ⟨k, _⟩ | ⟨_, r2⟩
      · exact absurd k m'
      · rw [r1, r2]; omega
    · exact absurd m k
  · rw [near_iff] at n'
    rcases r1 with ⟨k, _⟩ | ⟨_, r1⟩
    · exact absurd k m
    · rcases r2 with ⟨_, r2⟩ | ⟨k, _⟩
      · rw [r1, r2]; omega
      · exact absurd m' k
  · rcases r1 with ⟨k, _⟩ | ⟨_, r1⟩
    · exact absurd k m
    · rcases r2 with ⟨k, _⟩ | ⟨_, r2⟩
      · exact absurd k m'
      · rw [r1, r2]; omega
theorem anc_up {G : List Cel} {t : Nat} {c d : Cel} (h : Anc G t c d) : Anc G (t + 1) c d := by
  rcases h with ⟨m, n⟩ | h
  · rw [near_iff] at n
    exact .inl ⟨m, near_iff.2 (by omega)⟩
  · exact .inr h
theorem anc_zero {G : List Cel} {c d : Cel} (h : Anc G 0 c d) : d = c := by
  rcases h with ⟨m, n⟩ | ⟨_, h⟩
  · rw [near_iff] at n
    obtain ⟨x, y⟩ := c
    obtain ⟨u, v⟩ := d
    simp only [Prod.mk.injEq] at *
    omega
  · exact h
theorem edge_back {G : List Cel} {t : Nat} (ht : t ≤ 200) {d1 d2 : Int} (h1 : -200 ≤ d1 ∧ d1 ≤ 200) (h2 : -200 ≤ d2 ∧ d2 ≤ 200) {c d : Cel} (ha : Anc G t (sh d1 d2 c) d) : Edge G c d := by
  have r1 := rm_cases G c; have r2 := rm_cases G d
  unfold Edge
  rw [near_iff, near_iff]
  rcases ha with ⟨m, n⟩ | ⟨m, rfl⟩
  · rw [near_iff] at n
    simp only [sh] at n
    rcases r2 with ⟨_, r2⟩ | ⟨k, _⟩
    · rcases r1 with ⟨_, r1⟩ | ⟨_, r1⟩ <;> rw [r1, r2] <;> omega
    · exact absurd m k
  · rcases r2 with ⟨k, _⟩ | ⟨_, r2⟩
    · exact absurd k m
    · simp only [sh]
      rcases r1 with ⟨_, r1⟩ | ⟨_, r1⟩ <;> rw [r1] <;> simp only [sh] at r2 <;> rw [r2] <;> omega

/-- Between two pieces of a part there is a short way. -/
theorem part_cut {f g : Nat → Bool} (hf : f 1 = false) {Gs : List (List Cel)} {d1 d2 : Int} (R : Ring f g Gs d1 d2) (hlen : Gs.length ≤ 201) (h1 : -200 ≤ d1 ∧ d1 ≤ 200) (h2 : -200 ≤ d2 ∧ d2 ≤ 200) {l : Nat} (Q : Cel → Prop) {a b : Cel} (ha : a ∈ cls (grp Gs) Gs l 0) (hb : b ∈ cls (grp Gs) Gs l 0) (qa : Q a) (qb : ¬ Q b) :
    ∃ u v, u ∈ cls (grp Gs) Gs l 0 ∧ v ∈ cls (grp Gs) Gs l 0 ∧ Q u ∧ ¬ Q v ∧ Edge (Gs.getD 0 []) u v := by
  refine Classical.byContradiction fun hno => ?_
  have two := R.two
  have no : ∀ u v, u ∈ cls (grp Gs) Gs l 0 → v ∈ cls (grp Gs) Gs l 0 → Edge (Gs.getD 0 []) u v → (Q u ↔ Q v) := fun u v hu hv he => by
    constructor
    · intro q; exact Classical.byContradiction fun q' => hno ⟨u, v, hu, hv, q, q', he⟩
    · intro q; exact Classical.byContradiction fun q' => hno ⟨v, u, hv, hu, q, q', edge_symm he⟩
  have key : ∀ k m, grp Gs k = grp Gs m → ((grp Gs k = l ∧ ∃ t i c j d, CellAt Gs t i c ∧ k = startOf Gs t + i ∧ CellAt Gs 0 j d ∧ grp Gs k = grp Gs j ∧ Anc (Gs.getD 0 []) t c d ∧ Q d) = (grp Gs m = l ∧ ∃ t i c j d, CellAt Gs t i c ∧ m = startOf Gs t + i ∧ CellAt Gs 0 j d ∧ grp Gs m = grp Gs j ∧ Anc (Gs.getD 0 []) t c d ∧ Q d)) := by
    intro k m hkm
    have hz : startOf Gs 0 = 0 := rfl
    have inP : ∀ {x j : Nat} {d : Cel}, grp Gs x = l → CellAt Gs 0 j d → grp Gs x = grp Gs j → d ∈ cls (grp Gs) Gs l 0 := fun {x j d} hx hj e => mem_cls.2 ⟨j, hj, by rw [hz, Nat.zero_add, ← e, hx]⟩
    -- one direction for two linked cells with an edge between all that hold them
    have dir : ∀ {t i t' i' : Nat} {c c' : Cel}, CellAt Gs t i c → CellAt Gs t' i' c' → grp Gs (startOf Gs t + i) = grp Gs (startOf Gs t' + i') → (∀ d d', Anc (Gs.getD 0 []) t c d → Anc (Gs.getD 0 []) t' c' d' → Edge (Gs.getD 0 []) d d') →
        (grp Gs (startOf Gs t + i) = l ∧ ∃ t2 i2 c2 j d, CellAt Gs t2 i2 c2 ∧ startOf Gs t + i = startOf Gs t2 + i2 ∧ CellAt Gs 0 j d ∧ grp Gs (startOf Gs t + i) = grp Gs j ∧ Anc (Gs.getD 0 []) t2 c2 d ∧ Q d) → (grp Gs (startOf Gs t' + i') = l ∧ ∃ t2 i2 c2 j d, CellAt Gs t2 i2 c2 ∧ startOf Gs t' + i' = startOf Gs t2 + i2 ∧ CellAt Gs 0 j d ∧ grp Gs (startOf Gs t' + i') = grp Gs j ∧ Anc (Gs.getD 0 []) t2 c2 d ∧ Q d) := by
      intro t i t' i' c c' hc hc' hg hE ⟨hl, t2, i2, c2, j, d, h2c, he, hj, hgj, hA, hq⟩
      obtain ⟨rfl, rfl, rfl⟩ := hc.uniq h2c he
      obtain ⟨j', d', hj', hgj', hA'⟩ := anc_mov hf R t' i' c' hc'
      exact ⟨hg ▸ hl, t', i', c', j', d', hc', rfl, hj', hgj', hA', (no d d' (inP hl hj hgj) (inP (hg ▸ hl) hj' hgj') (hE d d' hA hA')).1 hq⟩
    refine links_color (ps := allLinks Gs) (fun k => (grp Gs k = l ∧ ∃ t i c j d, CellAt Gs t i c ∧ k = startOf Gs t + i ∧ CellAt Gs 0 j d ∧ grp Gs k = grp Gs j ∧ Anc (Gs.getD 0 []) t c d ∧ Q d)) ?_ hkm
    rintro ⟨x, y⟩ hxy
    have hg := joins_two (ρ := id) _ hxy
    simp only
    rcases (mem_allLinks (by omega)).1 hxy with ⟨t, i, j, c, d, hc, hd, hn, rfl, rfl⟩ | ⟨t, i, j, c, d, hc, hd, hn, rfl, rfl⟩ | ⟨i, d, hd, rfl, rfl⟩
    · have ht := hc.lt
      have hn' : nearB 2 d c = true := by rw [near_iff] at hn ⊢; omega
      exact propext ⟨dir hc hd hg (fun _ _ a b => edge_near (by omega) hn a b), dir hd hc hg.symm (fun _ _ a b => edge_near (by omega) hn' a b)⟩
    · have ht := hd.lt
      have hn2 : nearB 2 c d = true := by rw [near_iff] at hn ⊢; omega
      have hn' : nearB 2 d c = true := by rw [near_iff] at hn ⊢; omega
      exact propext ⟨dir hc hd hg (fun _ _ a b => edge_near (by omega) hn2 (anc_up a) b), dir hd hc hg.symm (fun _ _ a b => edge_near (by omega) hn' a (anc_up b))⟩
    · have hd' := hd
      obtain ⟨G, hG, hdi⟩ := hd'
      have hgD : Gs.getD (Gs.length - 1) [] = G := by simp [List.getD, hG]
      rw [← hgD, R.back, List.getElem?_map] at hdi
      obtain ⟨c, hc, rfl⟩ := Option.map_eq_some_iff.1 hdi
      have hc0 : CellAt Gs 0 x c := ⟨_, getD_some (by omega), hc⟩
      have e0 : x = startOf Gs 0 + x := by rw [hz, Nat.zero_add]
      have hE : ∀ u v, Anc (Gs.getD 0 []) 0 c u → Anc (Gs.getD 0 []) (Gs.length - 1) (sh d1 d2 c) v → Edge (Gs.getD 0 []) u v := fun u v a b => by
        rw [anc_zero a]; exact edge_back (by omega) h1 h2 b
      have hg0 : grp Gs (startOf Gs 0 + x) = grp Gs (startOf Gs (Gs.length - 1) + x) := by rw [← e0]; exact hg
      have r := propext ⟨dir hc0 hd hg0 hE, dir hd hc0 hg0.symm (fun u v a b => edge_symm (hE v u b a))⟩
      rw [← e0] at r
      exact r
  obtain ⟨i, hi, ei⟩ := mem_cls.1 ha
  obtain ⟨j, hj, ej⟩ := mem_cls.1 hb
  have hz : startOf Gs 0 = 0 := rfl
  rw [hz, Nat.zero_add] at ei ej
  have := key i j (ei.trans ej.symm)
  have hself : Anc (Gs.getD 0 []) 0 a a := by
    by_cases hm : Mov (Gs.getD 0 []) a
    · exact .inl ⟨hm, near_iff.2 (by omega)⟩
    · exact .inr ⟨hm, rfl⟩
  have h3 := this.mp ⟨ei, 0, i, a, i, a, hi, by rw [hz, Nat.zero_add], hi, rfl, hself, qa⟩
  obtain ⟨_, t2, i2, c2, j2, d2', h2c, he, _, _, hA, hq⟩ := h3
  have he' : startOf Gs 0 + j = startOf Gs t2 + i2 := by rw [hz, Nat.zero_add]; exact he
  obtain ⟨rfl, rfl, rfl⟩ := hj.uniq h2c he'
  rw [anc_zero hA] at hq
  exact qb hq

end Go.Proofs.YtiohpcnnpmnjhaaGreatDoor

namespace Go.Proofs.YtiohpcnnpmnjhaaGreatDoor
set_option linter.unusedVariables false

theorem ext_rel {α : Type} {r : α → α → Prop} (tr : ∀ a b c, r a b → r b c → r a c) (irr : ∀ a, ¬ r a a) : ∀ (l : List α), l ≠ [] → ∃ p ∈ l, ∀ q ∈ l, ¬ r p q
  | [], h => absurd rfl h
  | [a], _ => ⟨a, by simp, fun q hq => by simp at hq; rw [hq]; exact irr a⟩
  | a :: b :: l, _ => by
    obtain ⟨p, hp, hm⟩ := ext_rel tr irr (b :: l) (by simp)
    by_cases h : r p a
    · refine ⟨a, by simp, fun q hq => ?_⟩
      rcases List.mem_cons.1 hq with rfl | hq
      · exact irr q
      · exact fun k => hm q hq (tr _ _ _ h k)
    · refine ⟨p, List.mem_cons_of_mem _ hp, fun q hq => ?_⟩
      rcases List.mem_cons.1 hq with rfl | hq
      · exact h
      · exact hm q hq

/-- With one neighbour enough to be born, what lives grows. -/
theorem grow_one {f g : Nat → Bool} (hf : f 1 = true) {D : List Cel} (ha : Asc D) {u v : Cel} (hu : u ∈ D) (hv : v ∈ D) : ∃ u' v', u' ∈ nextL f g D ∧ v' ∈ nextL f g D ∧ v.2 - u.2 + 2 ≤ v'.2 - u'.2 := by
  have hne : D ≠ [] := by rintro rfl; simp at hu
  obtain ⟨b, hb, mb⟩ := ext_rel (r := before) (fun _ _ _ => before_trans) before_irr D hne
  obtain ⟨a, haD, ma⟩ := ext_rel (r := fun x y => before y x) (fun _ _ _ h k => before_trans k h) before_irr D hne
  have born : ∀ (c e : Cel), e ∈ D → (∀ x ∈ D, x ∈ around c → x = e) → e ∈ around c → ¬ c ∈ D → c ∈ nextL f g D := fun c e he hx hec hc => by
    refine mem_nextL.2 ⟨⟨e, he, ?_⟩, ?_⟩
    · rw [mem_around] at hec ⊢; omega
    · unfold livesC
      rw [if_neg hc]
      have : nbC D c = 1 := by
        unfold nbC
        rw [List.countP_eq_length_filter]
        have : D.filter (isNb c) = [e] := asc_unique (List.Pairwise.filter _ ha) (by simp [Asc]) fun x => by
          rw [List.mem_filter, List.mem_singleton]
          constructor
          · rintro ⟨h1, h2⟩; exact hx x h1 (isNb_iff.1 h2).1
          · rintro rfl; exact ⟨he, isNb_iff.2 ⟨hec, fun h => hc (h ▸ he)⟩⟩
        rw [this]; rfl
      rw [this, hf]; rfl
  have ha' := born (a.1 - 1, a.2 - 1) a haD (fun x hx h => by
    have := ma x hx
    rw [mem_around] at h
    obtain ⟨x1, x2⟩ := x
    obtain ⟨a1, a2⟩ := a
    simp only [before, Prod.mk.injEq] at *
    omega) (by rw [mem_around]; simp only; omega) (fun h => by have := ma _ h; simp only [before] at this; omega)
  have hb' := born (b.1 + 1, b.2 + 1) b hb (fun x hx h => by
    have := mb x hx
    rw [mem_around] at h
    obtain ⟨x1, x2⟩ := x
    obtain ⟨a1, a2⟩ := b
    simp only [before, Prod.mk.injEq] at *
    omega) (by rw [mem_around]; simp only; omega) (fun h => by have := mb _ h; simp only [before] at this; omega)
  refine ⟨_, _, ha', hb', ?_⟩
  have h1 := ma u hu; have h2 := mb v hv
  simp only [before] at h1 h2 ⊢
  omega
theorem grow_gen {f g : Nat → Bool} (hf : f 1 = true) {D : List Cel} (ha : Asc D) {u v : Cel} (hu : u ∈ D) (hv : v ∈ D) : ∀ n : Nat, ∃ u' v', u' ∈ gen f g D n ∧ v' ∈ gen f g D n ∧ v.2 - u.2 + 2 * (n : Int) ≤ v'.2 - u'.2
  | 0 => ⟨u, v, hu, hv, by omega⟩
  | n + 1 => by
    obtain ⟨u', v', h1, h2, h3⟩ := grow_gen hf ha hu hv n
    obtain ⟨u2, v2, k1, k2, k3⟩ := grow_one (f := f) (g := g) hf (gen_asc ha n) h1 h2
    exact ⟨u2, v2, k1, k2, by omega⟩
theorem no_one {f g : Nat → Bool} {D : List Cel} (ha : Asc D) (hne : D ≠ []) {p : Nat} (hp : 1 ≤ p) {d1 d2 : Int} (hb : gen f g D p = D.map (sh d1 d2)) : f 1 = false := by
  cases hf : f 1 with
  | false => rfl
  | true =>
    exfalso
    obtain ⟨b, hbD, mb⟩ := ext_max (·.2) D hne
    obtain ⟨a, haD, ma⟩ := ext_max (fun c => -c.2) D hne
    obtain ⟨u, v, hu, hv, h⟩ := grow_gen (g := g) hf ha haD hbD p
    rw [hb] at hu hv
    obtain ⟨x, hx, rfl⟩ := List.mem_map.1 hu
    obtain ⟨y, hy, rfl⟩ := List.mem_map.1 hv
    have h1 : -x.2 ≤ -a.2 := ma x hx
    have h2 : y.2 ≤ b.2 := mb y hy
    simp only [sh] at h
    omega

theorem cover_count (L : List Int) (a : Int) (N : Nat) (h : ∀ z, a ≤ z → z < a + (N : Int) → ∃ l ∈ L, l ≤ z ∧ z < l + 270) : N ≤ 270 * L.length := by
  have h1 := nodup_le ((List.range N).map fun (k : Nat) => a + (k : Int)) (L.flatMap fun l => (List.range 270).map fun (k : Nat) => l + (k : Int)) (List.pairwise_map.2 (List.pairwise_lt_range.imp fun {x y} h e => by omega)) fun z hz => by
      obtain ⟨k, hk, rfl⟩ := List.mem_map.1 hz
      rw [List.mem_range] at hk
      obtain ⟨l, hl, h1, h2⟩ := h (a + (k : Int)) (by omega) (by omega)
      exact List.mem_flatMap.2 ⟨l, hl, List.mem_map.2 ⟨(a + (k : Int) - l).toNat, List.mem_range.2 (by omega), by omega⟩⟩
  rw [List.length_map, List.length_range] at h1
  have h2 : ∀ M : List Int, (M.flatMap fun l => (List.range 270).map fun (k : Nat) => l + (k : Int)).length = 270 * M.length := fun M => by
    induction M with
    | nil => rfl
    | cons x M ih => rw [List.flatMap_cons, List.length_append, ih, List.length_map, List.length_range, List.length_cons]; omega
  rw [h2] at h1
  exact h1

/-- From left to right, then down. -/
def lexL (a b : Cel) : Prop := a.1 < b.1 ∨ (a.1 = b.1 ∧ a.2 < b.2)
theorem lex_trans (a b c : Cel) (h : lexL a b) (k : lexL b c) : lexL a c := by unfold lexL at *; omega
theorem lex_irr (a : Cel) : ¬ lexL a a := by unfold lexL; omega
theorem lex_tri {a b : Cel} (h : ¬ lexL a b) (hne : b ≠ a) : lexL b a := by
  obtain ⟨x, y⟩ := a
  obtain ⟨u, v⟩ := b
  simp only [lexL, Prod.mk.injEq, ne_eq] at *
  omega
open Classical in
/-- Where the reach of a cell begins. -/
noncomputable def lo (G P : List Cel) (c : Cel) : Int := if Mov G c then (if ∃ d ∈ P, nearB 2 c d = true ∧ lexL c d then c.1 - 267 else c.1 - 2) else c.1 - 133
theorem width {G P : List Cel} (hcut : ∀ (z : Int) (a b : Cel), a ∈ P → b ∈ P → a.1 ≤ z → z < b.1 → ∃ u v, u ∈ P ∧ v ∈ P ∧ u.1 ≤ z ∧ z < v.1 ∧ Edge G u v)
    (hPG : ∀ c ∈ P, c ∈ G) (hmov : ∀ c ∈ P, Mov G c → ∃ d ∈ P, d ≠ c ∧ nearB 2 c d = true ∧ Mov G d) {x0 : Int} {T : Nat} {a b : Cel} (ha : a ∈ P) (hax : a.1 ≤ x0) (hb : b ∈ P) (hbx : x0 + (T : Int) ≤ b.1) :
    T ≤ 270 * (P.filter fun c => decide (c.1 < x0 + (T : Int))).length + 269 := by
  classical
  by_cases hT : T ≤ 269
  · omega
  have hcov := cover_count ((P.filter fun c => decide (c.1 < x0 + (T : Int))).map (lo G P)) x0 (T - 269) fun z hz1 hz2 => by
    have ok : ∀ c ∈ P, c.1 ≤ z + 267 → lo G P c ≤ z → z < lo G P c + 270 → ∃ l ∈ (P.filter fun c => decide (c.1 < x0 + (T : Int))).map (lo G P), l ≤ z ∧ z < l + 270 := fun c hc h1 h2 h3 =>
      ⟨lo G P c, List.mem_map_of_mem (List.mem_filter.2 ⟨hc, decide_eq_true (by omega)⟩), h2, h3⟩
    obtain ⟨u, v, hu, hv, huz, hvz, hE, _⟩ := hcut z a b ha hb (by omega) (by omega)
    rw [near_iff] at hE
    have r1 := rm_cases G u; have r2 := rm_cases G v
    by_cases hA : z - u.1 ≤ rm G u
    · rcases r1 with ⟨m, r1⟩ | ⟨m, r1⟩
      · -- the greatest that moves, up to z
        have hne : (P.filter fun c => decide (Mov G c ∧ c.1 ≤ z)) ≠ [] := fun e => by
          have : u ∈ P.filter fun c => decide (Mov G c ∧ c.1 ≤ z) := List.mem_filter.2 ⟨hu, decide_eq_true ⟨m, huz⟩⟩
          rw [e] at this; simp at this
        obtain ⟨q, hq, mq⟩ := ext_rel lex_trans lex_irr _ hne
        obtain ⟨hqP, hq2⟩ := List.mem_filter.1 hq
        obtain ⟨qm, qz⟩ := of_decide_eq_true hq2
        have hqu := mq u (List.mem_filter.2 ⟨hu, decide_eq_true ⟨m, huz⟩⟩)
        have hqu1 : u.1 ≤ q.1 := by unfold lexL at hqu; omega
        by_cases hg : ∃ d ∈ P, nearB 2 q d = true ∧ lexL q d
        · have hlo : lo G P q = q.1 - 267 := by unfold lo; rw [if_pos qm, if_pos hg]
          obtain ⟨d, hd, hn, hl⟩ := hg
          have dm : Mov G d ∧ d.1 ≤ z → False := fun h => mq d (List.mem_filter.2 ⟨hd, decide_eq_true h⟩) hl
          rw [near_iff] at hn
          have hdm : Mov G d := ⟨q, hPG q hqP, fun h => lex_irr d (h ▸ hl), near_iff.2 (by omega)⟩
          have hdz : z < d.1 := by
            by_cases h : d.1 ≤ z
            · exact (dm ⟨hdm, h⟩).elim
            · omega
          exact ok q hqP (by omega) (by rw [hlo]; omega) (by rw [hlo]; omega)
        · have hlo : lo G P q = q.1 - 2 := by unfold lo; rw [if_pos qm, if_neg hg]
          exact ok q hqP (by omega) (by rw [hlo]; omega) (by rw [hlo]; omega)
      · have hlo : lo G P u = u.1 - 133 := by unfold lo; rw [if_neg m]
        exact ok u hu (by omega) (by rw [hlo]; omega) (by rw [hlo]; omega)
    · have hB : v.1 - z ≤ rm G v := by omega
      rcases r2 with ⟨m, r2⟩ | ⟨m, r2⟩
      · have hne : (P.filter fun c => decide (Mov G c ∧ z < c.1)) ≠ [] := fun e => by
          have : v ∈ P.filter fun c => decide (Mov G c ∧ z < c.1) := List.mem_filter.2 ⟨hv, decide_eq_true ⟨m, hvz⟩⟩
          rw [e] at this; simp at this
        obtain ⟨q, hq, mq⟩ := ext_rel (r := fun x y => lexL y x) (fun a b c h k => lex_trans _ _ _ k h) lex_irr _ hne
        obtain ⟨hqP, hq2⟩ := List.mem_filter.1 hq
        obtain ⟨qm, qz⟩ := of_decide_eq_true hq2
        have hqu := mq v (List.mem_filter.2 ⟨hv, decide_eq_true ⟨m, hvz⟩⟩)
        have hqu1 : q.1 ≤ v.1 := by unfold lexL at hqu; omega
        by_cases hg : ∃ d ∈ P, nearB 2 q d = true ∧ lexL q d
        · have hlo : lo G P q = q.1 - 267 := by unfold lo; rw [if_pos qm, if_pos hg]
          exact ok q hqP (by omega) (by rw [hlo]; omega) (by rw [hlo]; omega)
        · have hlo : lo G P q = q.1 - 2 := by unfold lo; rw [if_pos qm, if_neg hg]
          obtain ⟨d, hd, hdq, hn, hdm⟩ := hmov q hqP qm
          have hl : lexL d q := lex_tri (fun h => hg ⟨d, hd, hn, h⟩) hdq
          have hdz : d.1 ≤ z := by
            by_cases h : d.1 ≤ z
            · exact h
            · exact (mq d (List.mem_filter.2 ⟨hd, decide_eq_true ⟨hdm, by omega⟩⟩) hl).elim
          rw [near_iff] at hn
          exact ok q hqP (by omega) (by rw [hlo]; omega) (by rw [hlo]; omega)
      · have hlo : lo G P v = v.1 - 133 := by unfold lo; rw [if_neg m]
        exact ok v hv (by omega) (by rw [hlo]; omega) (by rw [hlo]; omega)
  rw [List.length_map] at hcov
  omega

end Go.Proofs.YtiohpcnnpmnjhaaGreatDoor

namespace Go.Proofs.YtiohpcnnpmnjhaaGreatDoor
set_option linter.unusedVariables false

theorem itoa_nat_le (k u : Nat) (hk : 1 ≤ k) (h : u < 10 ^ k) : (Lib.itoa (u : Int)).length ≤ k := by rw [itoa_nat]; exact dec_le k u hk h
theorem itoa_21 (z : Int) (h1 : -4000000000000000000 ≤ z) (h2 : z ≤ 4000000000000000000) : (Lib.itoa z).length ≤ 21 := Lib.itoa_length_le z (by omega) (by omega)
theorem runB_nil0 (c : UInt8) : runB 0 c = [] := rfl
set_option maxRecDepth 100000 in
theorem runB_lenT (c : UInt8) (n : Nat) : (runB n c).length ≤ 5 + 5 * (n / 9999) := by
  induction n using Nat.strongRecOn with
  | _ n ih =>
    rw [runB_eq]
    split
    · simp
    · rename_i h0
      by_cases hn : n ≤ 9999
      · rw [show min n 9999 = n by omega, show n - n = 0 by omega, runB_nil0]
        split
        · have := itoa_nat_le 4 n (by omega) (by omega)
          simp only [List.length_append, List.length_cons, List.length_nil]; omega
        · simp only [List.length_append, List.length_cons, List.length_nil]; omega
      · rw [show min n 9999 = 9999 by omega, if_pos (by omega)]
        have h1 := itoa_nat_le 4 9999 (by omega) (by omega)
        have h2 := ih (n - 9999) (by omega)
        simp only [List.length_append, List.length_cons]
        have : n / 9999 = (n - 9999) / 9999 + 1 := by omega
        omega
theorem runB_len4 (c : UInt8) {n : Nat} (hn : n ≤ 999) : (runB n c).length ≤ 4 := by
  rw [runB_eq]
  split
  · simp
  · rw [show min n 9999 = n by omega, show n - n = 0 by omega, runB_nil0]
    split
    · have := itoa_nat_le 3 n (by omega) (by omega)
      simp only [List.length_append, List.length_cons, List.length_nil]; omega
    · simp
theorem runB_lenO (c : UInt8) {n : Nat} (h1 : 1 ≤ n) (hn : n ≤ 9999) : (runB n c).length ≤ n := by
  rw [runB_eq, if_neg (by omega), show min n 9999 = n by omega, show n - n = 0 by omega, runB_nil0]
  split
  · simp only [List.length_append, List.length_cons, List.length_nil]
    by_cases a : n ≤ 9
    · have := itoa_nat_le 1 n (by omega) (by omega); omega
    · by_cases b : n ≤ 99
      · have := itoa_nat_le 2 n (by omega) (by omega); omega
      · have := itoa_nat_le 4 n (by omega) (by omega); omega
  · simp; omega

/-- Rows one behind the other lie close together. -/
def Downs : Int → List Span → Prop
  | _, [] => True
  | ay, (_, y, _) :: q => y - ay ≤ 999 ∧ Downs y q
def Gap : List Cel → Prop
  | a :: b :: r => b.2 - a.2 ≤ 402 ∧ Gap (b :: r)
  | _ => True
theorem downs_segs : ∀ (C : List Cel) (x y : Int) (r : List Cel), C = (x, y) :: r → Gap C → Downs y (segs C)
  | [], _, _, _, h, _ => by cases h
  | [(a, b)], x, y, r, h, _ => by cases h; simp [segs, Downs]
  | (a, b) :: (a', b') :: r', x, y, r, h, hg => by
    cases h
    have ih := downs_segs ((a', b') :: r') a' b' r' rfl hg.2
    have h1 := hg.1
    simp only at h1
    obtain ⟨n, q, hq⟩ := segs_cons a' b' r'
    rw [segs, hq]
    rw [hq] at ih
    simp only
    split
    · rename_i he
      obtain ⟨_, he2⟩ := he
      refine ⟨by omega, ?_⟩
      have := ih.2
      rwa [he2] at this
    · exact ⟨by omega, by omega, ih.2⟩
/-- What a run of cells costs at most. -/
def wS (cx : Int) (s : Span) : Nat := 9 + s.2.2.toNat + 5 * ((s.1 - cx).toNat / 9999)
def wC (cx : Int) (c : Cel) : Nat := 10 + 5 * ((c.1 - cx).toNat / 9999)
theorem seg_len (cx : Int) : ∀ (l : List Span) (ax ay : Int) (b : List UInt8), Downs ay l → cx ≤ ax → (∀ s ∈ l, 1 ≤ s.2.2 ∧ s.2.2 ≤ 9999 ∧ cx ≤ s.1) → (l.foldl (segGo cx) ((ax, ay), b)).2.length ≤ b.length + (l.map (wS cx)).sum
  | [], ax, ay, b, _, _, _ => by simp
  | (x, y, n) :: q, ax, ay, b, hd, hx, hs => by
    obtain ⟨h1, h2, h3⟩ := hs (x, y, n) (by simp)
    simp only at h1 h2 h3
    have ih := seg_len cx q (x + n) y (b ++ (if ay < y then runB (y - ay).toNat 36 ++ runB (x - cx).toNat 98 else runB (x - ax).toNat 98) ++ runB n.toNat 111) hd.2 (by omega) (fun s h => hs s (by simp [h]))
    rw [List.foldl_cons]
    refine Nat.le_trans ih ?_
    rw [List.map_cons, List.sum_cons]
    have ho := runB_lenO 111 (n := n.toNat) (by omega) (by omega)
    have hb : (if ay < y then runB (y - ay).toNat 36 ++ runB (x - cx).toNat 98 else runB (x - ax).toNat 98).length ≤ 9 + 5 * ((x - cx).toNat / 9999) := by
      have hd1 := hd.1
      split
      · have e1 := runB_len4 36 (n := (y - ay).toNat) (by omega)
        have e2 := runB_lenT 98 (x - cx).toNat
        rw [List.length_append]; omega
      · have e2 := runB_lenT 98 (x - ax).toNat
        have : (x - ax).toNat / 9999 ≤ (x - cx).toNat / 9999 := Nat.div_le_div_right (by omega)
        omega
    simp only [List.length_append, wS]
    omega
theorem sum_ge {α : Type} (F : α → Nat) (k : Nat) : ∀ (l : List α), (∀ x ∈ l, k ≤ F x) → k * l.length ≤ (l.map F).sum
  | [], _ => by simp
  | a :: l, h => by
    have := sum_ge F k l (fun x hx => h x (by simp [hx]))
    have h1 := h a (by simp)
    rw [List.map_cons, List.sum_cons, List.length_cons, Nat.mul_add]
    omega
theorem sum_span (cx : Int) (s : Span) (h : 1 ≤ s.2.2) : wS cx s ≤ ((spanCells s).map (wC cx)).sum := by
  obtain ⟨x, y, n⟩ := s
  simp only at h
  obtain ⟨m, hm⟩ : ∃ m : Nat, n.toNat = m + 1 := ⟨n.toNat - 1, by omega⟩
  unfold spanCells runCells wS
  simp only [hm]
  rw [List.range_succ_eq_map, List.map_cons, List.map_cons, List.sum_cons]
  have := sum_ge (wC cx) 10 (List.map (fun (i : Nat) => ((x + (i : Int), y) : Cel)) (List.map Nat.succ (List.range m))) (fun c _ => by unfold wC; omega)
  simp only [List.length_map, List.length_range] at this
  simp only [wC, Int.ofNat_zero, Int.add_zero] at *
  omega
theorem sum_spans (cx : Int) : ∀ (l : List Span), (∀ s ∈ l, 1 ≤ s.2.2) → (l.map (wS cx)).sum ≤ ((cellsOf l).map (wC cx)).sum
  | [], _ => by simp
  | s :: l, h => by
    have h1 := sum_span cx s (h s (by simp))
    have h2 := sum_spans cx l (fun x hx => h x (by simp [hx]))
    unfold cellsOf at h2 ⊢
    rw [List.map_cons, List.sum_cons, List.flatMap_cons, List.map_append, List.sum_append]
    omega
theorem sum_cells (cx : Int) : ∀ (C : List Cel), (∀ c ∈ C, c.1 < cx + 29997) → (C.map (wC cx)).sum ≤ 10 * C.length + 5 * (C.countP (fun c => decide (cx + 9999 ≤ c.1)) + C.countP (fun c => decide (cx + 19998 ≤ c.1)))
  | [], _ => by simp
  | c :: C, h => by
    have h1 := h c (by simp)
    have h2 := sum_cells cx C (fun x hx => h x (by simp [hx]))
    rw [List.map_cons, List.sum_cons, List.countP_cons, List.countP_cons, List.length_cons]
    unfold wC at h2 ⊢
    by_cases a : cx + 9999 ≤ c.1 <;> by_cases b : cx + 19998 ≤ c.1 <;> simp only [a, b, decide_true, decide_false, if_true, if_false, Bool.false_eq_true] <;> omega
theorem gap_of {P : List Cel} (ha : Asc P) (hy : ∀ (z : Int) (a b : Cel), a ∈ P → b ∈ P → a.2 ≤ z → z < b.2 → ∃ u v, u ∈ P ∧ v ∈ P ∧ u.2 ≤ z ∧ z < v.2 ∧ v.2 - u.2 ≤ 402) : ∀ (r pre : List Cel), P = pre ++ r → Gap r
  | [], _, _ => trivial
  | [_], _, _ => trivial
  | a :: b :: r, pre, h => by
    refine ⟨?_, gap_of ha hy (b :: r) (pre ++ [a]) (by rw [h]; simp)⟩
    by_cases hab : b.2 ≤ a.2
    · omega
    · obtain ⟨u, v, hu, hv, h1, h2, h3⟩ := hy a.2 a b (by rw [h]; simp) (by rw [h]; simp) (Int.le_refl _) (by omega)
      have hvb : b.2 ≤ v.2 := by
        rw [h] at hv ha
        have hp := List.pairwise_append.1 ha
        rcases List.mem_append.1 hv with k | k
        · have := hp.2.2 v k a (by simp)
          unfold before at this; omega
        · rcases List.mem_cons.1 k with rfl | k
          · omega
          · rcases List.mem_cons.1 k with rfl | k
            · exact Int.le_refl _
            · have := (List.pairwise_cons.1 (List.pairwise_cons.1 hp.2.1).2).1 v k
              unfold before at this; omega
      omega
/-- The plain text of cells that lie so is not too long. -/
theorem plain_1500 {G P : List Cel} (ha : Asc P) (hl : P.length ≤ 100) (hn : ∀ c ∈ P, (-3000000000000000000 ≤ c.1 ∧ c.1 ≤ 3000000000000000000) ∧ (-3000000000000000000 ≤ c.2 ∧ c.2 ≤ 3000000000000000000)) (hPG : ∀ c ∈ P, c ∈ G)
    (hx : ∀ (z : Int) (a b : Cel), a ∈ P → b ∈ P → a.1 ≤ z → z < b.1 → ∃ u v, u ∈ P ∧ v ∈ P ∧ u.1 ≤ z ∧ z < v.1 ∧ Edge G u v)
    (hy : ∀ (z : Int) (a b : Cel), a ∈ P → b ∈ P → a.2 ≤ z → z < b.2 → ∃ u v, u ∈ P ∧ v ∈ P ∧ u.2 ≤ z ∧ z < v.2 ∧ v.2 - u.2 ≤ 402)
    (hmov : ∀ c ∈ P, Mov G c → ∃ d ∈ P, d ≠ c ∧ nearB 2 c d = true ∧ Mov G d) : (plainB P).length ≤ 1500 := by
  cases hP : P with
  | nil =>
    have h1 := itoa_21 (cornP []).1 (by decide) (by decide)
    have h2 := itoa_21 (cornP []).2 (by decide) (by decide)
    unfold plainB headB segRun
    simp only [segs, List.foldl_nil, List.length_append, List.length_cons, List.length_nil]
    omega
  | cons p r =>
    obtain ⟨x, y⟩ := p
    rw [← hP]
    have hco : cornP P = (minX x P, y) := by rw [hP]; rfl
    have hml := minX_least P x
    have hmm := minX_mem P x
    have hxy : (x, y) ∈ P := by rw [hP]; simp
    obtain ⟨cx, hcx⟩ : ∃ cx, minX x P = cx := ⟨_, rfl⟩
    rw [hcx] at hml hmm hco
    have hxm : ∃ a ∈ P, a.1 = cx := by
      rcases hmm with e | ⟨c, hc, e⟩
      · exact ⟨(x, y), hxy, e.symm⟩
      · exact ⟨c, hc, e.symm⟩
    obtain ⟨a0, ha0, hax⟩ := hxm
    have hna := hn a0 ha0; have hnx := hn _ hxy
    simp only at hnx
    have W : ∀ (T : Nat) (b : Cel), b ∈ P → cx + (T : Int) ≤ b.1 → T ≤ 270 * P.countP (fun c => decide (c.1 < cx + (T : Int))) + 269 := fun T b hb hbx => by
      rw [List.countP_eq_length_filter]
      exact width hx hPG hmov ha0 (by omega) hb hbx
    have lt3 : ∀ c ∈ P, c.1 < cx + 29997 := fun c hc => by
      by_cases h : c.1 < cx + 29997
      · exact h
      · have := W 29997 c hc (by omega)
        have hle := List.countP_le_length (p := fun c : Cel => decide (c.1 < cx + ((29997 : Nat) : Int))) (l := P)
        omega
    have split : ∀ (T : Int), P.countP (fun c => decide (cx + T ≤ c.1)) + P.countP (fun c => decide (c.1 < cx + T)) = P.length := fun T => by
      have := List.length_eq_countP_add_countP (fun c : Cel => decide (cx + T ≤ c.1)) (l := P)
      have e : (fun c : Cel => decide ¬ (decide (cx + T ≤ c.1) = true)) = fun c : Cel => decide (c.1 < cx + T) := by
        funext c
        rw [decide_eq_decide, decide_eq_true_eq]; omega
      rw [e] at this
      omega
    have n1 : P.countP (fun c => decide (cx + 9999 ≤ c.1)) ≤ 63 := by
      by_cases h : ∃ b ∈ P, cx + 9999 ≤ b.1
      · obtain ⟨b, hb, hbx⟩ := h
        have h1 := W 9999 b hb (by omega)
        have h2 := split 9999
        have e : ((9999 : Nat) : Int) = 9999 := rfl
        rw [e] at h1
        omega
      · have : P.countP (fun c => decide (cx + 9999 ≤ c.1)) = 0 := List.countP_eq_zero.2 fun c hc hh => h ⟨c, hc, of_decide_eq_true hh⟩
        omega
    have n2 : P.countP (fun c => decide (cx + 19998 ≤ c.1)) ≤ 26 := by
      by_cases h : ∃ b ∈ P, cx + 19998 ≤ b.1
      · obtain ⟨b, hb, hbx⟩ := h
        have h1 := W 19998 b hb (by omega)
        have h2 := split 19998
        have e : ((19998 : Nat) : Int) = 19998 := rfl
        rw [e] at h1
        omega
      · have : P.countP (fun c => decide (cx + 19998 ≤ c.1)) = 0 := List.countP_eq_zero.2 fun c hc hh => h ⟨c, hc, of_decide_eq_true hh⟩
        omega
    have hs := sum_cells cx P lt3
    have hss := sum_spans cx (segs P) (fun s h => segs_pos P s h)
    rw [cells_segs] at hss
    have hg : Gap P := gap_of ha hy P [] rfl
    have hd := downs_segs P x y r hP hg
    have hsp : ∀ s ∈ segs P, 1 ≤ s.2.2 ∧ s.2.2 ≤ 9999 ∧ cx ≤ s.1 := fun s h => by
      have h1 := segs_pos P s h
      have h2 := segs_le P s h
      refine ⟨h1, by omega, ?_⟩
      have hm : (s.1, s.2.1) ∈ P := by
        rw [← cells_segs P]
        refine List.mem_flatMap.2 ⟨s, h, ?_⟩
        unfold spanCells runCells
        exact List.mem_map.2 ⟨0, List.mem_range.2 (by omega), by simp⟩
      exact hml.2 _ hm
    have hseg := seg_len cx (segs P) cx y [] hd (Int.le_refl _) hsp
    have i1 := itoa_21 cx (by omega) (by omega)
    have i2 := itoa_21 y (by omega) (by omega)
    unfold plainB headB segRun
    rw [hco]
    simp only [List.length_append, List.length_cons, List.length_nil] at hseg ⊢
    omega

end Go.Proofs.YtiohpcnnpmnjhaaGreatDoor

namespace Go.Proofs.YtiohpcnnpmnjhaaGreatDoor
set_option linter.unusedVariables false

/-- The cells of all parts, n generations on. -/
def allP (f g : Nat → Bool) (Ps : List (List Cel)) (n : Nat) : List Cel := Ps.flatMap fun P => gen f g P n
theorem fold_withC_mem (l out : List Cel) (c : Cel) : c ∈ l.foldl withC out ↔ c ∈ out ∨ c ∈ l := by
  have := foldW_mem (fun c => c) l out c
  simpa using this
theorem fold_withC_asc (l out : List Cel) (h : Asc out) : Asc (l.foldl withC out) := foldW_asc (fun c => c) l out h
theorem allP_nodup {f g : Nat → Bool} {C : List Cel} {s p : Nat} {d1 d2 : Int} (hC : Asc C) (hp : 1 ≤ p) (hb : gen f g C (s + p) = (gen f g C s).map (sh d1 d2)) (n : Nat) : (allP f g (storyParts f g C s p) n).Nodup := by
  unfold allP List.Nodup
  rw [List.pairwise_flatMap]
  refine ⟨fun P hP => asc_nodup (gen_asc (part_asc hC hP) n), (parts_apart hC hp hb n).imp fun {P Q} h x hx y hy e => ?_⟩
  subst e
  exact h x hx hy
/-- All parts together are the whole, and no cell is in two of them. -/
theorem parts_all {f g : Nat → Bool} {C : List Cel} {s p : Nat} {d1 d2 : Int} (hC : Asc C) (hp : 1 ≤ p) (hb : gen f g C (s + p) = (gen f g C s).map (sh d1 d2)) (n : Nat) :
    (allP f g (storyParts f g C s p) n).foldl withC [] = gen f g C (s + n) ∧ (allP f g (storyParts f g C s p) n).length = (gen f g C (s + n)).length := by
  have hm : ∀ c, c ∈ allP f g (storyParts f g C s p) n ↔ c ∈ gen f g C (s + n) := fun c => by
    rw [parts_union hC hp hb n c]
    unfold allP
    rw [List.mem_flatMap]
  refine ⟨asc_unique (fold_withC_asc _ _ (by simp [Asc])) (gen_asc hC _) fun c => ?_, ?_⟩
  · rw [fold_withC_mem, hm]
    simp
  · refine Nat.le_antisymm ?_ ?_
    · exact nodup_le _ _ (allP_nodup hC hp hb n) fun c h => (hm c).1 h
    · exact nodup_le _ _ (asc_nodup (gen_asc hC _)) fun c h => (hm c).2 h
/-- A part's text is not too long. -/
theorem part_text {f g : Nat → Bool} {C : List Cel} {s p : Nat} {d1 d2 : Int} (hC : Asc C) (hp : 1 ≤ p) (hp2 : p ≤ 200) (hb : gen f g C (s + p) = (gen f g C s).map (sh d1 d2)) (h1 : -200 ≤ d1 ∧ d1 ≤ 200) (h2 : -200 ≤ d2 ∧ d2 ≤ 200) (hl : (gen f g C s).length ≤ 100)
    (hn : ∀ c ∈ gen f g C s, (-3000000000000000000 ≤ c.1 ∧ c.1 ≤ 3000000000000000000) ∧ (-3000000000000000000 ≤ c.2 ∧ c.2 ≤ 3000000000000000000)) {P : List Cel} (hP : P ∈ storyParts f g C s p) : (plainB P).length ≤ 1500 := by
  have hA := part_asc hC hP
  have R := gensL_ring hC hp hb
  have hsub : ∀ c ∈ P, c ∈ gen f g C s := fun c hc => part_sub hC hp hb hP 0 c hc
  have hG : (gensL f g C s p).getD 0 [] = gen f g C s := gensL_getD (Nat.zero_le _)
  have hlen := gensL_len f g C s p
  obtain ⟨l, hll, hr, rfl⟩ := mem_storyParts.1 hP
  have hf : f 1 = false := by
    refine no_one (g := g) (D := gen f g C s) (gen_asc hC _) (fun e => ?_) hp (d1 := d1) (d2 := d2) (by rw [← gen_add]; exact hb)
    rw [e] at hll; simp at hll
  refine plain_1500 (G := gen f g C s) hA (Nat.le_trans (sub_len hA hsub) hl) (fun c hc => hn c (hsub c hc)) hsub (fun z a b ha hb' haz hbz => ?_) (fun z a b ha hb' haz hbz => ?_) (fun c hc hm => ?_)
  · obtain ⟨u, v, hu, hv, qu, qv, hE⟩ := part_cut hf R (by omega) h1 h2 (fun c => c.1 ≤ z) ha hb' haz (by show ¬ b.1 ≤ z; omega)
    rw [hG] at hE
    exact ⟨u, v, hu, hv, qu, by omega, hE⟩
  · obtain ⟨u, v, hu, hv, qu, qv, hE⟩ := part_cut hf R (by omega) h1 h2 (fun c => c.2 ≤ z) ha hb' haz (by show ¬ b.2 ≤ z; omega)
    have := near_iff.1 hE.2
    exact ⟨u, v, hu, hv, qu, by omega, by omega⟩
  · obtain ⟨d, hd, hdc, hn2⟩ := hm
    rw [← hG] at hd
    obtain ⟨j, hj⟩ := (cell_mem (by omega)).1 hd
    obtain ⟨i, hi, e⟩ := mem_cls.1 hc
    have hdP : d ∈ cls (grp (gensL f g C s p)) (gensL f g C s p) l 0 := mem_cls.2 ⟨j, hj, by rw [← e]; exact (link_now (by omega) hi hj hn2).symm⟩
    refine ⟨d, hdP, hdc, hn2, ⟨c, hsub c hc, fun e => hdc e.symm, ?_⟩⟩
    rw [near_iff] at hn2 ⊢
    omega
theorem parts_nil {f g : Nat → Bool} {C : List Cel} {s p : Nat} {d1 d2 : Int} (hC : Asc C) (hp : 1 ≤ p) (hb : gen f g C (s + p) = (gen f g C s).map (sh d1 d2)) (n : Nat) : storyParts f g C s p = [] ↔ gen f g C (s + n) = [] := by
  constructor
  · intro h
    cases hg : gen f g C (s + n) with
    | nil => rfl
    | cons c r =>
      have := (parts_union hC hp hb n c).1 (by rw [hg]; simp)
      rw [h] at this; simp at this
  · intro h
    cases hs : storyParts f g C s p with
    | nil => rfl
    | cons P r =>
      have hP : P ∈ storyParts f g C s p := by rw [hs]; simp
      have hne := part_ne hC hp hb hP n
      cases hg : gen f g P n with
      | nil => exact absurd hg hne
      | cons c q =>
        have := part_sub hC hp hb hP n c (by rw [hg]; simp)
        rw [h] at this; simp at this

end Go.Proofs.YtiohpcnnpmnjhaaGreatDoor

namespace Go.Proofs.YtiohpcnnpmnjhaaGreatDoor
set_option linter.unusedVariables false

theorem color_at {Gs : List (List Cel)} {α : Type} (F : Nat → Nat → α) {κ : Nat → α} (hκ : ∀ t i c, CellAt Gs t i c → κ (startOf Gs t + i) = F t i) (hn : 1 ≤ Gs.length)
    (h1 : ∀ t i j c d, CellAt Gs t i c → CellAt Gs t j d → nearB 2 c d = true → F t i = F t j)
    (h2 : ∀ t i j c d, CellAt Gs t i c → CellAt Gs (t + 1) j d → nearB 1 c d = true → F t i = F (t + 1) j)
    (h3 : ∀ i c d, CellAt Gs 0 i c → CellAt Gs (Gs.length - 1) i d → F 0 i = F (Gs.length - 1) i)
    (h0 : ∀ i d, CellAt Gs (Gs.length - 1) i d → ∃ c, CellAt Gs 0 i c)
    {t i t' j : Nat} {c d : Cel} (hc : CellAt Gs t i c) (hd : CellAt Gs t' j d) (he : grp Gs (startOf Gs t + i) = grp Gs (startOf Gs t' + j)) : F t i = F t' j := by
  rw [← hκ t i c hc, ← hκ t' j d hd]
  refine links_color κ (ps := allLinks Gs) ?_ he
  rintro ⟨a, b⟩ hab
  simp only
  rcases (mem_allLinks hn).1 hab with ⟨t, i, j, c, d, hc, hd, hn, rfl, rfl⟩ | ⟨t, i, j, c, d, hc, hd, hn, rfl, rfl⟩ | ⟨i, d, hd, rfl, rfl⟩
  · rw [hκ _ _ _ hc, hκ _ _ _ hd]; exact h1 _ _ _ _ _ hc hd hn
  · rw [hκ _ _ _ hc, hκ _ _ _ hd]; exact h2 _ _ _ _ _ hc hd hn
  · obtain ⟨c, hc⟩ := h0 a d hd
    have e0 := hκ 0 a c hc
    rw [show startOf Gs 0 + a = a from Nat.zero_add a] at e0
    rw [e0, hκ _ _ _ hd]
    exact h3 a c d hc hd
open Classical in
/-- What is told of places is told of numbers. -/
theorem color_mk (Gs : List (List Cel)) {α : Type} [Inhabited α] (F : Nat → Nat → α) : ∃ κ : Nat → α, ∀ t i c, CellAt Gs t i c → κ (startOf Gs t + i) = F t i := by
  refine ⟨fun n => if h : ∃ p : Nat × Nat, (∃ c, CellAt Gs p.1 p.2 c) ∧ n = startOf Gs p.1 + p.2 then F (Classical.choose h).1 (Classical.choose h).2 else default, fun t i c hc => ?_⟩
  have h : ∃ p : Nat × Nat, (∃ c, CellAt Gs p.1 p.2 c) ∧ startOf Gs t + i = startOf Gs p.1 + p.2 := ⟨(t, i), ⟨c, hc⟩, rfl⟩
  simp only
  rw [dif_pos h]
  obtain ⟨⟨d, hd⟩, he⟩ := Classical.choose_spec h
  obtain ⟨e1, e2, _⟩ := hc.uniq hd he
  rw [← e1, ← e2]
theorem near_sh {ap : Int} {c d : Cel} (a b : Int) : nearB ap (sh a b c) (sh a b d) = nearB ap c d := by
  rw [Bool.eq_iff_iff, near_iff, near_iff]
  simp only [sh]
  omega
theorem gen_sh_at {f g : Nat → Bool} {C : List Cel} {s p : Nat} {d1 d2 : Int} (hb : gen f g C (s + p) = (gen f g C s).map (sh d1 d2)) (k i : Nat) {d : Cel} : (gen f g C (s + k + p))[i]? = some d ↔ ∃ c, (gen f g C (s + k))[i]? = some c ∧ d = sh d1 d2 c := by
  have h := gen_cycle hb k 1
  rw [Nat.one_mul] at h
  rw [h, List.getElem?_map]
  simp only [Int.ofNat_one, Int.one_mul, Option.map_eq_some_iff]
  exact ⟨fun ⟨c, h1, h2⟩ => ⟨c, h1, h2.symm⟩, fun ⟨c, h1, h2⟩ => ⟨c, h1, h2.symm⟩⟩

/-- The groups of the next generation are those of this one. -/
theorem grp_next {f g : Nat → Bool} {C : List Cel} {s p : Nat} {d1 d2 : Int} (hp : 1 ≤ p) (hb : gen f g C (s + p) = (gen f g C s).map (sh d1 d2)) {i j : Nat} {c d : Cel} (hi : (gen f g C (s + 1))[i]? = some c) (hj : (gen f g C (s + 1))[j]? = some d) :
    grp (gensL f g C s p) (startOf (gensL f g C s p) 1 + i) = grp (gensL f g C s p) (startOf (gensL f g C s p) 1 + j) ↔ grp (gensL f g C (s + 1) p) i = grp (gensL f g C (s + 1) p) j := by
  have hl := gensL_len f g C s p
  have hl' := gensL_len f g C (s + 1) p
  have hz : startOf (gensL f g C (s + 1) p) 0 = 0 := rfl
  have n1 : 1 ≤ (gensL f g C s p).length := by omega
  have n1' : 1 ≤ (gensL f g C (s + 1) p).length := by omega
  -- places of the one among those of the other
  have up : ∀ {t i c}, 1 ≤ t → CellAt (gensL f g C s p) t i c → CellAt (gensL f g C (s + 1) p) (t - 1) i c := fun {t i c} h1 h => by
    obtain ⟨a, b⟩ := cell0.1 h
    exact cell0.2 ⟨by omega, by rw [show s + 1 + (t - 1) = s + t by omega]; exact b⟩
  have up0 : ∀ {i c}, CellAt (gensL f g C s p) 0 i c → CellAt (gensL f g C (s + 1) p) (p - 1) i (sh d1 d2 c) := fun {i c} h => by
    obtain ⟨_, b⟩ := cell0.1 h
    refine cell0.2 ⟨by omega, ?_⟩
    rw [show s + 1 + (p - 1) = s + 0 + p by omega]
    exact (gen_sh_at hb 0 i).2 ⟨c, b, rfl⟩
  have up1 : ∀ {i c}, CellAt (gensL f g C s p) 1 i c → CellAt (gensL f g C (s + 1) p) p i (sh d1 d2 c) := fun {i c} h => by
    obtain ⟨_, b⟩ := cell0.1 h
    refine cell0.2 ⟨by omega, ?_⟩
    exact (gen_sh_at hb 1 i).2 ⟨c, b, rfl⟩
  have dn : ∀ {t i c}, t + 1 ≤ p → CellAt (gensL f g C (s + 1) p) t i c → CellAt (gensL f g C s p) (t + 1) i c := fun {t i c} h1 h => by
    obtain ⟨a, b⟩ := cell0.1 h
    exact cell0.2 ⟨by omega, by rw [show s + (t + 1) = s + 1 + t by omega]; exact b⟩
  have dnp : ∀ {i d}, CellAt (gensL f g C (s + 1) p) p i d → ∃ c, CellAt (gensL f g C s p) 1 i c ∧ d = sh d1 d2 c := fun {i d} h => by
    obtain ⟨_, b⟩ := cell0.1 h
    obtain ⟨c, h1, h2⟩ := (gen_sh_at hb 1 i).1 b
    exact ⟨c, cell0.2 ⟨by omega, h1⟩, h2⟩
  have dn0 : ∀ {i d}, CellAt (gensL f g C s p) p i d → ∃ c, CellAt (gensL f g C s p) 0 i c ∧ d = sh d1 d2 c := fun {i d} h => by
    obtain ⟨_, b⟩ := cell0.1 h
    obtain ⟨c, h1, h2⟩ := (gen_sh_at hb 0 i).1 (by rw [Nat.add_zero]; exact b)
    exact ⟨c, cell0.2 ⟨by omega, h1⟩, h2⟩
  have idn : ∀ {i d}, CellAt (gensL f g C s p) p i d → grp (gensL f g C s p) (startOf (gensL f g C s p) 0 + i) = grp (gensL f g C s p) (startOf (gensL f g C s p) p + i) := fun {i d} h => by
    have := link_back (Gs := gensL f g C s p) n1 (i := i) (d := d) (by rw [hl, Nat.add_sub_cancel]; exact h)
    rw [hl, Nat.add_sub_cancel] at this
    rw [show startOf (gensL f g C s p) 0 + i = i from Nat.zero_add i]; exact this
  have idn' : ∀ {i d}, CellAt (gensL f g C (s + 1) p) p i d → grp (gensL f g C (s + 1) p) (startOf (gensL f g C (s + 1) p) 0 + i) = grp (gensL f g C (s + 1) p) (startOf (gensL f g C (s + 1) p) p + i) := fun {i d} h => by
    have := link_back (Gs := gensL f g C (s + 1) p) n1' (i := i) (d := d) (by rw [hl', Nat.add_sub_cancel]; exact h)
    rw [hl', Nat.add_sub_cancel] at this
    rw [show startOf (gensL f g C (s + 1) p) 0 + i = i from Nat.zero_add i]; exact this
  constructor
  · intro he
    let F : Nat → Nat → Nat := fun t i => if 1 ≤ t then grp (gensL f g C (s + 1) p) (startOf (gensL f g C (s + 1) p) (t - 1) + i) else grp (gensL f g C (s + 1) p) (startOf (gensL f g C (s + 1) p) (p - 1) + i)
    obtain ⟨κ, hκ⟩ := color_mk (gensL f g C s p) F
    have := color_at F hκ n1 ?_ ?_ ?_ ?_ (t := 1) (i := i) (t' := 1) (j := j) (c := c) (d := d) (cell0.2 ⟨hp, hi⟩) (cell0.2 ⟨hp, hj⟩) he
    · have e : ∀ x, F 1 x = grp (gensL f g C (s + 1) p) x := fun x => by
        show (if 1 ≤ 1 then _ else _) = _
        rw [if_pos (Nat.le_refl 1)]
        show grp _ (startOf (gensL f g C (s + 1) p) 0 + x) = _
        rw [hz, Nat.zero_add]
      rwa [e, e] at this
    · intro t i j c d hc hd hn
      show (if 1 ≤ t then _ else _) = (if 1 ≤ t then _ else _)
      split
      · rename_i h1
        exact link_now n1' (up h1 hc) (up h1 hd) hn
      · obtain rfl : t = 0 := by omega
        exact link_now n1' (up0 hc) (up0 hd) (by rw [near_sh]; exact hn)
    · intro t i j c d hc hd hn
      show (if 1 ≤ t then _ else _) = (if 1 ≤ t + 1 then _ else _)
      rw [if_pos (show 1 ≤ t + 1 by omega)]
      split
      · rename_i h1
        have h2 := up h1 hc
        have h3 := up (by omega) hd
        rw [show t + 1 - 1 = (t - 1) + 1 by omega] at h3 ⊢
        exact link_turn n1' h2 h3 hn
      · obtain rfl : t = 0 := by omega
        have h2 := up0 hc
        have h3 := up1 hd
        have h4 : CellAt (gensL f g C (s + 1) p) (p - 1 + 1) j (sh d1 d2 d) := by rw [show p - 1 + 1 = p by omega]; exact h3
        have h5 := link_turn n1' h2 h4 (by rw [near_sh]; exact hn)
        rw [show p - 1 + 1 = p by omega] at h5
        rw [h5, ← idn' h3]
    · intro i c d hc hd
      show (if 1 ≤ 0 then _ else _) = (if 1 ≤ (gensL f g C s p).length - 1 then _ else _)
      rw [if_neg (by omega), if_pos (by omega), hl, Nat.add_sub_cancel]
    · intro i d hd
      rw [hl, Nat.add_sub_cancel] at hd
      obtain ⟨c, hc, _⟩ := dn0 hd
      exact ⟨c, hc⟩
  · intro he
    let F : Nat → Nat → Nat := fun t i => if t + 1 ≤ p then grp (gensL f g C s p) (startOf (gensL f g C s p) (t + 1) + i) else grp (gensL f g C s p) (startOf (gensL f g C s p) 1 + i)
    obtain ⟨κ, hκ⟩ := color_mk (gensL f g C (s + 1) p) F
    have h0 : ∀ {x y}, (gen f g C (s + 1))[x]? = some y → CellAt (gensL f g C (s + 1) p) 0 x y := fun {x y} h => cell0.2 ⟨Nat.zero_le _, h⟩
    have := color_at F hκ n1' ?_ ?_ ?_ ?_ (t := 0) (i := i) (t' := 0) (j := j) (h0 hi) (h0 hj) (by rw [hz, Nat.zero_add, Nat.zero_add]; exact he)
    · have e : ∀ x, F 0 x = grp (gensL f g C s p) (startOf (gensL f g C s p) 1 + x) := fun x => by
        show (if 0 + 1 ≤ p then _ else _) = _
        rw [if_pos (by omega)]
      rwa [e, e] at this
    · intro t i j c d hc hd hn
      show (if t + 1 ≤ p then _ else _) = (if t + 1 ≤ p then _ else _)
      split
      · rename_i h1
        exact link_now n1 (dn h1 hc) (dn h1 hd) hn
      · have ht := (cell0.1 hc).1
        obtain rfl : t = p := by omega
        obtain ⟨c', hc', rfl⟩ := dnp hc
        obtain ⟨d', hd', rfl⟩ := dnp hd
        rw [near_sh] at hn
        exact link_now n1 hc' hd' hn
    · intro t i j c d hc hd hn
      have ht := (cell0.1 hd).1
      show (if t + 1 ≤ p then _ else _) = (if t + 1 + 1 ≤ p then _ else _)
      rw [if_pos ht]
      split
      · rename_i h1
        exact link_turn n1 (dn ht hc) (dn h1 hd) hn
      · obtain rfl : t + 1 = p := by omega
        obtain ⟨d', hd', rfl⟩ := dnp hd
        have hc2 := dn ht hc
        obtain ⟨c', hc', rfl⟩ := dn0 hc2
        rw [near_sh] at hn
        rw [← idn hc2]
        exact link_turn n1 hc' hd' hn
    · intro i c d hc hd
      show (if 0 + 1 ≤ p then _ else _) = (if (gensL f g C (s + 1) p).length - 1 + 1 ≤ p then _ else _)
      rw [if_pos (by omega), if_neg (by omega)]
    · intro i d hd
      rw [hl', Nat.add_sub_cancel] at hd
      obtain ⟨c, hc, _⟩ := dnp hd
      exact ⟨c, cell0.2 ⟨Nat.zero_le _, (cell0.1 hc).2⟩⟩
theorem ledTo_iff {ρ ρ' : Nat → Nat} {C : List Cel} {l l' m : Nat} (h : ∀ i, i < m → (ρ i = l ↔ ρ' i = l')) : ledTo ρ C l m = ledTo ρ' C l' m := by
  unfold ledTo
  refine fm_congr _ fun i hi => ?_
  have := h i (List.mem_range.1 hi)
  by_cases e : ρ i = l
  · rw [if_pos e, if_pos (this.1 e)]
  · rw [if_neg e, if_neg (fun k => e (this.2 k))]
/-- A part, one generation on, is a part of the next generation. -/
theorem part_next {f g : Nat → Bool} {C : List Cel} {s p : Nat} {d1 d2 : Int} (hC : Asc C) (hp : 1 ≤ p) (hb : gen f g C (s + p) = (gen f g C s).map (sh d1 d2)) {P : List Cel} (hP : P ∈ storyParts f g C s p) : nextL f g P ∈ storyParts f g C (s + 1) p := by
  have hne := part_ne hC hp hb hP 1
  obtain ⟨l, hl, hr, rfl⟩ := mem_storyParts.1 hP
  have R := gensL_ring hC hp hb
  have hlen := gensL_len f g C s p
  have h1 : nextL f g (cls (grp (gensL f g C s p)) (gensL f g C s p) l 0) = cls (grp (gensL f g C s p)) (gensL f g C s p) l 1 := cls_next R (by omega)
  have hne' : cls (grp (gensL f g C s p)) (gensL f g C s p) l 1 ≠ [] := by rw [← h1]; exact hne
  obtain ⟨c, hc⟩ := List.exists_mem_of_ne_nil _ hne'
  obtain ⟨i0, hi0, e0⟩ := mem_cls.1 hc
  obtain ⟨_, hi0'⟩ := cell0.1 hi0
  have hr' := grp_root (gensL f g C (s + 1) p) i0
  have hil := (List.getElem?_eq_some_iff.1 hi0').1
  rw [h1]
  refine mem_storyParts.2 ⟨grp (gensL f g C (s + 1) p) i0, by omega, hr'.2, ?_⟩
  unfold cls
  rw [gensL_getD hp, gensL_getD (Nat.zero_le _), Nat.add_zero]
  refine ledTo_iff fun j hj => ?_
  have hj' : (gen f g C (s + 1))[j]? = some ((gen f g C (s + 1))[j]) := List.getElem?_eq_getElem hj
  rw [show startOf (gensL f g C (s + 1) p) 0 + j = j from Nat.zero_add j, ← grp_next hp hb hj' hi0', e0]
theorem part_later {f g : Nat → Bool} {C : List Cel} {s p : Nat} {d1 d2 : Int} (hC : Asc C) (hp : 1 ≤ p) (hb : gen f g C (s + p) = (gen f g C s).map (sh d1 d2)) {P : List Cel} (hP : P ∈ storyParts f g C s p) : ∀ k, gen f g P k ∈ storyParts f g C (s + k) p
  | 0 => hP
  | k + 1 => by
    have hb' : gen f g C (s + k + p) = (gen f g C (s + k)).map (sh d1 d2) := by
      have := gen_cycle hb k 1
      simpa using this
    exact part_next hC hp hb' (part_later hC hp hb hP k)

end Go.Proofs.YtiohpcnnpmnjhaaGreatDoor
