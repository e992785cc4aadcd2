import Derived.Test.YtiohpcnnpmnjhaaDoorPlainText
import Derived.Test.YtiohpcnnpmnjhaaDoorFace
import Derived.Test.YtiohpcnnpmnjhaaDoorWindow
namespace Go.Proofs.YtiohpcnnpmnjhaaDoor
open Go.RowKit Go.Shelf
set_option linter.unusedVariables false

theorem plainText_any (C : List Cel) (v : Value) (X0 Y0 : Int) (B : Nat) (w : World) (own : w.ownsRow B 53 2 v C.length (flatC C)) (hf : Fine C X0 Y0) (ht : Tab w.heap.size w) :
    Calls Tryd.prog 10 #[v] w fun e w' => e = .returned (.string ⟨(plainB C).toArray⟩) ∧ Below w.heap.size w w' := by
  have own0 := ownsRow_mono own (Nat.zero_le B)
  obtain ⟨x1, x2, y1, y2, len, win, asc⟩ := hf
  have hco := Fine.corn ⟨x1, x2, y1, y2, len, win, asc⟩
  have hv : ∃ a cap, v = .slice a C.length cap := by
    rcases own.2 with ⟨rfl, h0⟩ | ⟨g, cap, cur, rfl, _⟩
    · exact ⟨none, 0, by rw [h0]⟩
    · exact ⟨_, _, rfl⟩
  obtain ⟨a, cap, rfl⟩ := hv
  exact callsIn_wide.1 (plainText_in X0 Y0 a cap C w own0 len win (by omega) (by omega) (by omega) (by omega) hco ht)

theorem tab_up {B n : Nat} {w w1 : World} (h : Tab B w) (hb : Below B w w1) (hn : B ≤ n) : Tab n w1 := fun w' hw => h w' (hb.trans (hw.mono hn))

/-- What Print's work leaves in its box. -/
def PrintR (s : ByteArray) (b : Nat) (w : World) (r : Option (Int × Int)) (w' : World) : Prop :=
  (∃ t, w'.heap[b]? = some (.cells #[.string t] 9 (0, 0)) ∧ match patR s with
    | .inl (k, i) => r = some (k, (i : Int)) ∧ t = ⟨#[]⟩
    | .inr C => r = none ∧ t = ⟨(plainB C).toArray⟩) ∧ Below b w w' 

set_option maxHeartbeats 800000 in
theorem work_any (bt bp : Nat) (s : ByteArray) (w : World) (hm : s.size ≤ maxLen) (hbp : bt < bp) (hc : w.heap[bt]? = some (.cells #[.string s] 9 (0, 0))) (hp : w.heap[bp]? = some (.cells #[.string ⟨#[]⟩] 9 (0, 0))) (ht : Tab bp w) :
    Calls Tryd.prog 9 #[.pointer (some ⟨bt, 0, none⟩), .pointer (some ⟨bp, 0, none⟩)] w fun e w' => (∀ k o, bp < k → w.heap[k]? = some o → w'.heap[k]? = some o) ∧ ((e = .returned (.tuple #[]) ∧ PrintR s bp w none w') ∨ ∃ k i, e = .panicked (refusal k i) ∧ PrintR s bp w (some (k, i)) w') := by
  have hR := readPattern_any s w hm
  have q0 := topc hc
  have q1 := topc hp
  have z1 := topz hp
  have lp : bp < w.heap.size := blk_lt hp
  cases hr : patR s with
  | inl x =>
    obtain ⟨k, i⟩ := x
    go_enter Tryd.func9, Tryd.ntmps9
    go_wp2_with (go_at_call 11; refine hR.mono ?_; intro e w' ho; unfold PatOut at ho; rw [hr] at ho; obtain ⟨hb, he⟩ := ho; simp only at he; subst he)
    refine ⟨rfl, ?_, .inr ⟨k, i, rfl, ⟨_, (hb.block bp lp).trans hp, ?_⟩, hb.mono (by omega)⟩⟩
    · intro k o hk ho; exact (hb.block k (blk_lt ho)).trans ho
    · rw [hr]; exact ⟨rfl, rfl⟩
  | inr C =>
    obtain ⟨X0, Y0, hf⟩ := patR_fine hr
    go_enter Tryd.func9, Tryd.ntmps9
    go_wp2_with (first
      | (go_at_call 11; refine hR.mono ?_; intro e w1 ho; unfold PatOut at ho; rw [hr] at ho; obtain ⟨hb, v, rfl, own⟩ := ho; have ht1 : Tab w1.heap.size w1 := tab_up ht (hb.mono (Nat.le_of_lt lp)) (Nat.le_trans (Nat.le_of_lt lp) hb.size); have hP := plainText_any C v X0 Y0 _ w1 own hf ht1)
      | (go_at_call 10; refine hP.mono ?_; rintro e w2 ⟨rfl, hb2⟩; have hb3 := hb.trans (hb2.mono hb.size); have c3 := (hb3.block bp lp).trans hp; have q3 := topc c3; have z3 := topz c3))
    go_end0
    refine ⟨?_, .inl ⟨rfl, ⟨_, blk_put (j := 0) c3 _, ?_⟩, (hb3.mono (Nat.le_of_lt lp)).setCell (p := ⟨bp, 0, none⟩) (Nat.le_refl _) _⟩⟩
    · intro k o hk ho
      exact blk_set ((hb3.block k (blk_lt ho)).trans ho) (by simp only; omega) _
    · rw [hr]; exact ⟨rfl, rfl⟩

/-- Print's answer. -/
def printT (s : ByteArray) : ByteArray × Int × Int := match patR s with
  | .inl (k, i) => (⟨#[]⟩, k, (i : Int))
  | .inr C => (⟨(plainB C).toArray⟩, 0, 0)

set_option maxHeartbeats 800000 in
/-- Print, whole. -/
theorem print_any (s : ByteArray) (w : World) (hm : s.size ≤ maxLen) (ht : Tab w.heap.size w) :
    Calls Tryd.prog 4 #[.string s] w fun e w' => e = .returned (.tuple #[.string (printT s).1, .int .i64 (printT s).2.1, .int .i64 (printT s).2.2]) ∧ Below w.heap.size w w' := by
  have hmf : ∀ (fn : Fn) (first cap : Array Value) (w : World), (Instr.makeFunc fn first cap).run Tryd.prog w = .ok (.func fn first cap) w := fun _ _ _ _ => rfl
  obtain ⟨w2, hw2⟩ : ∃ w2, (w.alloc (.cells #[.string s] 9)).alloc (.cells #[.string ⟨#[]⟩] 9) = w2 := ⟨_, rfl⟩
  have s2 : w2.heap.size = w.heap.size + 2 := by rw [← hw2]; simp
  have b2 : Below w.heap.size w w2 := by rw [← hw2]; exact ((Below.refl _ _).alloc (Nat.le_refl _) _).alloc (by simp) _
  have t0 : w2.heap[w.heap.size]? = some (.cells #[.string s] 9 (0, 0)) := by rw [← hw2]; exact blk_old (blk_new w _) _
  have t1 : w2.heap[w.heap.size + 1]? = some (.cells #[.string ⟨#[]⟩] 9 (0, 0)) := by
    have := blk_new (w.alloc (.cells #[.string s] 9)) (.cells #[.string ⟨#[]⟩] 9)
    rw [hw2] at this; simpa using this
  have b4 : Below w2.heap.size w2 ((w2.alloc (.cells #[.int .i64 0] 22)).alloc (.cells #[.int .i64 0] 3)) := ((Below.refl _ _).alloc (Nat.le_refl _) _).alloc (by simp) _
  have u0 : ((w2.alloc (.cells #[.int .i64 0] 22)).alloc (.cells #[.int .i64 0] 3)).heap[w2.heap.size]? = some (.cells #[.int .i64 0] 22 (0, 0)) := blk_old (blk_new _ _) _
  have u1 : ((w2.alloc (.cells #[.int .i64 0] 22)).alloc (.cells #[.int .i64 0] 3)).heap[w2.heap.size + 1]? = some (.cells #[.int .i64 0] 3 (0, 0)) := by
    have := blk_new (w2.alloc (.cells #[.int .i64 0] 22)) (.cells #[.int .i64 0] 3)
    simpa using this
  have hW := work_any w.heap.size (w.heap.size + 1) s ((w2.alloc (.cells #[.int .i64 0] 22)).alloc (.cells #[.int .i64 0] 3)) hm (by omega) (blk_old (blk_old t0 _) _) (blk_old (blk_old t1 _) _) (tab_up ht (b2.trans (b4.mono (by omega))) (by omega))
  have hA := attempt_gen 9 #[.pointer (some ⟨w.heap.size, 0, none⟩), .pointer (some ⟨w.heap.size + 1, 0, none⟩)] w2 (enters_of Tryd.func9 (by kernel_rfl) rfl)
    (fun r w' => PrintR s (w.heap.size + 1) ((w2.alloc (.cells #[.int .i64 0] 22)).alloc (.cells #[.int .i64 0] 3)) r w' ∧ w2.heap.size ≤ w'.heap.size)
    (hW.mono fun e w' ⟨hk, ho⟩ => by
      have k0 := hk _ _ (by omega) u0
      have k1 := hk _ _ (by omega) u1
      have l1 := blk_lt k1
      refine ⟨⟨k0, k1⟩, ?_⟩
      rcases ho with ⟨h1, h2⟩ | ⟨k, i, h1, h2⟩
      · exact .inl ⟨h1, h2, by omega⟩
      · exact .inr ⟨k, i, h1, h2, by omega⟩)
  clear hW t0 t1 u0 u1
  subst hw2
  go_enter Tryd.func4, Tryd.ntmps4
  go_wp2_with (go_at_call 8; refine hA.mono ?_; rintro e w5 ⟨r, rfl, w6, ⟨⟨⟨t, ht6, hr⟩, hb6⟩, hs6⟩, hb5⟩; have c5 := (hb5.block (w.heap.size + 1) (by simp)).trans ht6; have q5 := topc c5)
  have hT : t = (printT s).1 ∧ (r.getD (0, 0)).1 = (printT s).2.1 ∧ (r.getD (0, 0)).2 = (printT s).2.2 := by
    unfold printT
    split at hr
    · obtain ⟨rfl, rfl⟩ := hr; exact ⟨rfl, rfl, rfl⟩
    · obtain ⟨rfl, rfl⟩ := hr; exact ⟨rfl, rfl, rfl⟩
  rw [← hT.1, ← hT.2.1, ← hT.2.2]
  exact bodyPost_ret (v := .tuple #[.string t, .int .i64 (r.getD (0, 0)).1, .int .i64 (r.getD (0, 0)).2]) (by simp [results, Tryd.results4, go_sem]) rfl ⟨rfl, (b2.trans (b4.mono (by simp; omega))).trans ((hb6.mono (by omega)).trans (hb5.mono (by simp; omega)))⟩

end Go.Proofs.YtiohpcnnpmnjhaaDoor
