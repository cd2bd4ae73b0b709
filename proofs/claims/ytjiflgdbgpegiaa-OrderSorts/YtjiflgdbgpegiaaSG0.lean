import Derived.Test.YtjiflgdbgpegiaaSD0
import Derived.Test.YtjiflgdbgpegiaaSC1
set_option linter.unusedVariables false
set_option linter.unusedSimpArgs false
namespace Go.Proofs.Ytjiflgdbgpegiaa
theorem eqv.perm {M l : List Nat} (h : eqv kI M l) : M.Perm l := by
  rw [List.perm_iff_count]
  intro x
  have h1 := h (kI x)
  have h2 := congrArg (List.count x) h1
  rw [List.count_filter (by simp), List.count_filter (by simp)] at h2
  exact h2
/-- A number as statements tell it from others: NaNs are one. -/
def cls (x : Nat) : Nat := if 9218868437227405312 < x % 9223372036854775808 then 18446744073709551616 else x
theorem cls_nan {x : Nat} (h : isNaN x) : cls x = 18446744073709551616 := by unfold cls; rw [if_pos h]
theorem cls_num {x : Nat} (h : ¬ isNaN x) : cls x = x := by unfold cls; rw [if_neg h]
theorem cls_ne {x y : Nat} (hx : x < 18446744073709551616) (hy : y < 18446744073709551616) (h : cls x = cls y) : x = y ∨ isNaN x ∧ isNaN y := by
  by_cases h1 : isNaN x <;> by_cases h2 : isNaN y
  · exact .inr ⟨h1, h2⟩
  · rw [cls_nan h1, cls_num h2] at h; omega
  · rw [cls_num h1, cls_nan h2] at h; omega
  · rw [cls_num h1, cls_num h2] at h; exact .inl h
/-- How many places hold something. -/
def pl (n : Nat) (P : Nat → Bool) : Nat := (List.range n).countP P
theorem pl_succ (n : Nat) (P : Nat → Bool) : pl (n + 1) P = pl n P + if P n then 1 else 0 := by
  unfold pl
  rw [List.range_succ, List.countP_append]
  simp [List.countP_cons]
theorem pl_same {n : Nat} {P Q : Nat → Bool} (h : ∀ k, k < n → P k = Q k) : pl n P = pl n Q := by
  induction n with
  | zero => rfl
  | succ n ih => rw [pl_succ, pl_succ, ih (fun k hk => h k (by omega)), h n (by omega)]
theorem pl_one {n k0 : Nat} {P Q : Nat → Bool} (hk : k0 < n) (h : ∀ k, k ≠ k0 → Q k = P k) (hP : P k0 = false) (hQ : Q k0 = true) : pl n Q = pl n P + 1 := by
  induction n with
  | zero => omega
  | succ n ih =>
    rw [pl_succ, pl_succ]
    by_cases e : k0 = n
    · subst e
      rw [pl_same (fun k hk => h k (by omega)), hP, hQ]
      simp
    · rw [ih (by omega), h n (fun q => e q.symm)]
      omega
theorem pl_list (b : List Nat) (f : Nat → Bool) : pl b.length (fun k => f (b.getD k 0)) = b.countP f := by
  unfold pl
  have : b.countP f = ((List.range b.length).map fun k => b.getD k 0).countP f := by
    congr 1
    apply List.ext_getElem
    · simp
    · intro i h1 h2
      simp [List.getD, h1]
  rw [this, List.countP_map]
  rfl
/-- What is marked so far. -/
def Mkd (a b : List Nat) (i : Nat) (used : List Bool) : Prop := used.length = b.length ∧ ∀ c, pl b.length (fun k => used.getD k false && decide (cls (b.getD k 0) = c)) = (a.take i).countP fun x => decide (cls x = c)
theorem Mkd.start (a b : List Nat) : Mkd a b 0 (List.replicate b.length false) := by
  refine ⟨by simp, fun c => ?_⟩
  simp only [List.take_zero, List.countP_nil]
  unfold pl
  rw [List.countP_eq_zero]
  intro k hk
  have : k < b.length := by simpa using hk
  simp [List.getD, this]
/-- There is one left. -/
theorem Mkd.left {a b : List Nat} {i : Nat} {used : List Bool} (h : Mkd a b i used) (hp : b.Perm a) (hi : i < a.length) : ∃ k, k < b.length ∧ used.getD k false = false ∧ cls (b.getD k 0) = cls (a.getD i 0) := by
  obtain ⟨c, hc⟩ : ∃ c, cls (a.getD i 0) = c := ⟨_, rfl⟩
  rw [hc]
  refine Classical.byContradiction fun hno => ?_
  have h1 := h.2 c
  have h2 : pl b.length (fun k => used.getD k false && decide (cls (b.getD k 0) = c)) = pl b.length (fun k => decide (cls (b.getD k 0) = c)) := by
    refine pl_same fun k hk => ?_
    by_cases q : cls (b.getD k 0) = c
    · cases hu : used.getD k false with
      | true => rw [Bool.true_and]
      | false => exact absurd ⟨k, hk, hu, q⟩ hno
    · rw [decide_eq_false q, Bool.and_false]
  have h3 := pl_list b (fun x => decide (cls x = c))
  have h4 := hp.countP_eq (fun x => decide (cls x = c))
  have h5 : a.countP (fun x => decide (cls x = c)) = (a.take i).countP (fun x => decide (cls x = c)) + (a.drop i).countP (fun x => decide (cls x = c)) := by
    rw [← List.countP_append, List.take_append_drop]
  have h6 : 0 < (a.drop i).countP (fun x => decide (cls x = c)) := by
    rw [List.countP_pos_iff]
    refine ⟨a.getD i 0, ?_, by rw [hc]; simp⟩
    rw [List.drop_eq_getElem_cons hi]
    have : a.getD i 0 = a[i] := by simp [List.getD, hi]
    rw [this]
    exact List.mem_cons_self
  omega
theorem Mkd.step {a b : List Nat} {i k : Nat} {used : List Bool} (h : Mkd a b i used) (hi : i < a.length) (hk : k < b.length) (hu : used.getD k false = false) (hc : cls (b.getD k 0) = cls (a.getD i 0)) : Mkd a b (i + 1) (used.set k true) := by
  refine ⟨by rw [List.length_set]; exact h.1, fun c => ?_⟩
  have h1 := h.2 c
  have ht : a.take (i + 1) = a.take i ++ [a.getD i 0] := by rw [List.take_add_one]; simp [List.getD, hi]
  rw [ht, List.countP_append, ← h1]
  obtain ⟨x, hx⟩ : ∃ x, a.getD i 0 = x := ⟨_, rfl⟩
  rw [hx] at hc ⊢
  have hset : ∀ j, j ≠ k → (used.set k true).getD j false = used.getD j false := by
    intro j hj
    simp [List.getD, List.getElem?_set, Ne.symm hj]
  have hkl : k < used.length := by rw [h.1]; exact hk
  have hsk : (used.set k true).getD k false = true := by simp [List.getD, hkl]
  by_cases q : cls x = c
  · rw [pl_one (k0 := k) hk (P := fun k => used.getD k false && decide (cls (b.getD k 0) = c)) (fun j hj => by rw [hset j hj]) (by rw [hu, Bool.false_and]) (by rw [hsk, hc, q]; simp)]
    rw [List.countP_cons, q]
    simp
  · rw [pl_same (Q := fun k => used.getD k false && decide (cls (b.getD k 0) = c)) (fun j hj => ?_)]
    · rw [List.countP_cons, decide_eq_false q]
      simp
    · by_cases e : j = k
      · rw [e, hc, decide_eq_false q, Bool.and_false, Bool.and_false]
      · rw [hset j e]
/-- In a sorted list those below a number are the first. -/
theorem blw_srt : ∀ {M : List Nat} (y : Nat), srt kI M → ∀ i, i < M.length → (key (M.getD i 0) < key y ↔ i < blw M y)
  | [], _, _, i, hi => by simp at hi
  | x :: M, y, h, i, hi => by
    obtain ⟨h1, h2⟩ := List.pairwise_cons.1 h
    unfold kI at h1
    by_cases hx : key x < key y
    · have e : blw (x :: M) y = blw M y + 1 := by simp [blw, List.filter_cons, hx]
      rw [e]
      cases i with
      | zero => simp [List.getD, hx]
      | succ i =>
        have := blw_srt y h2 i (by simpa using hi)
        simp only [List.getD, List.getElem?_cons_succ] at this ⊢
        rw [this]; omega
    · have e : blw (x :: M) y = 0 := by
        unfold blw
        rw [List.length_eq_zero_iff, List.filter_eq_nil_iff]
        intro z hz
        rcases List.mem_cons.1 hz with rfl | hz
        · simp; omega
        · have := h1 z hz; simp; omega
      rw [e]
      constructor
      · intro q
        exfalso
        cases i with
        | zero => simp [List.getD] at q; omega
        | succ i =>
          have hi2 : i < M.length := by simpa using hi
          have := h1 (M.getD i 0) (by simp [List.getD, hi2])
          simp only [List.getD, List.getElem?_cons_succ] at q this
          omega
      · intro q; omega
theorem blw_perm {M l : List Nat} (h : M.Perm l) (y : Nat) : blw M y = blw l y := by
  unfold blw
  rw [← List.countP_eq_length_filter, ← List.countP_eq_length_filter]
  exact h.countP_eq _
/-- The distinct numbers of a sorted list's beginning are the first of all. -/
theorem Dst.prefix : ∀ (Q : List Nat) {P E D : List Nat}, srt kI (P ++ Q) → Dst P E → Dst (P ++ Q) D → ∃ R, D = E ++ R
  | [], P, E, D, hs, h, h' => by
    rw [List.append_nil] at h'
    exact ⟨[], by rw [List.append_nil]; exact h'.one h (fun _ => Iff.rfl)⟩
  | x :: Q, P, E, D, hs, h, h' => by
    have e : P ++ x :: Q = (P ++ [x]) ++ Q := by simp
    rw [e] at hs h'
    have hle : ∀ y ∈ P, key y ≤ key x := by
      intro y hy
      have := (List.pairwise_append.1 (List.pairwise_append.1 hs).1).2.2 y hy x (by simp)
      unfold kI at this
      omega
    by_cases hx : isNaN x
    · exact Dst.prefix Q hs (h.nan hx) h'
    · by_cases hz : ∃ z, E.getLast? = some z ∧ key z = key x
      · obtain ⟨z, h1, h2⟩ := hz
        exact Dst.prefix Q hs (h.same (List.mem_of_getLast? h1) h2) h'
      · obtain ⟨R, hR⟩ := Dst.prefix Q hs (h.more hx hle (fun z h1 h2 => hz ⟨z, h1, h2⟩)) h'
        exact ⟨aK (key x) :: R, by rw [hR]; simp⟩
end Go.Proofs.Ytjiflgdbgpegiaa
