import Derived.Test.YteonapeoeckhfaaDoorP6
import Derived.Test.YteonapeoeckhfaaDoorG9
set_option linter.unusedVariables false
set_option linter.unusedSimpArgs false
namespace Go.Proofs.YteonapeoeckhfaaDoor
open Go.RowKit Go.Shelf
/-- How much a value holds. -/
def blk : J → Nat
  | .mk k t ns is => 1 + t.size + (ns.map (fun t => t.size + 1)).sum + (is.attach.map (fun x => have := List.sizeOf_lt_of_mem x.2; blk x.1)).sum
theorem blk_eq (k : Nat) (t : ByteArray) (ns : List ByteArray) (is : List J) : blk (.mk k t ns is) = 1 + t.size + (ns.map (fun t => t.size + 1)).sum + (is.map blk).sum := by
  rw [blk]
  congr 2
  exact List.attach_map_val
theorem sum_mem {α : Type} {l : List α} (f : α → Nat) {x : α} (h : x ∈ l) : f x ≤ (l.map f).sum := by
  induction l with
  | nil => cases h
  | cons y l ih =>
    simp only [List.map_cons, List.sum_cons]
    rcases List.mem_cons.1 h with rfl | h
    · omega
    · have := ih h; omega
theorem sum_len {α : Type} (l : List α) (f : α → Nat) (h : ∀ x ∈ l, 1 ≤ f x) : l.length ≤ (l.map f).sum := by
  induction l with
  | nil => simp
  | cons y l ih =>
    simp only [List.map_cons, List.sum_cons, List.length_cons]
    have h1 := h y (by simp)
    have h2 := ih (fun x hx => h x (by simp [hx]))
    omega
theorem blk_pos (j : J) : 1 ≤ blk j := by cases j; rw [blk_eq]; omega
theorem blk_mem {j x : J} (h : x ∈ j.is) : blk x + 1 ≤ blk j := by
  cases j with
  | mk k t ns is =>
    rw [blk_eq]
    have := sum_mem blk (l := is) h
    omega
theorem blk_item {j : J} {i : Nat} (h : i < j.is.length) : blk (j.is.getD i j0) + 1 ≤ blk j := blk_mem (by simp [List.getD, h])
theorem blk_text (j : J) : j.t.size + 1 ≤ blk j := by cases j; rw [blk_eq]; simp only [J.t]; omega
theorem blk_name {j : J} {t : ByteArray} (h : t ∈ j.ns) : t.size + 2 ≤ blk j := by
  cases j with
  | mk k t ns is =>
    rw [blk_eq]
    have := sum_mem (fun t : ByteArray => t.size + 1) (l := ns) h
    omega
theorem blk_names (j : J) : j.ns.length + 1 ≤ blk j := by
  cases j with
  | mk k t ns is =>
    rw [blk_eq]
    have := sum_len ns (fun t : ByteArray => t.size + 1) (fun x _ => by omega)
    simp only [J.ns]
    omega
theorem blk_items (j : J) : j.is.length + 1 ≤ blk j := by
  cases j with
  | mk k t ns is =>
    rw [blk_eq]
    have := sum_len is blk (fun x _ => blk_pos x)
    simp only [J.is]
    omega
theorem FT_of : ∀ (n : Nat) (j : J), SizeOf.sizeOf j ≤ n → blk j ≤ 1048576 → FT j := by
  intro n
  induction n with
  | zero => intro j hs; cases j; simp at hs
  | succ n ih =>
    intro j hs hb
    unfold FT
    rw [allJ_eq, Bool.and_eq_true, List.all_eq_true]
    refine ⟨?_, fun x hx => ?_⟩
    · unfold ftB
      rw [Bool.and_eq_true, List.all_eq_true]
      have h1 := blk_text j
      refine ⟨decide_eq_true (by omega), fun t ht => ?_⟩
      have := blk_name ht
      exact decide_eq_true (by omega)
    · have h1 := J.is_mem hx
      have h2 := blk_mem hx
      exact ih x (by omega) (by omega)
theorem Fit_of : ∀ (n : Nat) (j : J), SizeOf.sizeOf j ≤ n → blk j ≤ 1048576 → Fit j := by
  intro n
  induction n with
  | zero => intro j hs; cases j; simp at hs
  | succ n ih =>
    intro j hs hb
    have h1 := blk_text j
    have h2 := blk_names j
    have h3 := blk_items j
    have hn := fun t ht => blk_name (j := j) (t := t) ht
    have hi := fun i hi => blk_item (j := j) (i := i) hi
    have hz := fun i hi => J.is_lt (a := j) (i := i) hi
    cases j with
    | mk k t ns is =>
      simp only [J.t, J.ns, J.is] at h1 h2 h3 hn hi hz
      refine Fit.mk k t ns is (by omega) (by omega) (fun i hl => ?_) (by omega) (fun i hl => ?_)
      · have := hn (ns.getD i ByteArray.empty) (by simp [List.getD, hl])
        omega
      · have a := hi i hl
        have b := hz i hl
        exact ih _ (by omega) (by omega)
theorem dp_blk : ∀ (n : Nat) (j : J), SizeOf.sizeOf j ≤ n → dp j ≤ blk j := by
  intro n
  induction n with
  | zero => intro j hs; cases j; simp at hs
  | succ n ih =>
    intro j hs
    rw [dp_eq]
    have h1 : mx j.is ≤ blk j - 1 := (mx_le _ _).2 (fun i hi => by
      have a := J.is_lt hi
      have b := ih _ (show SizeOf.sizeOf (j.is.getD i j0) ≤ n by omega)
      have c := blk_item hi
      omega)
    have h2 := blk_pos j
    have h3 : own1 j ≤ 1 := by unfold own1; split <;> omega
    omega
theorem qt_len (l : List UInt8) : (qt l).length ≤ 6 * l.length + 2 := by
  have h : (l.flatMap wrt).length ≤ 6 * l.length := by
    induction l with
    | nil => simp
    | cons b l ih =>
      rw [List.flatMap_cons, List.length_append, List.length_cons]
      have := wrt_len b
      omega
  unfold qt
  simp only [List.length_append, List.length_cons, List.length_nil]
  omega
theorem getD_size (ns : List ByteArray) (i : Nat) : (ns.getD i ByteArray.empty).size ≤ (ns.map (fun t => t.size + 1)).sum := by
  by_cases h : i < ns.length
  · have := sum_mem (fun t : ByteArray => t.size + 1) (l := ns) (x := ns.getD i ByteArray.empty) (by simp [List.getD, h])
    omega
  · have : ns.getD i ByteArray.empty = ByteArray.empty := by simp [List.getD, List.getElem?_eq_none (by omega : ns.length ≤ i)]
    rw [this]
    show 0 ≤ _
    omega
theorem take_sum {α : Type} (l : List α) (f : α → Nat) (d : α) {i : Nat} (h : i < l.length) : ((l.take (i + 1)).map f).sum = ((l.take i).map f).sum + f (l.getD i d) := by
  have e : l.getD i d = l[i] := by simp [List.getD, h]
  rw [List.take_succ_eq_append_getElem h, List.map_append, List.sum_append, e]
  simp
theorem take_le {α : Type} (l : List α) (f : α → Nat) (i : Nat) : ((l.take i).map f).sum ≤ (l.map f).sum := by
  have e : l.map f = (l.take i).map f ++ (l.drop i).map f := by rw [← List.map_append, List.take_append_drop]
  rw [e, List.sum_append]; omega
theorem take_over (ns : List ByteArray) {i : Nat} (h : ¬ i < ns.length) : ns.take (i + 1) = ns.take i := by
  rw [List.take_of_length_le (by omega), List.take_of_length_le (by omega)]
theorem sep_len (k : Nat) (ns : List ByteArray) (i : Nat) : (sep k ns i).length ≤ 4 + 6 * (ns.getD i ByteArray.empty).size := by
  unfold sep
  have h := qt_len (ns.getD i ByteArray.empty).data.toList
  have e : (ns.getD i ByteArray.empty).data.toList.length = (ns.getD i ByteArray.empty).size := by rw [Array.length_toList]; rfl
  rw [e] at h
  generalize qt (ns.getD i ByteArray.empty).data.toList = Q at h ⊢
  rw [List.length_append]
  have h1 : (if i = 0 then [] else [(44 : UInt8)]).length ≤ 1 := by split <;> simp
  have h2 : (if k = 7 then Q ++ [58] else []).length ≤ Q.length + 1 := by split <;> simp
  omega
theorem pr_len : ∀ (n : Nat) (j : J), SizeOf.sizeOf j ≤ n → (pr j).length + 8 ≤ 16 * blk j := by
  intro n
  induction n with
  | zero => intro j hs; cases j; simp at hs
  | succ n ih =>
    intro j hs
    have hz := fun i hi => J.is_lt (a := j) (i := i) hi
    cases j with
    | mk k t ns is =>
      simp only [J.is] at hz
      have hw : ∀ i, i ≤ is.length → (wn k ns is i).length ≤ 16 * ((is.take i).map blk).sum + 6 * ((ns.take i).map (fun t => t.size + 1)).sum := by
        intro i
        induction i with
        | zero => intro _; simp [wn, wnP]
        | succ i ihi =>
          intro hi
          have a := ihi (by omega)
          have b := ih (is.getD i j0) (by have := hz i (by omega); omega)
          have c := sep_len k ns i
          rw [wn_succ k ns is (by omega), List.length_append, List.length_append, take_sum is blk j0 (by omega)]
          by_cases hn : i < ns.length
          · rw [take_sum ns (fun t => t.size + 1) ByteArray.empty hn]
            omega
          · rw [take_over ns hn]
            have e0 : ns.getD i ByteArray.empty = ByteArray.empty := by simp [List.getD, List.getElem?_eq_none (by omega : ns.length ≤ i)]
            rw [e0] at c
            have e1 : ByteArray.empty.size = 0 := rfl
            omega
      have h2 := hw is.length (Nat.le_refl _)
      rw [List.take_length] at h2
      have h3 := take_le ns (fun t : ByteArray => t.size + 1) is.length
      have h4 := qt_len t.data.toList
      have h5 : t.data.toList.length = t.size := by rw [Array.length_toList]; rfl
      rw [pr_eq, blk_eq]
      generalize ((ns.take is.length).map (fun t : ByteArray => t.size + 1)).sum = A at *
      generalize (ns.map (fun t : ByteArray => t.size + 1)).sum = Bn at *
      generalize (is.map blk).sum = Cn at *
      repeat' split
      all_goals (try simp only [List.length_append, List.length_cons, List.length_nil])
      all_goals omega
end Go.Proofs.YteonapeoeckhfaaDoor
