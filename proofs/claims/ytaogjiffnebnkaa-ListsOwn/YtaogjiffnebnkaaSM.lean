set_option linter.unusedVariables false
set_option linter.unusedSimpArgs false
namespace Go.Proofs.Ytaogjiffnebnkaa
/-- Sorting that keeps the order of what is alike, as mathematics: no program. Items have a key. -/
def srt {α : Type} (key : α → Int) (l : List α) : Prop := l.Pairwise fun x y => key x ≤ key y
/-- Of each key the same items in the same order. -/
def eqv {α : Type} (key : α → Int) (X Y : List α) : Prop := ∀ k, X.filter (fun x => decide (key x = k)) = Y.filter (fun x => decide (key x = k))
theorem eqv.refl {α : Type} {key : α → Int} (X : List α) : eqv key X X := fun _ => rfl
theorem eqv.symm {α : Type} {key : α → Int} {X Y : List α} (h : eqv key X Y) : eqv key Y X := fun k => (h k).symm
theorem eqv.trans {α : Type} {key : α → Int} {X Y Z : List α} (h : eqv key X Y) (h' : eqv key Y Z) : eqv key X Z := fun k => (h k).trans (h' k)
theorem eqv.app {α : Type} {key : α → Int} {X X' Y Y' : List α} (h : eqv key X X') (h' : eqv key Y Y') : eqv key (X ++ Y) (X' ++ Y') := fun k => by rw [List.filter_append, List.filter_append, h k, h' k]
theorem eqv.mem {α : Type} {key : α → Int} {X Y : List α} (h : eqv key X Y) {x : α} (hx : x ∈ X) : x ∈ Y := by
  have h1 : x ∈ X.filter (fun y => decide (key y = key x)) := List.mem_filter.2 ⟨hx, by simp⟩
  rw [h (key x)] at h1
  exact (List.mem_filter.1 h1).1
/-- Two parts that have no key in common may be exchanged. -/
theorem eqv.swap {α : Type} {key : α → Int} {X Y : List α} (h : ∀ x ∈ X, ∀ y ∈ Y, key x ≠ key y) : eqv key (X ++ Y) (Y ++ X) := by
  intro k
  rw [List.filter_append, List.filter_append]
  by_cases hx : ∃ x ∈ X, key x = k
  · obtain ⟨x, hx1, hx2⟩ := hx
    have : Y.filter (fun y => decide (key y = k)) = [] := by
      rw [List.filter_eq_nil_iff]
      intro y hy
      have := h x hx1 y hy
      simp
      omega
    rw [this]
    simp
  · have : X.filter (fun y => decide (key y = k)) = [] := by
      rw [List.filter_eq_nil_iff]
      intro y hy
      simp
      intro q
      exact hx ⟨y, hy, q⟩
    rw [this]
    simp
/-- A merge out of its two halves. -/
theorem merged {α : Type} {key : α → Int} {A1 A2 B1 B2 M1 M2 : List α} (hA : srt key (A1 ++ A2)) (hB : srt key (B1 ++ B2)) (h1 : ∀ x ∈ A1, ∀ y ∈ B2, key x ≤ key y) (h2 : ∀ x ∈ A2, ∀ y ∈ B1, key y < key x)
    (e1 : eqv key M1 (A1 ++ B1)) (s1 : srt key M1) (e2 : eqv key M2 (A2 ++ B2)) (s2 : srt key M2) : srt key (M1 ++ M2) ∧ eqv key (M1 ++ M2) ((A1 ++ A2) ++ (B1 ++ B2)) := by
  have hA3 := (List.pairwise_append.1 hA).2.2
  have hB3 := (List.pairwise_append.1 hB).2.2
  refine ⟨List.pairwise_append.2 ⟨s1, s2, ?_⟩, ?_⟩
  · intro x hx y hy
    rcases List.mem_append.1 (e1.mem hx) with a | a <;> rcases List.mem_append.1 (e2.mem hy) with b | b
    · exact hA3 x a y b
    · exact h1 x a y b
    · have := h2 y b x a; omega
    · exact hB3 x a y b
  · refine (e1.app e2).trans ?_
    have hs : eqv key (B1 ++ A2) (A2 ++ B1) := eqv.swap (fun x hx y hy => by have := h2 y hy x hx; omega)
    have := ((eqv.refl (key := key) A1).app (hs.app (eqv.refl (key := key) B2)))
    simpa [List.append_assoc] using this
/-- An item put where it belongs: ahead of what is not less. -/
theorem put_left {α : Type} {key : α → Int} {x : α} {B1 B2 : List α} (hB : srt key (B1 ++ B2)) (h1 : ∀ y ∈ B1, key y < key x) (h2 : ∀ y ∈ B2, key x ≤ key y) : srt key (B1 ++ x :: B2) ∧ eqv key (B1 ++ x :: B2) ([x] ++ (B1 ++ B2)) := by
  obtain ⟨p1, p2, p3⟩ := List.pairwise_append.1 hB
  refine ⟨List.pairwise_append.2 ⟨p1, List.pairwise_cons.2 ⟨h2, p2⟩, ?_⟩, ?_⟩
  · intro y hy z hz
    rcases List.mem_cons.1 hz with rfl | hz
    · exact Int.le_of_lt (h1 y hy)
    · exact p3 y hy z hz
  · have hs : eqv key (B1 ++ [x]) ([x] ++ B1) := eqv.swap (fun y hy z hz => by rw [List.mem_singleton.1 hz]; have := h1 y hy; omega)
    have := hs.app (eqv.refl (key := key) B2)
    simpa [List.append_assoc] using this
/-- An item put where it belongs: behind what is not greater. -/
theorem put_right {α : Type} {key : α → Int} {x : α} {A1 A2 : List α} (hA : srt key (A1 ++ A2)) (h1 : ∀ y ∈ A1, key y ≤ key x) (h2 : ∀ y ∈ A2, key x < key y) : srt key (A1 ++ x :: A2) ∧ eqv key (A1 ++ x :: A2) ((A1 ++ A2) ++ [x]) := by
  obtain ⟨p1, p2, p3⟩ := List.pairwise_append.1 hA
  refine ⟨List.pairwise_append.2 ⟨p1, List.pairwise_cons.2 ⟨fun y hy => Int.le_of_lt (h2 y hy), p2⟩, ?_⟩, ?_⟩
  · intro y hy z hz
    rcases List.mem_cons.1 hz with rfl | hz
    · exact h1 y hy
    · exact p3 y hy z hz
  · have hs : eqv key ([x] ++ A2) (A2 ++ [x]) := eqv.swap (fun y hy z hz => by rw [List.mem_singleton.1 hy]; have := h2 z hz; omega)
    have := (eqv.refl (key := key) A1).app hs
    simpa [List.append_assoc] using this
/-- Two neighbours exchanged in a list. -/
theorem set_two {α : Type} (P : List α) (x y : α) (R : List α) : ((P ++ x :: y :: R).set P.length y).set (P.length + 1) x = P ++ y :: x :: R := by
  rw [List.set_append_right _ _ (by omega), Nat.sub_self, List.set_cons_zero, List.set_append_right _ _ (by omega), show P.length + 1 - P.length = 1 by omega, List.set_cons_succ, List.set_cons_zero]
/-- Where a list is sorted. -/
theorem srt_get {α : Type} {key : α → Int} {l : List α} (h : srt key l) (d : α) {i j : Nat} (hij : i ≤ j) (hj : j < l.length) : key (l.getD i d) ≤ key (l.getD j d) := by
  by_cases he : i = j
  · subst he; exact Int.le_refl _
  · have := List.pairwise_iff_getElem.1 h i j (by omega) hj (by omega)
    simpa [List.getD, show i < l.length by omega, hj] using this
/-- The list is one alone: sorted, and of each key the same items. -/
theorem one {α : Type} {key : α → Int} : ∀ {X Y : List α}, srt key X → srt key Y → eqv key X Y → X = Y
  | [], Y, _, _, h => by
    cases Y with
    | nil => rfl
    | cons y Y => have := h.symm.mem (x := y) (by simp); cases this
  | x :: X, [], _, _, h => by have := h.mem (x := x) (by simp); cases this
  | x :: X, y :: Y, hX, hY, h => by
    obtain ⟨x1, x2⟩ := List.pairwise_cons.1 hX
    obtain ⟨y1, y2⟩ := List.pairwise_cons.1 hY
    have hk : key x = key y := by
      have a1 : key y ≤ key x := by
        rcases List.mem_cons.1 (h.mem (x := x) (by simp)) with e | e
        · rw [e]; exact Int.le_refl _
        · exact y1 x e
      have a2 : key x ≤ key y := by
        rcases List.mem_cons.1 (h.symm.mem (x := y) (by simp)) with e | e
        · rw [e]; exact Int.le_refl _
        · exact x1 y e
      omega
    have h0 := h (key x)
    rw [List.filter_cons, List.filter_cons, if_pos (by simp), if_pos (by simp [hk])] at h0
    have e := (List.cons.inj h0).1
    subst e
    rw [one x2 y2 (fun k => ?_)]
    have := h k
    rw [List.filter_cons, List.filter_cons] at this
    split at this
    · exact (List.cons.inj this).2
    · exact this
/-- In a list that is sorted: what lies ahead is not greater. -/
theorem take_le {α : Type} {key : α → Int} {A : List α} (h : srt key A) (d : α) {s : Nat} (hs : 1 ≤ s) (hl : s ≤ A.length) : ∀ x ∈ A.take s, key x ≤ key (A.getD (s - 1) d) := by
  intro x hx
  obtain ⟨i, hi, rfl⟩ := List.getElem_of_mem hx
  rw [List.length_take] at hi
  rw [List.getElem_take]
  have := srt_get h d (i := i) (j := s - 1) (by omega) (by omega)
  simpa [List.getD, show i < A.length by omega] using this
theorem drop_ge {α : Type} {key : α → Int} {A : List α} (h : srt key A) (d : α) {s : Nat} (hl : s < A.length) : ∀ x ∈ A.drop s, key (A.getD s d) ≤ key x := by
  intro x hx
  obtain ⟨i, hi, rfl⟩ := List.getElem_of_mem hx
  rw [List.length_drop] at hi
  rw [List.getElem_drop]
  have := srt_get h d (i := s) (j := s + i) (by omega) (by omega)
  simpa [List.getD, show s + i < A.length by omega] using this
/-- Where the search in a merge ends. -/
theorem sym_done {α : Type} {key : α → Int} {A B : List α} (hA : srt key A) (hB : srt key B) (d : α) {h s : Nat} (hh : h = (A.length + B.length) / 2) (h0 : h - B.length ≤ s) (h1 : s ≤ A.length) (h2 : s ≤ h)
    (hf : ∀ i, h - B.length ≤ i → i < s → key (A.getD i d) ≤ key (B.getD (h - 1 - i) d)) (hg : ∀ i, s ≤ i → i < A.length → i < h → key (B.getD (h - 1 - i) d) < key (A.getD i d)) :
    (∀ x ∈ A.take s, ∀ y ∈ B.drop (h - s), key x ≤ key y) ∧ (∀ x ∈ A.drop s, ∀ y ∈ B.take (h - s), key y < key x) := by
  constructor
  · intro x hx y hy
    have hs : 1 ≤ s := by
      cases s with
      | zero => simp at hx
      | succ s => omega
    have ht : h - s < B.length := by
      by_cases q : h - s < B.length
      · exact q
      · rw [List.drop_of_length_le (by omega)] at hy; cases hy
    have e := hf (s - 1) (by omega) (by omega)
    rw [show h - 1 - (s - 1) = h - s by omega] at e
    have a1 := take_le hA d hs h1 x hx
    have a2 := drop_ge hB d ht y hy
    omega
  · intro x hx y hy
    have hs : s < A.length := by
      by_cases q : s < A.length
      · exact q
      · rw [List.drop_of_length_le (by omega)] at hx; cases hx
    have ht : 1 ≤ h - s := by
      by_cases q : 1 ≤ h - s
      · exact q
      · rw [show h - s = 0 by omega] at hy; simp at hy
    have e := hg s (Nat.le_refl _) hs (by omega)
    rw [show h - 1 - s = (h - s) - 1 by omega] at e
    have a1 := drop_ge hA d hs x hx
    have hle : h - s ≤ B.length := by omega
    have a2 := take_le hB d ht hle y hy
    omega
/-- What is so far known of the search. -/
theorem sym_true {α : Type} {key : α → Int} {A B : List α} (hA : srt key A) (hB : srt key B) (d : α) {h c : Nat} (hc : c < A.length) (hd : h - 1 - c < B.length) (e : key (A.getD c d) ≤ key (B.getD (h - 1 - c) d)) : ∀ i, h - B.length ≤ i → i ≤ c → key (A.getD i d) ≤ key (B.getD (h - 1 - i) d) := by
  intro i hi hic
  have a1 := srt_get hA d hic hc
  have a2 := srt_get hB d (i := h - 1 - c) (j := h - 1 - i) (by omega) (by omega)
  omega
theorem sym_false {α : Type} {key : α → Int} {A B : List α} (hA : srt key A) (hB : srt key B) (d : α) {h c : Nat} (hd : h - 1 - c < B.length) (e : key (B.getD (h - 1 - c) d) < key (A.getD c d)) : ∀ i, c ≤ i → i < A.length → i < h → key (B.getD (h - 1 - i) d) < key (A.getD i d) := by
  intro i hi hil hih
  have a1 := srt_get hA d hi hil
  have a2 := srt_get hB d (i := h - 1 - i) (j := h - 1 - c) (by omega) hd
  omega
/-- A stretch of a list exchanged with another one, the first k of either. -/
def swF {α : Type} (d : α) (l : List α) (a b k : Nat) : List α := (List.range l.length).map fun i => if a ≤ i ∧ i < a + k then l.getD (i - a + b) d else if b ≤ i ∧ i < b + k then l.getD (i - b + a) d else l.getD i d
theorem swF_len {α : Type} (d : α) (l : List α) (a b k : Nat) : (swF d l a b k).length = l.length := by simp [swF]
theorem swF_at {α : Type} (d : α) (l : List α) (a b k i : Nat) (hi : i < l.length) : (swF d l a b k).getD i d = if a ≤ i ∧ i < a + k then l.getD (i - a + b) d else if b ≤ i ∧ i < b + k then l.getD (i - b + a) d else l.getD i d := by simp [swF, List.getD, hi]
theorem ext_getD {α : Type} (d : α) {X Y : List α} (hl : X.length = Y.length) (h : ∀ i, i < X.length → X.getD i d = Y.getD i d) : X = Y := by
  apply List.ext_getElem hl
  intro i h1 h2
  have := h i h1
  simpa [List.getD, h1, h2] using this
theorem set_getD {α : Type} (d : α) (X : List α) (i j : Nat) (x : α) (hi : i < X.length) : (X.set i x).getD j d = if j = i then x else X.getD j d := by
  by_cases h : j = i
  · subst h; simp [List.getD, hi]
  · rw [if_neg h]; simp [List.getD, List.getElem?_set, Ne.symm h]
theorem swF_zero {α : Type} (d : α) (l : List α) (a b : Nat) : swF d l a b 0 = l := by
  apply ext_getD d (swF_len d l a b 0)
  intro i hi
  rw [swF_len] at hi
  rw [swF_at d l a b 0 i hi, if_neg (by omega), if_neg (by omega)]
theorem swF_next {α : Type} (d : α) (l : List α) (a b k : Nat) (hab : a + k < b) (hb : b + k < l.length) :
    ((swF d l a b k).set (a + k) ((swF d l a b k).getD (b + k) d)).set (b + k) ((swF d l a b k).getD (a + k) d) = swF d l a b (k + 1) := by
  have e1 : (swF d l a b k).getD (b + k) d = l.getD (b + k) d := by rw [swF_at d l a b k _ hb, if_neg (by omega), if_neg (by omega)]
  have e2 : (swF d l a b k).getD (a + k) d = l.getD (a + k) d := by rw [swF_at d l a b k _ (by omega), if_neg (by omega), if_neg (by omega)]
  rw [e1, e2]
  apply ext_getD d
  · simp [swF_len]
  · intro i hi
    rw [List.length_set, List.length_set, swF_len] at hi
    rw [set_getD d _ _ _ _ (by rw [List.length_set, swF_len]; exact hb), set_getD d _ _ _ _ (by rw [swF_len]; omega), swF_at d l a b k i hi, swF_at d l a b (k + 1) i hi]
    by_cases h1 : i = b + k
    · subst h1
      rw [if_pos rfl, if_neg (by omega), if_pos (by omega)]
      congr 1; omega
    · rw [if_neg h1]
      by_cases h2 : i = a + k
      · subst h2
        rw [if_pos rfl, if_pos (by omega)]
        congr 1; omega
      · rw [if_neg h2]
        by_cases h3 : a ≤ i ∧ i < a + k
        · rw [if_pos h3, if_pos (by omega)]
        · have n3 : ¬ (a ≤ i ∧ i < a + (k + 1)) := by omega
          rw [if_neg h3, if_neg n3]
          by_cases h4 : b ≤ i ∧ i < b + k
          · have p4 : b ≤ i ∧ i < b + (k + 1) := by omega
            rw [if_pos h4, if_pos p4]
          · have n4 : ¬ (b ≤ i ∧ i < b + (k + 1)) := by omega
            rw [if_neg h4, if_neg n4]
theorem getD_left {α : Type} (d : α) (X Y : List α) {i : Nat} (h : i < X.length) : (X ++ Y).getD i d = X.getD i d := by simp [List.getD, List.getElem?_append, h]
theorem getD_right {α : Type} (d : α) (X Y : List α) {i : Nat} (h : X.length ≤ i) : (X ++ Y).getD i d = Y.getD (i - X.length) d := by simp [List.getD, List.getElem?_append, show ¬ i < X.length by omega]
/-- Two stretches of one length exchanged. -/
theorem swF_all {α : Type} (d : α) (P U R V Q : List α) (h : U.length = V.length) : swF d (P ++ (U ++ (R ++ (V ++ Q)))) P.length (P.length + U.length + R.length) U.length = P ++ (V ++ (R ++ (U ++ Q))) := by
  apply ext_getD d
  · rw [swF_len]; simp; omega
  · intro i hi
    rw [swF_len] at hi
    rw [swF_at _ _ _ _ _ _ hi]
    simp only [List.length_append] at hi
    by_cases h1 : i < P.length
    · rw [if_neg (by omega), if_neg (by omega), getD_left d _ _ h1, getD_left d _ _ h1]
    · rw [getD_right d P (V ++ (R ++ (U ++ Q))) (by omega)]
      by_cases h2 : i < P.length + U.length
      · rw [if_pos (by omega), getD_left d _ _ (show i - P.length < V.length by omega), getD_right d _ _ (by omega), getD_right d _ _ (by omega), getD_right d _ _ (by omega), getD_left d _ _ (by omega)]
        congr 1; omega
      · rw [if_neg (by omega), getD_right d V _ (by omega)]
        by_cases h3 : i < P.length + U.length + R.length
        · rw [if_neg (by omega), getD_right d _ _ (by omega), getD_right d _ _ (by omega), getD_left d _ _ (by omega), getD_left d _ _ (by omega)]
          congr 1; omega
        · rw [getD_right d R _ (by omega)]
          by_cases h4 : i < P.length + U.length + R.length + U.length
          · rw [if_pos (by omega), getD_left d U _ (by omega), getD_right d _ _ (by omega), getD_left d _ _ (by omega)]
            congr 1; omega
          · rw [if_neg (by omega), getD_right d U _ (by omega), getD_right d _ _ (by omega), getD_right d _ _ (by omega), getD_right d _ _ (by omega), getD_right d _ _ (by omega)]
            congr 1; omega
end Go.Proofs.Ytaogjiffnebnkaa
