import Derived.Test.YtjiflgdbgpegiaaSB3
import Derived.Test.YtjiflgdbgpegiaaL1
set_option linter.unusedVariables false
set_option linter.unusedSimpArgs false
namespace Go.Proofs.Ytjiflgdbgpegiaa
/-- The number of a key (a NaN: some). -/
def aK (k : Nat) : Nat := atB 9221120237041090561 k
theorem aK_ref {k : Nat} (h : k ≠ 18437736874454810625) : atB 9218868437227405313 k = aK k := by
  unfold aK atB
  rw [if_neg h, if_neg h]
theorem aK_key {k : Nat} (h : k ≤ 18437736874454810625) : key (aK k) = k := atB_key h
theorem aK_lt (k : Nat) : aK k < 18446744073709551616 := atB_lt' k
/-- The numbers of a list, each once, rising, no NaN. -/
structure Dst (l D : List Nat) : Prop where
  rise : D.Pairwise fun x y => key x < key y
  mem : ∀ x, x ∈ D ↔ ∃ y ∈ l, ¬ isNaN y ∧ x = aK (key y)
theorem rise_one : ∀ {X Y : List Nat}, (X.Pairwise fun x y => key x < key y) → (Y.Pairwise fun x y => key x < key y) → (∀ x, x ∈ X ↔ x ∈ Y) → X = Y
  | [], Y, _, _, h => by
    cases Y with
    | nil => rfl
    | cons y Y => have := (h y).2 (by simp); cases this
  | x :: X, [], _, _, h => by have := (h x).1 (by simp); cases this
  | x :: X, y :: Y, hX, hY, h => by
    obtain ⟨x1, x2⟩ := List.pairwise_cons.1 hX
    obtain ⟨y1, y2⟩ := List.pairwise_cons.1 hY
    have e : x = y := by
      rcases List.mem_cons.1 ((h x).1 (by simp)) with e | e
      · exact e
      · rcases List.mem_cons.1 ((h y).2 (by simp)) with f | f
        · exact f.symm
        · have a := y1 x e
          have b := x1 y f
          omega
    subst e
    rw [rise_one x2 y2 (fun z => ?_)]
    constructor
    · intro hz
      rcases List.mem_cons.1 ((h z).1 (List.mem_cons_of_mem _ hz)) with e | e
      · subst e; have := x1 z hz; omega
      · exact e
    · intro hz
      rcases List.mem_cons.1 ((h z).2 (List.mem_cons_of_mem _ hz)) with e | e
      · subst e; have := y1 z hz; omega
      · exact e
theorem Dst.one {l l' D D' : List Nat} (h : Dst l D) (h' : Dst l' D') (hl : ∀ x, x ∈ l ↔ x ∈ l') : D = D' := by
  refine rise_one h.rise h'.rise fun x => ?_
  rw [h.mem, h'.mem]
  constructor
  · rintro ⟨y, hy, r⟩; exact ⟨y, (hl y).1 hy, r⟩
  · rintro ⟨y, hy, r⟩; exact ⟨y, (hl y).2 hy, r⟩
theorem Dst.nil : Dst [] [] := ⟨List.Pairwise.nil, fun x => by simp⟩
theorem Dst.key_at {l D : List Nat} (h : Dst l D) {x : Nat} (hx : x ∈ D) : ∃ y ∈ l, ¬ isNaN y ∧ x = aK (key y) ∧ key x = key y := by
  obtain ⟨y, hy, r1, r2⟩ := (h.mem x).1 hx
  exact ⟨y, hy, r1, r2, by rw [r2]; exact aK_key (key_le y)⟩
theorem Dst.nan {l D : List Nat} (h : Dst l D) {x : Nat} (hx : isNaN x) : Dst (l ++ [x]) D := by
  refine ⟨h.rise, fun z => ?_⟩
  rw [h.mem]
  constructor
  · rintro ⟨y, hy, r⟩; exact ⟨y, by simp [hy], r⟩
  · rintro ⟨y, hy, r1, r2⟩
    rcases List.mem_append.1 hy with q | q
    · exact ⟨y, q, r1, r2⟩
    · rw [List.mem_singleton.1 q] at r1; exact absurd hx r1
theorem Dst.same {l D : List Nat} (h : Dst l D) {x z : Nat} (hz : z ∈ D) (hk : key z = key x) : Dst (l ++ [x]) D := by
  refine ⟨h.rise, fun u => ?_⟩
  obtain ⟨y0, h1, h2, h3, h4⟩ := h.key_at hz
  rw [h.mem]
  constructor
  · rintro ⟨y, hy, r⟩; exact ⟨y, by simp [hy], r⟩
  · rintro ⟨y, hy, r1, r2⟩
    rcases List.mem_append.1 hy with q | q
    · exact ⟨y, q, r1, r2⟩
    · rw [List.mem_singleton.1 q] at r2
      exact ⟨y0, h1, h2, by rw [r2, ← hk, h4]⟩
theorem Dst.more {l D : List Nat} (h : Dst l D) {x : Nat} (hx : ¬ isNaN x) (hs : ∀ y ∈ l, key y ≤ key x) (hl : ∀ z, D.getLast? = some z → key z ≠ key x) : Dst (l ++ [x]) (D ++ [aK (key x)]) := by
  refine ⟨List.pairwise_append.2 ⟨h.rise, List.pairwise_singleton _ _, ?_⟩, fun u => ?_⟩
  · intro a ha b hb
    rw [List.mem_singleton.1 hb, aK_key (key_le x)]
    obtain ⟨y0, h1, h2, h3, h4⟩ := h.key_at ha
    have h5 := hs y0 h1
    rcases List.eq_nil_or_concat D with q | ⟨L, z, e⟩
    · rw [q] at ha; cases ha
    · have hz := hl z (by rw [e]; simp)
      have hzm : z ∈ D := by rw [e]; simp
      obtain ⟨y1, g1, g2, g3, g4⟩ := h.key_at hzm
      have g5 := hs y1 g1
      rw [e] at ha
      rcases List.mem_append.1 (by simpa using ha : a ∈ L ++ [z]) with q | q
      · have hr := h.rise
        rw [e] at hr
        have := (List.pairwise_append.1 (by simpa using hr : (L ++ [z]).Pairwise fun x y => key x < key y)).2.2 a q z (by simp)
        omega
      · rw [List.mem_singleton.1 q]; omega
  · rw [List.mem_append, h.mem, List.mem_singleton]
    constructor
    · rintro (⟨y, hy, r⟩ | r)
      · exact ⟨y, by simp [hy], r⟩
      · exact ⟨x, by simp, hx, r⟩
    · rintro ⟨y, hy, r1, r2⟩
      rcases List.mem_append.1 hy with q | q
      · exact .inl ⟨y, q, r1, r2⟩
      · rw [List.mem_singleton.1 q] at r2; exact .inr r2
theorem Dst.f64 {l D : List Nat} (h : Dst l D) : F64 D := by
  intro x hx
  obtain ⟨y, _, _, r⟩ := (h.mem x).1 hx
  rw [r]; exact aK_lt _
theorem Dst.nanless {l D : List Nat} (h : Dst l D) {x : Nat} (hx : x ∈ D) : ¬ isNaN x := by
  obtain ⟨y, h1, h2, h3, h4⟩ := h.key_at hx
  rw [nan_key] at h2 ⊢
  omega
/-- How many there are at most. -/
theorem Dst.len {l D : List Nat} (h : Dst l D) : D.length ≤ l.length := by
  have hn : (D.map key).Nodup := by
    rw [List.nodup_iff_pairwise_ne, List.pairwise_map]
    exact h.rise.imp fun {a b} q => by omega
  have hs : ∀ k ∈ D.map key, k ∈ l.map key := by
    intro k hk
    obtain ⟨x, hx, rfl⟩ := List.mem_map.1 hk
    obtain ⟨y, h1, h2, h3, h4⟩ := h.key_at hx
    rw [h4]; exact List.mem_map.2 ⟨y, h1, rfl⟩
  have := List.Nodup.length_le_of_subset hn hs
  simpa using this
/-- Keys in whatever order, each once: their numbers, sorted. -/
theorem Dst.of_keys {l ks D : List Nat} (hm : ∀ k, k ∈ ks ↔ ∃ y ∈ l, ¬ isNaN y ∧ key y = k) (hn : ks.Nodup) (hp : D.Perm (ks.map aK)) (hs : D.Pairwise fun x y => key x ≤ key y) : Dst l D := by
  have hkey : (ks.map aK).map key = ks := by
    rw [List.map_map]
    conv => rhs; rw [← List.map_id ks]
    refine List.map_congr_left fun k hk => ?_
    obtain ⟨y, _, _, r⟩ := (hm k).1 hk
    show key (aK k) = k
    exact aK_key (by rw [← r]; exact key_le y)
  have hnd : (D.map key).Nodup := by
    have := (hp.map key).nodup_iff.2 (by rw [hkey]; exact hn)
    exact this
  refine ⟨?_, fun x => ?_⟩
  · have h2 := List.pairwise_map.1 (List.nodup_iff_pairwise_ne.1 hnd)
    exact (hs.and h2).imp fun {a b} q => by omega
  · rw [hp.mem_iff, List.mem_map]
    constructor
    · rintro ⟨k, hk, r⟩
      obtain ⟨y, h1, h2, h3⟩ := (hm k).1 hk
      exact ⟨y, h1, h2, by rw [h3, r]⟩
    · rintro ⟨y, h1, h2, h3⟩
      exact ⟨key y, (hm _).2 ⟨y, h1, h2, rfl⟩, h3.symm⟩
end Go.Proofs.Ytjiflgdbgpegiaa
