import Derived.Test.YtaogjiffnebnkaaXC
import Derived.Test.YtaogjiffnebnkaaSG
import Derived.Test.YtaogjiffnebnkaaODSD3
import Derived.Test.YtaogjiffnebnkaaV4
set_option linter.unusedVariables false
set_option linter.unusedSimpArgs false
namespace Go.Proofs.Ytaogjiffnebnkaa
open Go.RowKit Go.Shelf Go.Maps
/-- Numbers that are no NaN compare as their keys. -/
theorem gtB_key {x y : Nat} (x64 : x < 18446744073709551616) (y64 : y < 18446744073709551616) (hx : ¬ isNaN x) (hy : ¬ isNaN y) : gtB x y = decide (key y < key x) := by
  have h := order_ky x y hx hy
  have h1 := key_ky x64 hx
  have h2 := key_ky y64 hy
  show (Ieee.double.order x y == some .gt) = _
  rw [h]
  rcases Int.lt_trichotomy (ky x) (ky y) with q | q | q
  · rw [cmp_lt q, decide_eq_false (by omega)]; rfl
  · have e : compare (ky x) (ky y) = .eq := Int.compare_eq_eq.2 q
    rw [e, decide_eq_false (by omega)]; rfl
  · have e : compare (ky x) (ky y) = .gt := Int.compare_eq_gt.2 q
    rw [e, decide_eq_true (by omega)]; rfl
theorem eqF_key {x y : Nat} (x64 : x < 18446744073709551616) (y64 : y < 18446744073709551616) (hx : ¬ isNaN x) (hy : ¬ isNaN y) : eqF x y = decide (key x = key y) := by
  have h := order_ky x y hx hy
  have h1 := key_ky x64 hx
  have h2 := key_ky y64 hy
  show (Ieee.double.order x y == some .eq) = _
  rw [h]
  rcases Int.lt_trichotomy (ky x) (ky y) with q | q | q
  · rw [cmp_lt q, decide_eq_false (by omega)]; rfl
  · have e : compare (ky x) (ky y) = .eq := Int.compare_eq_eq.2 q
    rw [e, decide_eq_true (by omega)]; rfl
  · have e : compare (ky x) (ky y) = .gt := Int.compare_eq_gt.2 q
    rw [e, decide_eq_false (by omega)]; rfl
theorem gtB_nan {x y : Nat} (h : isNaN x) : gtB x y = false := by
  show (Ieee.double.order x y == some .gt) = _
  rw [order_nan x y (.inl h)]; rfl
/-- Where a test that only turns to 'no' turns. -/
theorem tw_at {α : Type} {p : α → Bool} : ∀ {L : List α}, (L.Pairwise fun a b => p b = true → p a = true) → ∀ (j : Nat) (hj : j < L.length), p L[j] = decide (j < (L.takeWhile p).length)
  | [], _, j, hj => by simp at hj
  | a :: L, h, j, hj => by
    obtain ⟨h1, h2⟩ := List.pairwise_cons.1 h
    rw [List.takeWhile_cons]
    by_cases q : p a = true
    · rw [if_pos q]
      cases j with
      | zero => simp [q]
      | succ j =>
        have := tw_at h2 j (by simpa using hj)
        simp only [List.getElem_cons_succ, List.length_cons]
        rw [this]
        simp
    · rw [if_neg q]
      cases j with
      | zero => simp [q]
      | succ j =>
        have hj' : j < L.length := by simpa using hj
        have hm : p L[j] ≠ true := fun e => q (h1 _ (List.getElem_mem hj') e)
        simp only [List.getElem_cons_succ]
        simp [hm]
theorem pw_of {α : Type} {R : α → α → Prop} : ∀ {L : List α}, (∀ a ∈ L, ∀ b ∈ L, R a b) → L.Pairwise R
  | [], _ => List.Pairwise.nil
  | a :: L, h => List.pairwise_cons.2 ⟨fun b hb => h a List.mem_cons_self b (List.mem_cons_of_mem _ hb), pw_of fun x hx y hy => h x (List.mem_cons_of_mem _ hx) y (List.mem_cons_of_mem _ hy)⟩
/-- The Numbers ahead of First are those that are false, and no other. -/
theorem fst_at {L : List Ct} (hs : srt kC L) (hok : ∀ c ∈ L, okT c) {x : Nat} (hx : x < 18446744073709551616) {j : Nat} (hj : j < L.length) : gtB x (L.getD j cd0).th = decide (j < fst L x) := by
  have e : L.getD j cd0 = L[j] := by simp [List.getD, hj]
  rw [e]
  refine tw_at (p := fun c : Ct => gtB x c.th) ?_ j hj
  by_cases hn : isNaN x
  · exact pw_of fun a _ b _ h => by rw [gtB_nan hn] at h; cases h
  · have h2 : L.Pairwise fun a b => okT a ∧ okT b := pw_of fun a ha b hb => ⟨hok a ha, hok b hb⟩
    refine (List.Pairwise.and hs h2).imp fun {a b} hq h => ?_
    obtain ⟨q, ha, hb⟩ := hq
    rw [gtB_key hx hb.1 hn hb.2] at h
    rw [gtB_key hx ha.1 hn ha.2]
    simp only [decide_eq_true_eq] at h ⊢
    unfold kC at q
    omega
/-- What groups are, when so many cuts have been met. -/
structure Grp (L : List Ct) (k : Nat) (G : List (Nat × Nat × Nat)) : Prop where
  rise : G.Pairwise fun a b => key a.1 < key b.1
  mem : ∀ κ, (∃ g ∈ G, key g.1 = κ) ↔ ∃ j, j < k ∧ key (L.getD j cd0).th = κ
  ok : ∀ g ∈ G, g.1 < 18446744073709551616 ∧ ¬ isNaN g.1
  row : ∀ j, j < G.length → (G.getD j gt0).2.1 = (if j = 0 then 0 else (G.getD (j - 1) gt0).2.2) ∧ (G.getD j gt0).2.1 < (G.getD j gt0).2.2
  last : (if G.length = 0 then 0 else (G.getD (G.length - 1) gt0).2.2) = k
  lk : 0 < k → 0 < G.length ∧ key (G.getD (G.length - 1) gt0).1 = key (L.getD (k - 1) cd0).th
theorem Grp.nil (L : List Ct) : Grp L 0 [] := ⟨List.Pairwise.nil, fun κ => by simp, fun g hg => (by cases hg), fun j hj => (by simp at hj), rfl, fun h => (by omega)⟩
theorem pw_last {α : Type} {R : α → α → Prop} {G : List α} {d y : α} (h : G.Pairwise R) (ht : ∀ a b c, R a b → R b c → R a c) (hy : 0 < G.length → R (G.getD (G.length - 1) d) y) : (G ++ [y]).Pairwise R := by
  refine List.pairwise_append.2 ⟨h, List.pairwise_singleton _ _, fun a ha b hb => ?_⟩
  obtain rfl := List.mem_singleton.1 hb
  obtain ⟨i, hi, rfl⟩ := List.getElem_of_mem ha
  have hl := hy (by omega)
  have e : G.getD (G.length - 1) d = G[G.length - 1] := by simp [List.getD, show G.length - 1 < G.length by omega]
  rw [e] at hl
  by_cases q : i = G.length - 1
  · subst q; exact hl
  · exact ht _ _ _ (List.pairwise_iff_getElem.1 h i (G.length - 1) hi (by omega) (by omega)) hl
theorem grp_is {L : List Ct} (hs : srt kC L) (hok : ∀ c ∈ L, okT c) : ∀ k, k ≤ L.length → Grp L k (grp L k)
  | 0, _ => Grp.nil L
  | k + 1, hk => by
    have ih := grp_is hs hok k (by omega)
    have hkl : k < L.length := by omega
    have ek : L.getD k cd0 = L[k] := by simp [List.getD, hkl]
    have ok := hok _ (List.getElem_mem hkl)
    rw [← ek] at ok
    rw [grp]
    generalize hG : grp L k = G at *
    by_cases q : 0 < k ∧ eqF (L.getD k cd0).th (L.getD (k - 1) cd0).th = true
    · rw [if_pos q]
      obtain ⟨l1, l2⟩ := ih.lk q.1
      have ok' : okT (L.getD (k - 1) cd0) := by
        have e : L.getD (k - 1) cd0 = L[k - 1] := by simp [List.getD, show k - 1 < L.length by omega]
        rw [e]; exact hok _ (List.getElem_mem _)
      have qk : key (L.getD k cd0).th = key (L.getD (k - 1) cd0).th := by
        have := q.2
        rw [eqF_key ok.1 ok'.1 ok.2 ok'.2] at this
        exact of_decide_eq_true this
      have hl : G.length - 1 < G.length := by omega
      have hmap : ∀ (y : Nat), (G.set (G.length - 1) ((G.getD (G.length - 1) gt0).1, (G.getD (G.length - 1) gt0).2.1, y)).map (fun g => g.1) = G.map fun g => g.1 := by
        intro y
        rw [List.map_set]
        apply List.ext_getElem?
        intro i
        rw [List.getElem?_set]
        by_cases e : G.length - 1 = i
        · subst e; simp [hl, List.getD]
        · simp [e]
      refine ⟨?_, fun κ => ?_, fun g hg => ?_, fun j hj => ?_, ?_, fun _ => ?_⟩
      · have h1 : (G.map fun g => g.1).Pairwise fun a b => key a < key b := by rw [List.pairwise_map]; exact ih.rise
        rw [← hmap (k + 1), List.pairwise_map] at h1
        exact h1
      · have h1 : ∀ {M : List (Nat × Nat × Nat)}, (∃ g ∈ M, key g.1 = κ) ↔ κ ∈ M.map fun g => key g.1 := by intro M; simp [List.mem_map]
        have h2 : (G.set (G.length - 1) ((G.getD (G.length - 1) gt0).1, (G.getD (G.length - 1) gt0).2.1, k + 1)).map (fun g => key g.1) = G.map fun g => key g.1 := by
          have := congrArg (List.map key) (hmap (k + 1))
          simpa [List.map_map, Function.comp_def] using this
        rw [h1, h2, ← h1, ih.mem]
        constructor
        · rintro ⟨j, hj, e⟩; exact ⟨j, by omega, e⟩
        · rintro ⟨j, hj, e⟩
          by_cases r : j = k
          · subst r; exact ⟨j - 1, by omega, by rw [← qk]; exact e⟩
          · exact ⟨j, by omega, e⟩
      · rcases List.mem_or_eq_of_mem_set hg with hg | rfl
        · exact ih.ok g hg
        · have e9 : G.getD (G.length - 1) gt0 = G[G.length - 1] := by simp [List.getD, hl]
          have h9 := ih.ok _ (List.getElem_mem hl)
          rw [← e9] at h9
          exact h9
      · rw [List.length_set] at hj
        obtain ⟨r1, r2⟩ := ih.row j hj
        have hlast := ih.last
        rw [if_neg (by omega)] at hlast
        have gs : ∀ i, i < G.length → (G.set (G.length - 1) ((G.getD (G.length - 1) gt0).1, (G.getD (G.length - 1) gt0).2.1, k + 1)).getD i gt0 = if i = G.length - 1 then ((G.getD (G.length - 1) gt0).1, (G.getD (G.length - 1) gt0).2.1, k + 1) else G.getD i gt0 := by
          intro i hi
          simp only [List.getD, List.getElem?_set]
          by_cases e : G.length - 1 = i
          · subst e; simp [hl]
          · rw [if_neg e, if_neg (fun h => e h.symm)]
        rw [gs j hj]
        by_cases e : j = G.length - 1
        · rw [if_pos e]
          subst e
          refine ⟨?_, by show (G.getD (G.length - 1) gt0).2.1 < k + 1; rw [hlast] at r2; omega⟩
          show (G.getD (G.length - 1) gt0).2.1 = _
          refine r1.trans ?_
          by_cases z : G.length - 1 = 0
          · rw [if_pos z, if_pos z]
          · rw [if_neg z, if_neg z, gs _ (by omega), if_neg (by omega)]
        · rw [if_neg e]
          refine ⟨?_, r2⟩
          rw [r1]
          by_cases z : j = 0
          · rw [if_pos z, if_pos z]
          · rw [if_neg z, if_neg z, gs _ (by omega), if_neg (by omega)]
      · rw [List.length_set, if_neg (by omega)]
        simp [List.getD, hl]
      · rw [List.length_set]
        refine ⟨l1, ?_⟩
        simp only [Nat.add_sub_cancel]
        have : (G.set (G.length - 1) ((G.getD (G.length - 1) gt0).1, (G.getD (G.length - 1) gt0).2.1, k + 1)).getD (G.length - 1) gt0 = ((G.getD (G.length - 1) gt0).1, (G.getD (G.length - 1) gt0).2.1, k + 1) := by simp [List.getD, hl]
        rw [this, qk]
        exact l2
    · rw [if_neg q]
      have hnew : 0 < k → key (L.getD (k - 1) cd0).th < key (L.getD k cd0).th := by
        intro h0
        have ok' : okT (L.getD (k - 1) cd0) := by
          have e : L.getD (k - 1) cd0 = L[k - 1] := by simp [List.getD, show k - 1 < L.length by omega]
          rw [e]; exact hok _ (List.getElem_mem _)
        have h1 : kC (L.getD (k - 1) cd0) ≤ kC (L.getD k cd0) := by
          have e : L.getD (k - 1) cd0 = L[k - 1] := by simp [List.getD, show k - 1 < L.length by omega]
          rw [e, ek]
          exact List.pairwise_iff_getElem.1 hs (k - 1) k (by omega) hkl (by omega)
        have h2 : key (L.getD k cd0).th ≠ key (L.getD (k - 1) cd0).th := by
          intro e
          refine q ⟨h0, ?_⟩
          rw [eqF_key ok.1 ok'.1 ok.2 ok'.2]
          exact decide_eq_true e
        unfold kC at h1
        omega
      have hap : ∀ i, i < G.length → (G ++ [((L.getD k cd0).th, k, k + 1)]).getD i gt0 = G.getD i gt0 := by
        intro i hi
        simp [List.getD, List.getElem?_append_left hi]
      have hap2 : (G ++ [((L.getD k cd0).th, k, k + 1)]).getD G.length gt0 = ((L.getD k cd0).th, k, k + 1) := by
        simp [List.getD]
      refine ⟨?_, fun κ => ?_, fun g hg => ?_, fun j hj => ?_, ?_, fun _ => ?_⟩
      · refine pw_last (d := gt0) ih.rise (fun a b c h1 h2 => by omega) (fun h0 => ?_)
        by_cases z : 0 < k
        · rw [(ih.lk z).2]; exact hnew z
        · have hz : k = 0 := by omega
          obtain ⟨i, hi, e⟩ := (ih.mem (key (G.getD (G.length - 1) gt0).1)).1 ⟨_, by
            have : G.getD (G.length - 1) gt0 = G[G.length - 1] := by simp [List.getD, show G.length - 1 < G.length by omega]
            rw [this]; exact List.getElem_mem _, rfl⟩
          omega
      · constructor
        · rintro ⟨g, hg, e⟩
          rcases List.mem_append.1 hg with hg | hg
          · obtain ⟨j, hj, e'⟩ := (ih.mem κ).1 ⟨g, hg, e⟩
            exact ⟨j, by omega, e'⟩
          · obtain rfl := List.mem_singleton.1 hg
            exact ⟨k, by omega, e⟩
        · rintro ⟨j, hj, e⟩
          by_cases r : j = k
          · subst r; exact ⟨_, List.mem_append.2 (.inr (List.mem_singleton.2 rfl)), e⟩
          · obtain ⟨g, hg, e'⟩ := (ih.mem κ).2 ⟨j, by omega, e⟩
            exact ⟨g, List.mem_append.2 (.inl hg), e'⟩
      · rcases List.mem_append.1 hg with hg | hg
        · exact ih.ok g hg
        · obtain rfl := List.mem_singleton.1 hg
          exact ok
      · rw [List.length_append, List.length_singleton] at hj
        by_cases e : j = G.length
        · subst e
          rw [hap2]
          refine ⟨?_, by show k < k + 1; omega⟩
          show k = _
          have hlast := ih.last
          by_cases z : G.length = 0
          · rw [if_pos z] at hlast ⊢; exact hlast.symm
          · rw [if_neg z] at hlast ⊢
            rw [hap _ (by omega)]
            exact hlast.symm
        · have hj' : j < G.length := by omega
          obtain ⟨r1, r2⟩ := ih.row j hj'
          rw [hap j hj']
          refine ⟨?_, r2⟩
          rw [r1]
          by_cases z : j = 0
          · rw [if_pos z, if_pos z]
          · rw [if_neg z, if_neg z, hap _ (by omega)]
      · rw [List.length_append, List.length_singleton, if_neg (by omega), Nat.add_sub_cancel, hap2]
      · rw [List.length_append, List.length_singleton, Nat.add_sub_cancel, hap2]
        exact ⟨by omega, rfl⟩
/-- Two rising lists of the same keys are one. -/
theorem keys_one : ∀ {A B : List Nat}, (A.Pairwise fun a b => a < b) → (B.Pairwise fun a b => a < b) → (∀ x, x ∈ A ↔ x ∈ B) → A = B
  | [], [], _, _, _ => rfl
  | [], b :: B, _, _, h => by have := (h b).2 List.mem_cons_self; cases this
  | a :: A, [], _, _, h => by have := (h a).1 List.mem_cons_self; cases this
  | a :: A, b :: B, hA, hB, h => by
    obtain ⟨a1, a2⟩ := List.pairwise_cons.1 hA
    obtain ⟨b1, b2⟩ := List.pairwise_cons.1 hB
    have e : a = b := by
      have h1 := (h a).1 List.mem_cons_self
      have h2 := (h b).2 List.mem_cons_self
      rcases List.mem_cons.1 h1 with q | q
      · exact q
      · rcases List.mem_cons.1 h2 with r | r
        · exact r.symm
        · have := a1 b r; have := b1 a q; omega
    subst e
    congr 1
    refine keys_one a2 b2 fun x => ⟨fun hx => ?_, fun hx => ?_⟩
    · rcases List.mem_cons.1 ((h x).1 (List.mem_cons_of_mem _ hx)) with q | q
      · have := a1 x hx; omega
      · exact q
    · rcases List.mem_cons.1 ((h x).2 (List.mem_cons_of_mem _ hx)) with q | q
      · have := b1 x hx; omega
      · exact q
/-- The groups' thresholds are the distinct ones. -/
theorem grp_dst {L : List Ct} {G : List (Nat × Nat × Nat)} (h : Grp L L.length G) {l D : List Nat} (hD : Dst l D) (hm : ∀ κ, (∃ c ∈ L, key c.th = κ) ↔ ∃ y ∈ l, ¬ isNaN y ∧ key y = κ) (hl : ∀ y ∈ l, y < 18446744073709551616) :
    G.length = D.length ∧ ∀ j, j < G.length → eqF (G.getD j gt0).1 (D.getD j 0) = true := by
  have hkey : ∀ x ∈ D, ∃ y ∈ l, ¬ isNaN y ∧ key x = key y := by
    intro x hx
    obtain ⟨y, h1, h2, rfl⟩ := (hD.mem x).1 hx
    exact ⟨y, h1, h2, aK_key (key_le y)⟩
  have e : G.map (fun g => key g.1) = D.map key := by
    refine keys_one ?_ ?_ fun κ => ?_
    · rw [List.pairwise_map]; exact h.rise
    · rw [List.pairwise_map]; exact hD.rise
    · rw [List.mem_map, List.mem_map]
      constructor
      · rintro ⟨g, hg, rfl⟩
        obtain ⟨j, hj, e⟩ := (h.mem _).1 ⟨g, hg, rfl⟩
        obtain ⟨y, h1, h2, h3⟩ := (hm (key g.1)).1 ⟨L.getD j cd0, by
          have : L.getD j cd0 = L[j] := by simp [List.getD, hj]
          rw [this]; exact List.getElem_mem _, e⟩
        exact ⟨aK (key y), (hD.mem _).2 ⟨y, h1, h2, rfl⟩, by rw [aK_key (key_le y)]; exact h3⟩
      · rintro ⟨x, hx, rfl⟩
        obtain ⟨y, h1, h2, h3⟩ := hkey x hx
        obtain ⟨c, hc, e⟩ := (hm (key y)).2 ⟨y, h1, h2, rfl⟩
        obtain ⟨j, hj, rfl⟩ := List.getElem_of_mem hc
        obtain ⟨g, hg, e'⟩ := (h.mem (key y)).2 ⟨j, hj, by
          have : L.getD j cd0 = L[j] := by simp [List.getD, hj]
          rw [this]; exact e⟩
        exact ⟨g, hg, by rw [e', h3]⟩
  have hlen : G.length = D.length := by have := congrArg List.length e; simpa using this
  refine ⟨hlen, fun j hj => ?_⟩
  have hj' : j < D.length := by omega
  have eg : G.getD j gt0 = G[j] := by simp [List.getD, hj]
  have ed : D.getD j 0 = D[j] := by simp [List.getD, hj']
  have ek : key G[j].1 = key D[j] := by
    have := congrArg (fun M : List Nat => M[j]?) e
    simpa [hj, hj'] using this
  obtain ⟨o1, o2⟩ := h.ok _ (List.getElem_mem hj)
  obtain ⟨y, h1, h2, h3⟩ := hkey _ (List.getElem_mem hj')
  have hn : ¬ isNaN D[j] := by
    intro q
    have q1 := nan_key.1 q
    rw [h3] at q1
    exact h2 (nan_key.2 q1)
  rw [eg, ed, eqF_key o1 (hD.f64 _ (List.getElem_mem hj')) o2 hn]
  exact decide_eq_true ek
end Go.Proofs.Ytaogjiffnebnkaa
set_option linter.unusedVariables false
set_option linter.unusedSimpArgs false
namespace Go.Proofs.Ytaogjiffnebnkaa
open Go.RowKit Go.Shelf Go.Maps
/-- Each inner node has its mark. -/
theorem mk_all {L : List Nd} (h : trE L = 0) {i : Nat} (hi : i < L.length) (hk : (L.getD i nd0).kd = 2 ∨ (L.getD i nd0).kd = 3) : ∃ m ∈ mkl L, m.1 = i := by
  obtain ⟨-, hR, hT, b, hb, -, hn⟩ := Mk.lvE_ok h
  rw [mkl_of hb]
  have hi' : i < (L.map Nd.m).length := by rw [List.length_map]; exact hi
  have hm := (Mk.ord_mem hT.wi i).2 (hT.re i hi')
  rw [Mk.ord_bt hT hb] at hm
  have hK : (Mk.shp (L.map Nd.m)).K i = true := by
    simp only [Mk.shp, decide_eq_true_eq, getD_m]
    exact hk
  have h1 : i ∈ b.inn := by
    rw [← hb.pre_inn]
    exact List.mem_filter.2 ⟨hm, hK⟩
  rw [← b.mks_inn 0] at h1
  obtain ⟨m, hm, e⟩ := List.mem_map.1 h1
  exact ⟨m, hm, e⟩
theorem mem_gall {ts : List (Int × List Nd)} {s : Nd × Ct} : s ∈ gall ts ↔ ∃ k, k < ts.length ∧ s ∈ gat (ts.getD k (0, [])).2 (k : Nat) := by
  unfold gall
  rw [List.mem_flatMap]
  constructor
  · rintro ⟨⟨t, k⟩, hk, hs⟩
    obtain ⟨h1, h2⟩ := List.mem_zipIdx' hk
    refine ⟨k, h1, ?_⟩
    have : ts.getD k (0, []) = t := by simp only [List.getD]; rw [List.getElem?_eq_getElem h1, ← h2]; rfl
    rw [this]
    exact hs
  · rintro ⟨k, hk, hs⟩
    refine ⟨(ts.getD k (0, []), k), ?_, hs⟩
    rw [List.mem_zipIdx_iff_getElem?]
    simp [List.getD, hk]
/-- The thresholds that nodes of a feature have. -/
def thr (ts : List (Int × List Nd)) (f : Int) : List Nat := ts.flatMap fun t => (t.2.filter fun d => d.kd == 2 && d.ft == f).map (·.th)
theorem mem_thr {ts : List (Int × List Nd)} {f : Int} {y : Nat} : y ∈ thr ts f ↔ ∃ k i, k < ts.length ∧ i < (ts.getD k (0, [])).2.length ∧ ((ts.getD k (0, [])).2.getD i nd0).kd = 2 ∧ ((ts.getD k (0, [])).2.getD i nd0).ft = f ∧ ((ts.getD k (0, [])).2.getD i nd0).th = y := by
  unfold thr
  rw [List.mem_flatMap]
  constructor
  · rintro ⟨t, ht, hy⟩
    obtain ⟨d, hd, rfl⟩ := List.mem_map.1 hy
    obtain ⟨h1, h2⟩ := List.mem_filter.1 hd
    obtain ⟨k, hk, rfl⟩ := List.getElem_of_mem ht
    obtain ⟨i, hi, rfl⟩ := List.getElem_of_mem h1
    have e : ts.getD k (0, []) = ts[k] := by simp [List.getD, hk]
    have e2 : ts[k].2.getD i nd0 = ts[k].2[i] := by simp [List.getD, hi]
    simp only [Bool.and_eq_true, beq_iff_eq] at h2
    exact ⟨k, i, hk, by rw [e]; exact hi, by rw [e, e2]; exact h2.1, by rw [e, e2]; exact h2.2, by rw [e, e2]⟩
  · rintro ⟨k, i, hk, hi, h1, h2, h3⟩
    have e : ts.getD k (0, []) = ts[k] := by simp [List.getD, hk]
    rw [e] at hi h1 h2 h3
    have e2 : ts[k].2.getD i nd0 = ts[k].2[i] := by simp [List.getD, hi]
    rw [e2] at h1 h2 h3
    exact ⟨ts[k], List.getElem_mem hk, List.mem_map.2 ⟨ts[k].2[i], List.mem_filter.2 ⟨List.getElem_mem hi, by simp [h1, h2]⟩, h3⟩⟩
/-- A list's Numbers have the thresholds of the nodes of its feature. -/
theorem ns_keys {ts : List (Int × List Nd)} (hT : ∀ j, j < ts.length → trE (ts.getD j (0, [])).2 = 0) {T : List Lst} (h : IsL (gall ts) T) {t : Lst} (ht : t ∈ T) (κ : Nat) :
    (∃ c ∈ t.ns, key c.th = κ) ↔ ∃ y ∈ thr ts t.ft, ¬ isNaN y ∧ key y = κ := by
  have hq := (h.ns t ht).2
  constructor
  · rintro ⟨c, hc, e⟩
    have hm := hq.mem hc
    unfold sel at hm
    obtain ⟨s, hs, rfl⟩ := List.mem_map.1 hm
    obtain ⟨h1, h2⟩ := List.mem_filter.1 hs
    simp only [Bool.and_eq_true, beq_iff_eq, cnd] at h2
    obtain ⟨k, hk, hg⟩ := mem_gall.1 h1
    have hn := gat_nan (hT k hk) (k : Nat) s hg
    unfold gat at hg
    obtain ⟨m, hmm, rfl⟩ := List.mem_map.1 hg
    have hb := ((mkl_ok (hT k hk)).2 m hmm).1
    refine ⟨_, mem_thr.2 ⟨k, m.1, hk, hb, h2.2, h2.1, rfl⟩, hn, e⟩
  · rintro ⟨y, hy, hn, e⟩
    obtain ⟨k, i, hk, hi, h1, h2, rfl⟩ := mem_thr.1 hy
    obtain ⟨m, hm, rfl⟩ := mk_all (hT k hk) hi (.inl h1)
    refine ⟨_, hq.symm.mem (?_ : (mct (ts.getD k (0, [])).2 (k : Nat) m).2 ∈ _), e⟩
    unfold sel
    refine List.mem_map.2 ⟨mct (ts.getD k (0, [])).2 (k : Nat) m, List.mem_filter.2 ⟨mem_gall.2 ⟨k, hk, List.mem_map.2 ⟨m, hm, rfl⟩⟩, ?_⟩, rfl⟩
    simp only [mct, cnd, Bool.and_eq_true, beq_iff_eq]
    exact ⟨h2, h1⟩
theorem thr_len : ∀ (ts : List (Int × List Nd)) (f : Int) (B : Nat), (∀ t ∈ ts, t.2.length ≤ B) → (thr ts f).length ≤ ts.length * B
  | [], _, _, _ => by simp [thr]
  | t :: ts, f, B, h => by
    have h1 := thr_len ts f B (fun t ht => h t (List.mem_cons_of_mem _ ht))
    have h2 := h t List.mem_cons_self
    have e : thr (t :: ts) f = (t.2.filter fun d => d.kd == 2 && d.ft == f).map (·.th) ++ thr ts f := by simp [thr]
    have h3 : ((t.2.filter fun d => d.kd == 2 && d.ft == f).map (·.th)).length ≤ B := by rw [List.length_map]; exact Nat.le_trans (List.length_filter_le _ _) h2
    rw [e, List.length_append, List.length_cons, Nat.add_mul]
    omega
end Go.Proofs.Ytaogjiffnebnkaa
