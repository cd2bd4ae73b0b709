import Derived.Test.YtodegcobkngmlaaGreatDoorProg
import Derived.Test.YtodegcobkngmlaaGreatDoorYT5
import Derived.Test.YtodegcobkngmlaaGreatDoorYU4
import Derived.Test.YtodegcobkngmlaaGreatDoorYV1
import Derived.WalkKit
import Derived.WalkSpells
import Derived.WalkLawsBesides
import Derived.Deep.Draws
import Derived.Deep.QuietTactic
import Derived.BigQuiet
import Derived.Laws.Externs
import Derived.Laws.CopyOwn
import Derived.RangeFuncBox
import Derived.RangeFuncLeaves
import Derived.RangeFuncCalls
import Derived.RangeFuncRecord
import Derived.Below
import Derived.Shelf.Abstract
import Derived.OwnWalkIn
import Derived.TacticsInMore
import Derived.LoopNIn
import Derived.LoopIn
import Derived.Sort.LoopGhostIn
import Derived.Deep.RegionLaw
import Derived.Deep.RegionWith
import Derived.Deep.RegionHeld3
import Derived.Stop.RegionWithIn
set_option linter.unusedVariables false
set_option linter.unusedSimpArgs false
namespace Go.Proofs.YtodegcobkngmlaaGreatDoor
/-- Node i lies so many inner nodes below node 0. -/
inductive Lv (t : Sh) : Nat → Nat → Prop
  | zero : Lv t 0 0
  | left {i k : Nat} : Lv t i k → t.K i = true → Lv t (t.A i) (k + 1)
  | right {i k : Nat} : Lv t i k → t.K i = true → Lv t (t.B i) (k + 1)
theorem Lv.rch {t : Sh} {i k : Nat} (h : Lv t i k) : Rch t i := by
  induction h with
  | zero => exact .zero
  | left _ hk ih => exact .left ih hk
  | right _ hk ih => exact .right ih hk
theorem Lv.inv {t : Sh} {j m : Nat} (h : Lv t j m) : (j = 0 ∧ m = 0) ∨ ∃ i k, m = k + 1 ∧ Lv t i k ∧ t.K i = true ∧ (t.A i = j ∨ t.B i = j) := by
  cases h with
  | zero => exact .inl ⟨rfl, rfl⟩
  | left h hk => exact .inr ⟨_, _, rfl, h, hk, .inl rfl⟩
  | right h hk => exact .inr ⟨_, _, rfl, h, hk, .inr rfl⟩
theorem Lv.one {t : Sh} {n : Nat} (ht : Tr t n) : ∀ (m k j : Nat), Lv t j m → Lv t j k → m = k := by
  intro m
  induction m with
  | zero =>
    intro k j h1 h2
    rcases h1.inv with ⟨rfl, _⟩ | ⟨i, q, e, _⟩
    · rcases h2.inv with ⟨_, e⟩ | ⟨i, q, rfl, hl, hk, hc⟩
      · exact e.symm
      · have := ht.z i (hl.rch.lt ht.wi) hk
        rcases hc with h | h
        · exact absurd h this.1
        · exact absurd h this.2
    · cases e
  | succ m ih =>
    intro k j h1 h2
    rcases h1.inv with ⟨_, e⟩ | ⟨i, q, e, hl, hk, hc⟩
    · cases e
    · simp only [Nat.add_right_cancel_iff] at e
      subst e
      have hi := hl.rch.lt ht.wi
      have hz := ht.z i hi hk
      have hj0 : j ≠ 0 := by rcases hc with h | h; exact h ▸ hz.1; exact h ▸ hz.2
      rcases h2.inv with ⟨e, _⟩ | ⟨i2, q2, rfl, hl2, hk2, hc2⟩
      · exact absurd e hj0
      · have := ht.par (Nat.pos_of_ne_zero hj0) (h1.rch.lt ht.wi) hi (hl2.rch.lt ht.wi) hk hk2 hc hc2
        subst this
        rw [ih q2 i hl hl2]
theorem Lv.line {t : Sh} {n i k : Nat} (ht : Tr t n) (h : Lv t i k) : ∃ l : List Nat, l.length = k + 1 ∧ l.Nodup ∧ (∀ x ∈ l, x < n) ∧ ∀ x ∈ l, ∃ q, q ≤ k ∧ Lv t x q := by
  induction h with
  | zero => exact ⟨[0], rfl, by simp, by simpa using ht.wi.1, by intro x hx; simp at hx; subst hx; exact ⟨0, Nat.le_refl _, .zero⟩⟩
  | @left i k h hk ih =>
    obtain ⟨l, h1, h2, h3, h4⟩ := ih
    have hn : Lv t (t.A i) (k + 1) := .left h hk
    refine ⟨t.A i :: l, by simp [h1], ?_, ?_, ?_⟩
    · rw [List.nodup_cons]
      refine ⟨fun hm => ?_, h2⟩
      obtain ⟨q, hq, hl⟩ := h4 _ hm
      have := Lv.one ht _ _ _ hl hn
      omega
    · intro x hx
      rcases List.mem_cons.1 hx with rfl | hx
      · exact hn.rch.lt ht.wi
      · exact h3 x hx
    · intro x hx
      rcases List.mem_cons.1 hx with rfl | hx
      · exact ⟨_, Nat.le_refl _, hn⟩
      · obtain ⟨q, hq, hl⟩ := h4 x hx
        exact ⟨q, by omega, hl⟩
  | @right i k h hk ih =>
    obtain ⟨l, h1, h2, h3, h4⟩ := ih
    have hn : Lv t (t.B i) (k + 1) := .right h hk
    refine ⟨t.B i :: l, by simp [h1], ?_, ?_, ?_⟩
    · rw [List.nodup_cons]
      refine ⟨fun hm => ?_, h2⟩
      obtain ⟨q, hq, hl⟩ := h4 _ hm
      have := Lv.one ht _ _ _ hl hn
      omega
    · intro x hx
      rcases List.mem_cons.1 hx with rfl | hx
      · exact hn.rch.lt ht.wi
      · exact h3 x hx
    · intro x hx
      rcases List.mem_cons.1 hx with rfl | hx
      · exact ⟨_, Nat.le_refl _, hn⟩
      · obtain ⟨q, hq, hl⟩ := h4 x hx
        exact ⟨q, by omega, hl⟩
theorem Lv.lt {t : Sh} {n i k : Nat} (ht : Tr t n) (h : Lv t i k) : k < n := by
  obtain ⟨l, h1, h2, h3, _⟩ := h.line ht
  have := nodup_len h2 h3
  omega
/-- Going down by a choice. -/
def path (t : Sh) (c : Nat → Bool) : Nat → Nat → List Nat
  | 0, i => [i]
  | f + 1, i => if t.K i = true then i :: path t c f (if c i = true then t.A i else t.B i) else [i]
def way (t : Sh) (c : Nat → Bool) (n : Nat) : List Nat := path t c (n - 1) 0
theorem path_leaf {t : Sh} {c : Nat → Bool} {f i : Nat} (h : t.K i = false) : path t c f i = [i] := by
  cases f with
  | zero => rfl
  | succ f => rw [path, if_neg (by rw [h]; simp)]
theorem path_inner {t : Sh} {c : Nat → Bool} {f i : Nat} (h : t.K i = true) : path t c (f + 1) i = i :: path t c f (if c i = true then t.A i else t.B i) := by
  rw [path, if_pos h]
theorem Lv.next {t : Sh} {i k : Nat} (c : Nat → Bool) (h : Lv t i k) (hk : t.K i = true) : Lv t (if c i = true then t.A i else t.B i) (k + 1) := by
  split
  · exact .left h hk
  · exact .right h hk
theorem path_end {t : Sh} {n : Nat} (ht : Tr t n) (c : Nat → Bool) : ∀ (f i k : Nat), Lv t i k → n ≤ f + k + 1 → ∃ e l, path t c f i = l ++ [e] ∧ t.K e = false ∧ Rch t e ∧ (path t c f i).length + k ≤ n
  | 0, i, k, h, hf => by
    have hk := h.lt ht
    cases hK : t.K i
    · exact ⟨i, [], rfl, hK, h.rch, by simp [path]; omega⟩
    · have := (h.next c hK).lt ht; omega
  | f + 1, i, k, h, hf => by
    have hk := h.lt ht
    cases hK : t.K i
    · exact ⟨i, [], path_leaf hK, hK, h.rch, by rw [path_leaf hK]; simp; omega⟩
    · obtain ⟨e, l, h1, h2, h3, h4⟩ := path_end ht c f _ (k + 1) (h.next c hK) (by omega)
      refine ⟨e, i :: l, by rw [path_inner hK, h1]; rfl, h2, h3, ?_⟩
      rw [path_inner hK, List.length_cons]; omega
theorem way_end {t : Sh} {n : Nat} (ht : Tr t n) (c : Nat → Bool) : ∃ e l, way t c n = l ++ [e] ∧ t.K e = false ∧ Rch t e ∧ (way t c n).length ≤ n := by
  obtain ⟨e, l, h1, h2, h3, h4⟩ := path_end ht c (n - 1) 0 0 .zero (by have := ht.wi.1; omega)
  exact ⟨e, l, h1, h2, h3, by unfold way; omega⟩
/-- In a right tree all numbers are met. -/
theorem ord_all {t : Sh} {n i : Nat} (ht : Tr t n) (h : i < n) : i ∈ ord t n := (ord_mem ht.wi i).2 (ht.re i h)
end Go.Proofs.YtodegcobkngmlaaGreatDoor
set_option linter.unusedVariables false
set_option linter.unusedSimpArgs false
namespace Go.Proofs.YtodegcobkngmlaaGreatDoor
theorem revInd {P : List Nat → Prop} (h0 : P []) (h1 : ∀ p i, P p → P (p ++ [i])) (l : List Nat) : P l := by
  have h : ∀ r : List Nat, P r.reverse := by
    intro r
    induction r with
    | nil => simpa using h0
    | cons x r ih => rw [List.reverse_cons]; exact h1 _ _ ih
  simpa using h l.reverse
/-- Each number that is met stands behind the one that it lies below. -/
theorem go_par {t : Sh} {n : Nat} (ht : Tr t n) : ∀ (f : Nat) (out S : List Nat), Way t n out S → Str t n out S →
    (∀ p i q, out = p ++ i :: q → i = 0 ∨ ∃ j ∈ p, t.K j = true ∧ (t.A j = i ∨ t.B j = i)) → ∀ p i q, go t f out S = p ++ i :: q → i = 0 ∨ ∃ j ∈ p, t.K j = true ∧ (t.A j = i ∨ t.B j = i)
  | 0, out, S, w, s, h => by intro p i q e; rw [go] at e; exact h p i q e
  | f + 1, out, [], w, s, h => by intro p i q e; rw [go] at e; exact h p i q e
  | f + 1, out, x :: S, w, s, h => by
    rw [go, if_neg s.fresh]
    refine go_par ht f _ _ (w.new ht.wi s.fresh) (s.next ht w) ?_
    intro p i q e
    rcases List.append_eq_append_iff.1 e with ⟨c, e1, e2⟩ | ⟨c, e1, e2⟩
    · cases c with
      | nil =>
        simp at e2
        obtain ⟨rfl, rfl⟩ := e2
        simp at e1
        subst e1
        have := s.pa _ (List.mem_append_right _ List.mem_cons_self)
        rcases this with h0 | ⟨j, hj, hk, hc⟩
        · exact .inl h0
        · exact .inr ⟨j, hj, hk, hc⟩
      | cons y c => simp at e2
    · cases c with
      | nil =>
        simp at e2
        obtain ⟨rfl, rfl⟩ := e2
        simp at e1
        subst e1
        have := s.pa _ (List.mem_append_right _ List.mem_cons_self)
        rcases this with h0 | ⟨j, hj, hk, hc⟩
        · exact .inl h0
        · exact .inr ⟨j, hj, hk, hc⟩
      | cons y c =>
        simp at e2
        obtain ⟨rfl, e2⟩ := e2
        exact h p i c e1
theorem ord_par {t : Sh} {n : Nat} (ht : Tr t n) (p : List Nat) (i : Nat) (q : List Nat) (e : ord t n = p ++ i :: q) : i = 0 ∨ ∃ j ∈ p, t.K j = true ∧ (t.A j = i ∨ t.B j = i) :=
  go_par ht _ _ _ (Way.start ht.wi) (Str.start t n) (by intro p i q e; simp at e) p i q e
/-- One step of the program's Depth. -/
def dstep (t : Sh) (X : List Nat × Nat) (i : Nat) : List Nat × Nat :=
  (if t.K i = true then (X.1.set (t.A i) (X.1.getD i 0 + 1)).set (t.B i) (X.1.getD i 0 + 1) else X.1, max X.2 (X.1.getD i 0))
def dfold (t : Sh) (n : Nat) (p : List Nat) : List Nat × Nat := p.foldl (dstep t) (List.replicate n 0, 0)
theorem dfold_app (t : Sh) (n : Nat) (p : List Nat) (i : Nat) : dfold t n (p ++ [i]) = dstep t (dfold t n p) i := by simp [dfold]
theorem dfold_len (t : Sh) (n : Nat) (p : List Nat) : (dfold t n p).1.length = n := by
  induction p using revInd with
  | h0 => simp [dfold]
  | h1 p i ih => rw [dfold_app]; unfold dstep; split <;> simp [ih]
theorem getD_set (l : List Nat) (i j v : Nat) : (l.set i v).getD j 0 = if i = j ∧ j < l.length then v else l.getD j 0 := by
  simp only [List.getD, List.getElem?_set]
  by_cases e : i = j
  · subst e
    by_cases h : i < l.length
    · simp [h]
    · simp [h]
  · simp [e]
/-- What the reckoned depths are. -/
structure DI (t : Sh) (n : Nat) (p : List Nat) : Prop where
  x : ∀ j, j < n → (j = 0 ∨ ∃ i ∈ p, t.K i = true ∧ (t.A i = j ∨ t.B i = j)) → Lv t j ((dfold t n p).1.getD j 0)
  up : ∀ i ∈ p, ∀ k, Lv t i k → k ≤ (dfold t n p).2
  at' : (dfold t n p).2 = 0 ∨ ∃ i ∈ p, Lv t i (dfold t n p).2
theorem DI.start {t : Sh} {n : Nat} (ht : Tr t n) : DI t n [] := by
  refine ⟨?_, by simp, .inl (by simp [dfold])⟩
  intro j hj h
  rcases h with rfl | ⟨i, hi, _⟩
  · simp only [dfold, List.foldl_nil, List.getD]
    rw [List.getElem?_replicate, if_pos hj]
    exact .zero
  · simp at hi
theorem DI.next {t : Sh} {n : Nat} (ht : Tr t n) {p : List Nat} {i : Nat} (hi : i < n) (hp : i = 0 ∨ ∃ j ∈ p, t.K j = true ∧ (t.A j = i ∨ t.B j = i)) (h : DI t n p) : DI t n (p ++ [i]) := by
  have hlv := h.x i hi hp
  have hlen := dfold_len t n p
  refine ⟨?_, ?_, ?_⟩
  · intro j hj hc
    rw [dfold_app]
    unfold dstep
    simp only
    by_cases hk : t.K i = true
    · rw [if_pos hk, getD_set, getD_set]
      by_cases e1 : t.B i = j
      · rw [if_pos ⟨e1, by simp [hlen]; exact hj⟩, ← e1]; exact .right hlv hk
      · rw [if_neg (fun q => e1 q.1)]
        by_cases e2 : t.A i = j
        · rw [if_pos ⟨e2, by rw [hlen]; exact hj⟩, ← e2]; exact .left hlv hk
        · rw [if_neg (fun q => e2 q.1)]
          refine h.x j hj ?_
          rcases hc with h0 | ⟨m, hm, hkm, hcm⟩
          · exact .inl h0
          · rcases List.mem_append.1 hm with hm | hm
            · exact .inr ⟨m, hm, hkm, hcm⟩
            · simp at hm
              subst hm
              rcases hcm with q | q
              · exact absurd q e2
              · exact absurd q e1
    · rw [if_neg hk]
      refine h.x j hj ?_
      rcases hc with h0 | ⟨m, hm, hkm, hcm⟩
      · exact .inl h0
      · rcases List.mem_append.1 hm with hm | hm
        · exact .inr ⟨m, hm, hkm, hcm⟩
        · simp at hm
          subst hm
          exact absurd hkm hk
  · intro m hm k hl
    rw [dfold_app]
    unfold dstep
    simp only
    rcases List.mem_append.1 hm with hm | hm
    · have := h.up m hm k hl; omega
    · simp at hm
      subst hm
      have := Lv.one ht _ _ _ hl hlv
      omega
  · rw [dfold_app]
    unfold dstep
    simp only
    by_cases hc : (dfold t n p).1.getD i 0 ≤ (dfold t n p).2
    · rw [Nat.max_eq_left hc]
      rcases h.at' with h0 | ⟨m, hm, hl⟩
      · exact .inl h0
      · exact .inr ⟨m, List.mem_append_left _ hm, hl⟩
    · rw [Nat.max_eq_right (by omega)]
      exact .inr ⟨i, by simp, hlv⟩
/-- The greatest depth of a right tree. -/
def dep (t : Sh) (n : Nat) : Nat := (dfold t n (ord t n)).2
theorem DI.all {t : Sh} {n : Nat} (ht : Tr t n) : ∀ p q, ord t n = p ++ q → DI t n p := by
  intro p
  induction p using revInd with
  | h0 => intro q _; exact .start ht
  | h1 p i ih =>
    intro q e
    have e' : ord t n = p ++ i :: q := by simpa using e
    exact (ih (i :: q) e').next ht (ord_lt ht.wi i (by rw [e']; simp)) (ord_par ht p i q e')
/-- The greatest depth is that of a leaf. -/
theorem dep_leaf {t : Sh} {n R : Nat} (ht : Tr t n) (h1 : ∀ i, i < n → t.K i = false → ∀ k, Lv t i k → k ≤ R) (h2 : R = 0 ∨ ∃ i, i < n ∧ Lv t i R) : dep t n = R := by
  have hD := DI.all ht (ord t n) [] (by simp)
  apply Nat.le_antisymm
  · rcases hD.at' with h0 | ⟨i, hi, hl⟩
    · unfold dep; omega
    · have hin := ord_lt ht.wi i hi
      cases hk : t.K i
      · exact h1 i hin hk _ hl
      · have hc := Lv.left hl hk
        have := hD.up _ (ord_all ht (hc.rch.lt ht.wi)) _ hc
        omega
  · rcases h2 with h0 | ⟨i, hi, hl⟩
    · omega
    · exact hD.up i (ord_all ht hi) _ hl
end Go.Proofs.YtodegcobkngmlaaGreatDoor
set_option linter.unusedVariables false
set_option linter.unusedSimpArgs false
namespace Go.Proofs.YtodegcobkngmlaaGreatDoor
open Go.RowKit Go.Shelf
/-- A vector too short for a question. -/
def lackB (L : List Nd) (m : Nat) : Bool := L.any fun n => decide ((n.kd = 2 ∨ n.kd = 3) ∧ (m : Int) ≤ n.ft)
theorem lackB_yes {L : List Nd} {m k : Nat} (hk : k < L.length) (h : ((L.getD k nd0).kd = 2 ∨ (L.getD k nd0).kd = 3) ∧ (m : Int) ≤ (L.getD k nd0).ft) : lackB L m = true := by
  unfold lackB
  rw [List.any_eq_true]
  refine ⟨L.getD k nd0, ?_, decide_eq_true h⟩
  simp [List.getD, hk]
theorem lackB_no {L : List Nd} {m : Nat} (h : ∀ k, k < L.length → ¬ (((L.getD k nd0).kd = 2 ∨ (L.getD k nd0).kd = 3) ∧ (m : Int) ≤ (L.getD k nd0).ft)) : lackB L m = false := by
  unfold lackB
  rw [List.any_eq_false]
  intro n hn
  obtain ⟨i, hi, rfl⟩ := List.getElem_of_mem hn
  have := h i hi
  simp only [List.getD, List.getElem?_eq_getElem hi, Option.getD_some] at this
  simpa using this
theorem lackB_ft {L : List Nd} {m k : Nat} (h : lackB L m = false) (hk : k < L.length) (hi : (shp L).K k = true) : (L.getD k nd0).ft < (m : Int) := by
  simp only [shp, decide_eq_true_eq] at hi
  rcases Int.lt_or_le (L.getD k nd0).ft m with q | q
  · exact q
  · rw [lackB_yes hk ⟨hi, q⟩] at h; cases h
end Go.Proofs.YtodegcobkngmlaaGreatDoor
set_option linter.unusedVariables false
set_option linter.unusedSimpArgs false
namespace Go.Proofs.YtodegcobkngmlaaGreatDoor
open Go.RowKit Go.Shelf
/-- Numbers that can be read, by their bits. -/
def RdF (w : World) (a : Option Addr) (l : List Nat) : Prop :=
  ∀ j, j < l.length → ∃ b o, a = some ⟨b, o, none⟩ ∧ w.cell? ⟨b, o + j, none⟩ = some (.float .f64 (l.getD j 0))
theorem RdF.keep {w w' : World} {a : Option Addr} {l : List Nat} (h : RdF w a l) (k : Keep w w') : RdF w' a l := by
  intro j hj
  obtain ⟨b, o, e, hc⟩ := h j hj
  exact ⟨b, o, e, k.cell hc⟩
/-- Where a vector goes on. -/
def nxt (n : Nd) (xs : List Nat) : Int := if gsS n (xs.getD n.ft.toNat 0) = 1 then n.lf else n.rt
end Go.Proofs.YtodegcobkngmlaaGreatDoor
set_option linter.unusedVariables false
set_option linter.unusedSimpArgs false
namespace Go.Proofs.YtodegcobkngmlaaGreatDoor
open Go.RowKit Go.Shelf
attribute [local go_sem] Oper.semAt_some
theorem misF_zero {L : List Nd} : ∀ (f k : Nat), 0 < k → misF L f k = 0 → ∀ i, k ≤ i → i < k + f → misB L i = false
  | 0, k, _, _, i, h1, h2 => by omega
  | f + 1, k, hk, h, i, h1, h2 => by
    rw [misF] at h
    split at h
    · omega
    · rename_i hb
      by_cases e : i = k
      · subst e; simpa using hb
      · exact misF_zero f (k + 1) (by omega) h i (by omega) (by omega)
/-- Shape is content: it is a right tree. -/
theorem shE_tr {L : List Nd} (h : shE L = 0) : Tr (shp L) L.length := by
  have hR := shE_rgt h
  have hm : misF L (L.length - 1) 1 = 0 := by
    unfold shE at h
    split at h
    · cases h
    · cases hb : badF L L.length 0 with
      | some i => rw [hb] at h; cases h
      | none =>
        rw [hb] at h
        simp only at h
        split at h
        · assumption
        · cases h
  have hB : ∀ i, 0 < i → i < L.length → cnt (shp L) i L.length = 1 ∧ i ∈ ord (shp L) L.length := by
    intro i h1 h2
    have := misF_zero _ _ (by omega) hm i (by omega) (by omega)
    unfold misB at this
    simpa using this
  refine ⟨hR.wi, fun i hi hk => ?_, fun j h1 h2 => (hB j h1 h2).1, fun j hj => ?_⟩
  · have := hR.kids hi hk
    omega
  · by_cases e : j = 0
    · subst e; exact .zero
    · exact (ord_mem hR.wi j).1 (hB j (by omega) hj).2
/-- The choice of a vector at a node. -/
def chs (L : List Nd) (xs : List Nat) (i : Nat) : Bool := decide (gsS (L.getD i nd0) (xs.getD (L.getD i nd0).ft.toNat 0) = 1)
/-- What the iterator holds between two rounds. -/
structure Dwn (L : List Nd) (xs : List Nat) (w0 : World) (Bl Bx : Nat) (a ax : Option Addr) (cap cx : Nat) (J : List (Fin L.length) → (Nat → Prop) → World → Prop) (f : Nat) (wr : World) (out : List (Fin L.length)) (i : Nat) (T : Nat → Prop) : Prop where
  BlT : T Bl
  BxT : T Bx
  lt : ∀ g, T g → w0.heap.size ≤ g ∧ g < wr.heap.size
  j : J out T wr
  lv : Lv (shp L) i out.length
  eq : nums out ++ path (shp L) (chs L xs) (L.length - 1 - out.length) i = way (shp L) (chs L xs) L.length
  fuel : L.length ≤ f + out.length
  be : Keep w0 wr
  bl : wr.cell? ⟨Bl, 0, none⟩ = some (.slice a L.length cap)
  bx : wr.cell? ⟨Bx, 0, none⟩ = some (.slice ax xs.length cx)
theorem Rgt.ft {L : List Nd} (h : Rgt L) {i : Nat} (hi : i < L.length) (hk : (shp L).K i = true) : 0 ≤ (L.getD i nd0).ft := by
  have hr := h.2 i hi
  simp only [shp, decide_eq_true_eq] at hk
  generalize L.getD i nd0 = n at *
  unfold rightB spl at hr
  rcases hk with hk | hk
  · rw [if_neg (by omega), if_pos hk] at hr
    simp only [Bool.and_eq_true, decide_eq_true_eq] at hr
    omega
  · rw [if_neg (by omega), if_neg (by omega), if_pos hk] at hr
    simp only [Bool.and_eq_true, decide_eq_true_eq] at hr
    omega
theorem nxt_chs {L : List Nd} (h : Rgt L) {i : Nat} (xs : List Nat) (hi : i < L.length) (hk : (shp L).K i = true) : nxt (L.getD i nd0) xs = ((if chs L xs i = true then (shp L).A i else (shp L).B i : Nat) : Int) := by
  obtain ⟨⟨e6, l6, p6⟩, ⟨e7, l7, p7⟩⟩ := h.kids hi hk
  unfold nxt chs
  by_cases q : gsS (L.getD i nd0) (xs.getD (L.getD i nd0).ft.toNat 0) = 1
  · rw [if_pos q, if_pos (decide_eq_true q)]; exact e6
  · rw [if_neg q, if_neg (by rw [decide_eq_false q]; simp)]; exact e7
theorem Keep.stp {T : Nat → Prop} {A B : World} (h : Keep A B) : Stp T A B := ⟨h.os, h.tape, h.output, h.size, fun g hg _ => h.block g hg⟩
end Go.Proofs.YtodegcobkngmlaaGreatDoor
set_option linter.unusedVariables false
set_option linter.unusedSimpArgs false
namespace Go.Proofs.YtodegcobkngmlaaGreatDoor
open Go.RowKit Go.Shelf
attribute [local go_sem] Oper.semAt_some
/-- A list that is gathered in a box while an iterator runs. -/
structure ColR (Bl Bs R : Nat) (w3 : World) (l : List Nat) (T : Nat → Prop) (W : World) : Prop where
  box : ∃ v, W.heap[Bl]? = some (.cells #[v] 69 (0, 0)) ∧ OwnI W v l ∧ ∀ b, v.ownBlock = some b → ¬ T b ∧ R + 2 ≤ b
  tb : ∀ g, T g → Bs ≤ g ∧ g < W.heap.size
  be : Below Bl w3 W
  sz : R ≤ W.heap.size
theorem ColR.st {Bl Bs R : Nat} {w3 : World} {l : List Nat} {T : Nat → Prop} {A B : World} (hB : Bl < Bs) (hBR : Bs ≤ R) (h : ColR Bl Bs R w3 l T A) (hst : Stp T A B) : ColR Bl Bs R w3 l (more T A B) B := by
  obtain ⟨⟨v, h1, h2, h3⟩, h4, h5, h6⟩ := h
  have kp : ∀ g, g < Bs → g < A.heap.size → B.heap[g]? = A.heap[g]? := fun g hg hz => hst.block g hz (fun h => by have := h4 g h; omega)
  refine ⟨⟨v, ?_, ?_, ?_⟩, ?_, ?_, by have := hst.size; omega⟩
  · rw [kp Bl hB (by omega)]; exact h1
  · refine h2.same (fun b hb => ?_)
    obtain ⟨cur, hc⟩ := h2.block hb
    exact hst.block b (Array.getElem?_eq_some_iff.1 hc).1 (h3 b hb).1
  · intro b hb
    obtain ⟨cur, hc⟩ := h2.block hb
    have hlt := (Array.getElem?_eq_some_iff.1 hc).1
    refine ⟨?_, (h3 b hb).2⟩
    rintro (h | h)
    · exact (h3 b hb).1 h
    · omega
  · rintro g (h | h)
    · have := h4 g h; have := hst.size; omega
    · omega
  · exact ⟨hst.os.trans h5.os, hst.tape.trans h5.tape, hst.output.trans h5.output, by have := hst.size; have := h5.size; omega, fun g hg => (kp g (by omega) (by omega)).trans (h5.block g hg)⟩
theorem ColR.put {Bl Bs R : Nat} {w3 : World} {l : List Nat} {T : Nat → Prop} {A : World} {r : Nat} {o' : Obj} (hB : Bl < Bs) (hBR : Bs ≤ R) (h : ColR Bl Bs R w3 l T A) (h1 : R ≤ r) (h2 : r < R + 2) : ColR Bl Bs R w3 l T (A.putObj r o') := by
  obtain ⟨⟨v, q1, q2, q3⟩, q4, q5, q6⟩ := h
  have kp : ∀ g, g ≠ r → (A.putObj r o').heap[g]? = A.heap[g]? := fun g hg => World.putObj_heap_other hg
  refine ⟨⟨v, ?_, ?_, q3⟩, by simpa using q4, ?_, by simpa using q6⟩
  · rw [kp _ (by omega)]; exact q1
  · exact q2.same (fun b hb => kp b (by have := (q3 b hb).2; omega))
  · exact ⟨q5.os, q5.tape, q5.output, by simpa using q5.size, fun g hg => (kp g (by omega)).trans (q5.block g hg)⟩
/-- One more. -/
theorem ColR.app {Bl Bs R : Nat} {w3 : World} {l : List Nat} {T : Nat → Prop} {A B : World} {o : Obj} {v v' : Value} {x : Nat} (hB : Bl < Bs) (hBR : Bs ≤ R) (h : ColR Bl Bs R w3 l T A) (hz : R + 2 ≤ A.heap.size) (hbox : A.heap[Bl]? = some (.cells #[v] 69 (0, 0))) (hv3 : ∀ b, v.ownBlock = some b → ¬ T b ∧ R + 2 ≤ b)
    (ho : OwnI B v' (l ++ [x])) (hgr : (A.alloc o).grownBy B v.ownBlock) (hsep : v'.ownBlock = v.ownBlock ∨ v'.ownBlock = some (A.heap.size + 1)) :
    ColR Bl Bs R w3 (l ++ [x]) T (B.setCell ⟨Bl, 0, none⟩ v') ∧ (∀ g, g < A.heap.size → g ≠ Bl → v.ownBlock ≠ some g → (B.setCell ⟨Bl, 0, none⟩ v').heap[g]? = A.heap[g]?) ∧ B.cell? ⟨Bl, 0, none⟩ = some v ∧ B.frozen? ⟨Bl, 0, none⟩ = false ∧ A.heap.size ≤ B.heap.size := by
  have hb : Below A.heap.size A (A.alloc o) := (Below.refl A.heap.size A).alloc (Nat.le_refl _) o
  have kB : ∀ g, g < A.heap.size → v.ownBlock ≠ some g → B.heap[g]? = A.heap[g]? := fun g hg hne => by rw [hgr.block g (Nat.lt_of_lt_of_le hg hb.size) (fun e => hne e.symm), hb.block g hg]
  have hBl : v.ownBlock ≠ some Bl := fun e => by have := (hv3 Bl e).2; omega
  have boxB : B.heap[Bl]? = some (.cells #[v] 69 (0, 0)) := by rw [kB Bl (by omega) hBl]; exact hbox
  have szB : A.heap.size ≤ B.heap.size := Nat.le_trans hb.size hgr.size
  have ne := neq_set B Bl 0 v'
  have vlt : ∀ b, v'.ownBlock = some b → ¬ T b ∧ R + 2 ≤ b := by
    intro b e
    rcases hsep with e2 | e2
    · rw [e2] at e; exact hv3 b e
    · rw [e2] at e
      simp only [Option.some.injEq] at e
      subst e
      exact ⟨fun h' => by have := h.tb _ h'; omega, by omega⟩
  refine ⟨⟨⟨v', ?_, ?_, vlt⟩, fun g hg => by have := h.tb g hg; simp; omega, ?_, by simp; omega⟩, ?_, ?_, ?_, szB⟩
  · exact heap_setCell_same B Bl 0 _ 69 v' boxB
  · exact ho.same (fun b e => ne b (by have := (vlt b e).2; omega))
  · have h5 := h.be
    exact ⟨hgr.os.trans (hb.os.trans h5.os), hgr.tape.trans (hb.tape.trans h5.tape), hgr.output.trans (hb.output.trans h5.output), by have := h5.size; simp; omega, fun g hg => by rw [ne g (by omega), kB g (by omega) (fun e => by have := (hv3 g e).2; omega)]; exact h5.block g hg⟩
  · intro g hg h1 h2; rw [ne g h1]; exact kB g hg h2
  · rw [cell_of_row B Bl 0 _ 69 (0, 0) boxB]; rfl
  · exact frozen_of_row B Bl 0 _ 69 boxB
/-- What Way answers. -/
def wyE (L : List Nd) (m : Nat) : Int := if shE L = 0 then (if lackB L m then 72 else 0) else shE L
def wyL (L : List Nd) (xs : List Nat) : List Nat := if wyE L xs.length = 0 then way (shp L) (chs L xs) L.length else []
theorem news1 (W : World) (x : Nat) : ∀ j u, (UI [x])[j]? = some u → (W.alloc (Obj.cells #[Value.int .i64 (x : Nat)] 3)).cell? ((⟨W.heap.size, 0, none⟩ : Addr).add j) = some u := by
  intro j u hj
  match j, hj with
  | 0, hj => simp [UI] at hj; subst hj; simp [Addr.add]
  | j + 1, hj => simp [UI] at hj
/-- Three new boxes. -/
theorem boxes3 (w : World) (u v x : Value) (t1 t2 t3 : Nat) : ∃ w4, ((w.alloc (Obj.cells #[u] t1)).alloc (Obj.cells #[v] t2)).alloc (Obj.cells #[x] t3) = w4 ∧ Keep w w4 ∧ w4.heap.size = w.heap.size + 3 ∧
    w4.heap[w.heap.size]? = some (Obj.cells #[u] t1 (0, 0)) ∧ w4.heap[w.heap.size + 1]? = some (Obj.cells #[v] t2 (0, 0)) ∧ w4.heap[w.heap.size + 1 + 1]? = some (Obj.cells #[x] t3 (0, 0)) := by
  refine ⟨_, rfl, (((Keep.refl w).alloc _).alloc _).alloc _, by simp, ?_, ?_, ?_⟩
  · exact (Below.heap_alloc _ _ _ (by simp; omega)).trans ((Below.heap_alloc _ _ _ (by simp)).trans (heap_alloc_new w _))
  · have := heap_alloc_new (w.alloc (Obj.cells #[u] t1)) (Obj.cells #[v] t2)
    rw [World.size_alloc] at this
    exact (Below.heap_alloc _ _ _ (by simp)).trans this
  · have := heap_alloc_new ((w.alloc (Obj.cells #[u] t1)).alloc (Obj.cells #[v] t2)) (Obj.cells #[x] t3)
    rw [World.size_alloc, World.size_alloc] at this
    exact this
end Go.Proofs.YtodegcobkngmlaaGreatDoor
