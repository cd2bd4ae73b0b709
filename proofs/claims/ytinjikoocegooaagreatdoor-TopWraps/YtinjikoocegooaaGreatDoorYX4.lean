import Derived.Test.YtinjikoocegooaaGreatDoorProg
import Derived.Test.YtinjikoocegooaaGreatDoorYT5
import Derived.Test.YtinjikoocegooaaGreatDoorYV1
import Derived.WalkKit
import Derived.WalkSpells
import Derived.WalkLawsBesides
import Derived.Deep.Draws
import Derived.Deep.QuietTactic
import Derived.BigQuiet
import Derived.Laws.Externs
import Derived.Laws.CopyOwn
import Derived.RangeFuncBox
import Derived.RangeFuncLeaves
import Derived.RangeFuncCalls
import Derived.RangeFuncRecord
import Derived.Below
import Derived.Shelf.Abstract
import Derived.OwnWalkIn
import Derived.TacticsInMore
import Derived.LoopNIn
import Derived.LoopIn
import Derived.Sort.LoopGhostIn
import Derived.Deep.RegionLaw
import Derived.Deep.RegionWith
import Derived.Deep.RegionHeld3
import Derived.Stop.RegionWithIn
set_option linter.unusedVariables false
set_option linter.unusedSimpArgs false
namespace Go.Proofs.YtinjikoocegooaaGreatDoor
/-- Node i lies so many inner nodes below node 0. -/
inductive Lv (t : Sh) : Nat → Nat → Prop
  | zero : Lv t 0 0
  | left {i k : Nat} : Lv t i k → t.K i = true → Lv t (t.A i) (k + 1)
  | right {i k : Nat} : Lv t i k → t.K i = true → Lv t (t.B i) (k + 1)
theorem Lv.rch {t : Sh} {i k : Nat} (h : Lv t i k) : Rch t i := by
  induction h with
  | zero => exact .zero
  | left _ hk ih => exact .left ih hk
  | right _ hk ih => exact .right ih hk
theorem Lv.inv {t : Sh} {j m : Nat} (h : Lv t j m) : (j = 0 ∧ m = 0) ∨ ∃ i k, m = k + 1 ∧ Lv t i k ∧ t.K i = true ∧ (t.A i = j ∨ t.B i = j) := by
  cases h with
  | zero => exact .inl ⟨rfl, rfl⟩
  | left h hk => exact .inr ⟨_, _, rfl, h, hk, .inl rfl⟩
  | right h hk => exact .inr ⟨_, _, rfl, h, hk, .inr rfl⟩
theorem Lv.one {t : Sh} {n : Nat} (ht : Tr t n) : ∀ (m k j : Nat), Lv t j m → Lv t j k → m = k := by
  intro m
  induction m with
  | zero =>
    intro k j h1 h2
    rcases h1.inv with ⟨rfl, _⟩ | ⟨i, q, e, _⟩
    · rcases h2.inv with ⟨_, e⟩ | ⟨i, q, rfl, hl, hk, hc⟩
      · exact e.symm
      · have := ht.z i (hl.rch.lt ht.wi) hk
        rcases hc with h | h
        · exact absurd h this.1
        · exact absurd h this.2
    · cases e
  | succ m ih =>
    intro k j h1 h2
    rcases h1.inv with ⟨_, e⟩ | ⟨i, q, e, hl, hk, hc⟩
    · cases e
    · simp only [Nat.add_right_cancel_iff] at e
      subst e
      have hi := hl.rch.lt ht.wi
      have hz := ht.z i hi hk
      have hj0 : j ≠ 0 := by rcases hc with h | h; exact h ▸ hz.1; exact h ▸ hz.2
      rcases h2.inv with ⟨e, _⟩ | ⟨i2, q2, rfl, hl2, hk2, hc2⟩
      · exact absurd e hj0
      · have := ht.par (Nat.pos_of_ne_zero hj0) (h1.rch.lt ht.wi) hi (hl2.rch.lt ht.wi) hk hk2 hc hc2
        subst this
        rw [ih q2 i hl hl2]
theorem Lv.line {t : Sh} {n i k : Nat} (ht : Tr t n) (h : Lv t i k) : ∃ l : List Nat, l.length = k + 1 ∧ l.Nodup ∧ (∀ x ∈ l, x < n) ∧ ∀ x ∈ l, ∃ q, q ≤ k ∧ Lv t x q := by
  induction h with
  | zero => exact ⟨[0], rfl, by simp, by simpa using ht.wi.1, by intro x hx; simp at hx; subst hx; exact ⟨0, Nat.le_refl _, .zero⟩⟩
  | @left i k h hk ih =>
    obtain ⟨l, h1, h2, h3, h4⟩ := ih
    have hn : Lv t (t.A i) (k + 1) := .left h hk
    refine ⟨t.A i :: l, by simp [h1], ?_, ?_, ?_⟩
    · rw [List.nodup_cons]
      refine ⟨fun hm => ?_, h2⟩
      obtain ⟨q, hq, hl⟩ := h4 _ hm
      have := Lv.one ht _ _ _ hl hn
      omega
    · intro x hx
      rcases List.mem_cons.1 hx with rfl | hx
      · exact hn.rch.lt ht.wi
      · exact h3 x hx
    · intro x hx
      rcases List.mem_cons.1 hx with rfl | hx
      · exact ⟨_, Nat.le_refl _, hn⟩
      · obtain ⟨q, hq, hl⟩ := h4 x hx
        exact ⟨q, by omega, hl⟩
  | @right i k h hk ih =>
    obtain ⟨l, h1, h2, h3, h4⟩ := ih
    have hn : Lv t (t.B i) (k + 1) := .right h hk
    refine ⟨t.B i :: l, by simp [h1], ?_, ?_, ?_⟩
    · rw [List.nodup_cons]
      refine ⟨fun hm => ?_, h2⟩
      obtain ⟨q, hq, hl⟩ := h4 _ hm
      have := Lv.one ht _ _ _ hl hn
      omega
    · intro x hx
      rcases List.mem_cons.1 hx with rfl | hx
      · exact hn.rch.lt ht.wi
      · exact h3 x hx
    · intro x hx
      rcases List.mem_cons.1 hx with rfl | hx
      · exact ⟨_, Nat.le_refl _, hn⟩
      · obtain ⟨q, hq, hl⟩ := h4 x hx
        exact ⟨q, by omega, hl⟩
theorem Lv.lt {t : Sh} {n i k : Nat} (ht : Tr t n) (h : Lv t i k) : k < n := by
  obtain ⟨l, h1, h2, h3, _⟩ := h.line ht
  have := nodup_len h2 h3
  omega
/-- Going down by a choice. -/
def path (t : Sh) (c : Nat → Bool) : Nat → Nat → List Nat
  | 0, i => [i]
  | f + 1, i => if t.K i = true then i :: path t c f (if c i = true then t.A i else t.B i) else [i]
def way (t : Sh) (c : Nat → Bool) (n : Nat) : List Nat := path t c (n - 1) 0
theorem path_leaf {t : Sh} {c : Nat → Bool} {f i : Nat} (h : t.K i = false) : path t c f i = [i] := by
  cases f with
  | zero => rfl
  | succ f => rw [path, if_neg (by rw [h]; simp)]
theorem path_inner {t : Sh} {c : Nat → Bool} {f i : Nat} (h : t.K i = true) : path t c (f + 1) i = i :: path t c f (if c i = true then t.A i else t.B i) := by
  rw [path, if_pos h]
theorem Lv.next {t : Sh} {i k : Nat} (c : Nat → Bool) (h : Lv t i k) (hk : t.K i = true) : Lv t (if c i = true then t.A i else t.B i) (k + 1) := by
  split
  · exact .left h hk
  · exact .right h hk
theorem path_end {t : Sh} {n : Nat} (ht : Tr t n) (c : Nat → Bool) : ∀ (f i k : Nat), Lv t i k → n ≤ f + k + 1 → ∃ e l, path t c f i = l ++ [e] ∧ t.K e = false ∧ Rch t e ∧ (path t c f i).length + k ≤ n
  | 0, i, k, h, hf => by
    have hk := h.lt ht
    cases hK : t.K i
    · exact ⟨i, [], rfl, hK, h.rch, by simp [path]; omega⟩
    · have := (h.next c hK).lt ht; omega
  | f + 1, i, k, h, hf => by
    have hk := h.lt ht
    cases hK : t.K i
    · exact ⟨i, [], path_leaf hK, hK, h.rch, by rw [path_leaf hK]; simp; omega⟩
    · obtain ⟨e, l, h1, h2, h3, h4⟩ := path_end ht c f _ (k + 1) (h.next c hK) (by omega)
      refine ⟨e, i :: l, by rw [path_inner hK, h1]; rfl, h2, h3, ?_⟩
      rw [path_inner hK, List.length_cons]; omega
theorem way_end {t : Sh} {n : Nat} (ht : Tr t n) (c : Nat → Bool) : ∃ e l, way t c n = l ++ [e] ∧ t.K e = false ∧ Rch t e ∧ (way t c n).length ≤ n := by
  obtain ⟨e, l, h1, h2, h3, h4⟩ := path_end ht c (n - 1) 0 0 .zero (by have := ht.wi.1; omega)
  exact ⟨e, l, h1, h2, h3, by unfold way; omega⟩
/-- In a right tree all numbers are met. -/
theorem ord_all {t : Sh} {n i : Nat} (ht : Tr t n) (h : i < n) : i ∈ ord t n := (ord_mem ht.wi i).2 (ht.re i h)
end Go.Proofs.YtinjikoocegooaaGreatDoor
set_option linter.unusedVariables false
set_option linter.unusedSimpArgs false
namespace Go.Proofs.YtinjikoocegooaaGreatDoor
theorem revInd {P : List Nat → Prop} (h0 : P []) (h1 : ∀ p i, P p → P (p ++ [i])) (l : List Nat) : P l := by
  have h : ∀ r : List Nat, P r.reverse := by
    intro r
    induction r with
    | nil => simpa using h0
    | cons x r ih => rw [List.reverse_cons]; exact h1 _ _ ih
  simpa using h l.reverse
/-- Each number that is met stands behind the one that it lies below. -/
theorem go_par {t : Sh} {n : Nat} (ht : Tr t n) : ∀ (f : Nat) (out S : List Nat), Way t n out S → Str t n out S →
    (∀ p i q, out = p ++ i :: q → i = 0 ∨ ∃ j ∈ p, t.K j = true ∧ (t.A j = i ∨ t.B j = i)) → ∀ p i q, go t f out S = p ++ i :: q → i = 0 ∨ ∃ j ∈ p, t.K j = true ∧ (t.A j = i ∨ t.B j = i)
  | 0, out, S, w, s, h => by intro p i q e; rw [go] at e; exact h p i q e
  | f + 1, out, [], w, s, h => by intro p i q e; rw [go] at e; exact h p i q e
  | f + 1, out, x :: S, w, s, h => by
    rw [go, if_neg s.fresh]
    refine go_par ht f _ _ (w.new ht.wi s.fresh) (s.next ht w) ?_
    intro p i q e
    rcases List.append_eq_append_iff.1 e with ⟨c, e1, e2⟩ | ⟨c, e1, e2⟩
    · cases c with
      | nil =>
        simp at e2
        obtain ⟨rfl, rfl⟩ := e2
        simp at e1
        subst e1
        have := s.pa _ (List.mem_append_right _ List.mem_cons_self)
        rcases this with h0 | ⟨j, hj, hk, hc⟩
        · exact .inl h0
        · exact .inr ⟨j, hj, hk, hc⟩
      | cons y c => simp at e2
    · cases c with
      | nil =>
        simp at e2
        obtain ⟨rfl, rfl⟩ := e2
        simp at e1
        subst e1
        have := s.pa _ (List.mem_append_right _ List.mem_cons_self)
        rcases this with h0 | ⟨j, hj, hk, hc⟩
        · exact .inl h0
        · exact .inr ⟨j, hj, hk, hc⟩
      | cons y c =>
        simp at e2
        obtain ⟨rfl, e2⟩ := e2
        exact h p i c e1
theorem ord_par {t : Sh} {n : Nat} (ht : Tr t n) (p : List Nat) (i : Nat) (q : List Nat) (e : ord t n = p ++ i :: q) : i = 0 ∨ ∃ j ∈ p, t.K j = true ∧ (t.A j = i ∨ t.B j = i) :=
  go_par ht _ _ _ (Way.start ht.wi) (Str.start t n) (by intro p i q e; simp at e) p i q e
/-- One step of the program's Depth. -/
def dstep (t : Sh) (X : List Nat × Nat) (i : Nat) : List Nat × Nat :=
  (if t.K i = true then (X.1.set (t.A i) (X.1.getD i 0 + 1)).set (t.B i) (X.1.getD i 0 + 1) else X.1, max X.2 (X.1.getD i 0))
def dfold (t : Sh) (n : Nat) (p : List Nat) : List Nat × Nat := p.foldl (dstep t) (List.replicate n 0, 0)
theorem dfold_app (t : Sh) (n : Nat) (p : List Nat) (i : Nat) : dfold t n (p ++ [i]) = dstep t (dfold t n p) i := by simp [dfold]
theorem dfold_len (t : Sh) (n : Nat) (p : List Nat) : (dfold t n p).1.length = n := by
  induction p using revInd with
  | h0 => simp [dfold]
  | h1 p i ih => rw [dfold_app]; unfold dstep; split <;> simp [ih]
theorem getD_set (l : List Nat) (i j v : Nat) : (l.set i v).getD j 0 = if i = j ∧ j < l.length then v else l.getD j 0 := by
  simp only [List.getD, List.getElem?_set]
  by_cases e : i = j
  · subst e
    by_cases h : i < l.length
    · simp [h]
    · simp [h]
  · simp [e]
/-- What the reckoned depths are. -/
structure DI (t : Sh) (n : Nat) (p : List Nat) : Prop where
  x : ∀ j, j < n → (j = 0 ∨ ∃ i ∈ p, t.K i = true ∧ (t.A i = j ∨ t.B i = j)) → Lv t j ((dfold t n p).1.getD j 0)
  up : ∀ i ∈ p, ∀ k, Lv t i k → k ≤ (dfold t n p).2
  at' : (dfold t n p).2 = 0 ∨ ∃ i ∈ p, Lv t i (dfold t n p).2
theorem DI.start {t : Sh} {n : Nat} (ht : Tr t n) : DI t n [] := by
  refine ⟨?_, by simp, .inl (by simp [dfold])⟩
  intro j hj h
  rcases h with rfl | ⟨i, hi, _⟩
  · simp only [dfold, List.foldl_nil, List.getD]
    rw [List.getElem?_replicate, if_pos hj]
    exact .zero
  · simp at hi
theorem DI.next {t : Sh} {n : Nat} (ht : Tr t n) {p : List Nat} {i : Nat} (hi : i < n) (hp : i = 0 ∨ ∃ j ∈ p, t.K j = true ∧ (t.A j = i ∨ t.B j = i)) (h : DI t n p) : DI t n (p ++ [i]) := by
  have hlv := h.x i hi hp
  have hlen := dfold_len t n p
  refine ⟨?_, ?_, ?_⟩
  · intro j hj hc
    rw [dfold_app]
    unfold dstep
    simp only
    by_cases hk : t.K i = true
    · rw [if_pos hk, getD_set, getD_set]
      by_cases e1 : t.B i = j
      · rw [if_pos ⟨e1, by simp [hlen]; exact hj⟩, ← e1]; exact .right hlv hk
      · rw [if_neg (fun q => e1 q.1)]
        by_cases e2 : t.A i = j
        · rw [if_pos ⟨e2, by rw [hlen]; exact hj⟩, ← e2]; exact .left hlv hk
        · rw [if_neg (fun q => e2 q.1)]
          refine h.x j hj ?_
          rcases hc with h0 | ⟨m, hm, hkm, hcm⟩
          · exact .inl h0
          · rcases List.mem_append.1 hm with hm | hm
            · exact .inr ⟨m, hm, hkm, hcm⟩
            · simp at hm
              subst hm
              rcases hcm with q | q
              · exact absurd q e2
              · exact absurd q e1
    · rw [if_neg hk]
      refine h.x j hj ?_
      rcases hc with h0 | ⟨m, hm, hkm, hcm⟩
      · exact .inl h0
      · rcases List.mem_append.1 hm with hm | hm
        · exact .inr ⟨m, hm, hkm, hcm⟩
        · simp at hm
          subst hm
          exact absurd hkm hk
  · intro m hm k hl
    rw [dfold_app]
    unfold dstep
    simp only
    rcases List.mem_append.1 hm with hm | hm
    · have := h.up m hm k hl; omega
    · simp at hm
      subst hm
      have := Lv.one ht _ _ _ hl hlv
      omega
  · rw [dfold_app]
    unfold dstep
    simp only
    by_cases hc : (dfold t n p).1.getD i 0 ≤ (dfold t n p).2
    · rw [Nat.max_eq_left hc]
      rcases h.at' with h0 | ⟨m, hm, hl⟩
      · exact .inl h0
      · exact .inr ⟨m, List.mem_append_left _ hm, hl⟩
    · rw [Nat.max_eq_right (by omega)]
      exact .inr ⟨i, by simp, hlv⟩
/-- The greatest depth of a right tree. -/
def dep (t : Sh) (n : Nat) : Nat := (dfold t n (ord t n)).2
theorem DI.all {t : Sh} {n : Nat} (ht : Tr t n) : ∀ p q, ord t n = p ++ q → DI t n p := by
  intro p
  induction p using revInd with
  | h0 => intro q _; exact .start ht
  | h1 p i ih =>
    intro q e
    have e' : ord t n = p ++ i :: q := by simpa using e
    exact (ih (i :: q) e').next ht (ord_lt ht.wi i (by rw [e']; simp)) (ord_par ht p i q e')
/-- The greatest depth is that of a leaf. -/
theorem dep_leaf {t : Sh} {n R : Nat} (ht : Tr t n) (h1 : ∀ i, i < n → t.K i = false → ∀ k, Lv t i k → k ≤ R) (h2 : R = 0 ∨ ∃ i, i < n ∧ Lv t i R) : dep t n = R := by
  have hD := DI.all ht (ord t n) [] (by simp)
  apply Nat.le_antisymm
  · rcases hD.at' with h0 | ⟨i, hi, hl⟩
    · unfold dep; omega
    · have hin := ord_lt ht.wi i hi
      cases hk : t.K i
      · exact h1 i hin hk _ hl
      · have hc := Lv.left hl hk
        have := hD.up _ (ord_all ht (hc.rch.lt ht.wi)) _ hc
        omega
  · rcases h2 with h0 | ⟨i, hi, hl⟩
    · omega
    · exact hD.up i (ord_all ht hi) _ hl
end Go.Proofs.YtinjikoocegooaaGreatDoor
set_option linter.unusedVariables false
set_option linter.unusedSimpArgs false
namespace Go.Proofs.YtinjikoocegooaaGreatDoor
open Go.RowKit Go.Shelf
/-- A vector too short for a question. -/
def lackB (L : List Nd) (m : Nat) : Bool := L.any fun n => decide ((n.kd = 2 ∨ n.kd = 3) ∧ (m : Int) ≤ n.ft)
theorem lackB_yes {L : List Nd} {m k : Nat} (hk : k < L.length) (h : ((L.getD k nd0).kd = 2 ∨ (L.getD k nd0).kd = 3) ∧ (m : Int) ≤ (L.getD k nd0).ft) : lackB L m = true := by
  unfold lackB
  rw [List.any_eq_true]
  refine ⟨L.getD k nd0, ?_, decide_eq_true h⟩
  simp [List.getD, hk]
theorem lackB_no {L : List Nd} {m : Nat} (h : ∀ k, k < L.length → ¬ (((L.getD k nd0).kd = 2 ∨ (L.getD k nd0).kd = 3) ∧ (m : Int) ≤ (L.getD k nd0).ft)) : lackB L m = false := by
  unfold lackB
  rw [List.any_eq_false]
  intro n hn
  obtain ⟨i, hi, rfl⟩ := List.getElem_of_mem hn
  have := h i hi
  simp only [List.getD, List.getElem?_eq_getElem hi, Option.getD_some] at this
  simpa using this
theorem lackB_ft {L : List Nd} {m k : Nat} (h : lackB L m = false) (hk : k < L.length) (hi : (shp L).K k = true) : (L.getD k nd0).ft < (m : Int) := by
  simp only [shp, decide_eq_true_eq] at hi
  rcases Int.lt_or_le (L.getD k nd0).ft m with q | q
  · exact q
  · rw [lackB_yes hk ⟨hi, q⟩] at h; cases h
set_option maxRecDepth 100000 in
set_option maxHeartbeats 1000000 in
theorem lacks_any (a ax : Option Addr) (cap m cx : Nat) (L : List Nd) (hLn : L.length ≤ 2199023255552) (w : World) (hrd : RdN w a L) :
    Calls Tryz.prog 44 #[.slice a L.length cap, .slice ax m cx] w fun e w' => e = .returned (.bool (lackB L m)) ∧ Keep w w' := by
  go_enter Tryz.func44, Tryz.ntmps44
  go_wp2_with fail
  go_loop [8] (fun iv => ∃ k : Nat, k ≤ L.length ∧ iv = .int .i64 k ∧ Hid (∀ j, j < k → ¬ (((L.getD j nd0).kd = 2 ∨ (L.getD j nd0).kd = 3) ∧ (m : Int) ≤ (L.getD j nd0).ft))) (fun iv => L.length - (intOf iv).toNat)
  case atStart => exact ⟨0, by omega, rfl, by intro j hj; omega⟩
  case round =>
    obtain ⟨k, hk, rfl, hinv⟩ := hrel
    by_cases hkl : k < L.length
    · have hkc : (k : Int) < (L.length : Int) := by omega
      obtain ⟨b, o, ca, cp, rfl, hnd⟩ := hrd k hkl
      have c0 := hnd.c0
      have c2 := hnd.c2
      have hin := isInner_any (L.getD k nd0).kd
      obtain ⟨pv, hpv⟩ : ∃ pv, decide ((L.getD k nd0).kd = 2 ∨ (L.getD k nd0).kd = 3) = pv := ⟨_, rfl⟩
      have HP : Hid (decide ((L.getD k nd0).kd = 2 ∨ (L.getD k nd0).kd = 3) = pv) := hpv
      rw [hpv] at hin
      clear hpv hnd
      obtain ⟨kd, hkd⟩ : ∃ kd, (L.getD k nd0).kd = kd := ⟨_, rfl⟩
      obtain ⟨ft, hft⟩ : ∃ ft, (L.getD k nd0).ft = ft := ⟨_, rfl⟩
      have HN : Hid ((L.getD k nd0).kd = kd ∧ (L.getD k nd0).ft = ft) := ⟨hkd, hft⟩
      rw [hkd] at hin c0
      rw [hft] at c2
      clear hkd hft
      have HS : (¬ (pv = true ∧ (m : Int) ≤ ft)) → Hid (∀ j, j < k + 1 → ¬ (((L.getD j nd0).kd = 2 ∨ (L.getD j nd0).kd = 3) ∧ (m : Int) ≤ (L.getD j nd0).ft)) := by
        intro hno j hj hh
        by_cases e : j = k
        · subst e
          rw [HN.out.2] at hh
          exact hno ⟨by rw [← HP.out]; exact decide_eq_true hh.1, hh.2⟩
        · exact hinv.out j (by omega) hh
      cases pv
      · have HT := HS (by simp)
        go_wp2_with (go_at_call 47; refine (hin _).mono ?_; rintro e w' ⟨rfl, rfl⟩)
        go_round
        case rel => exact ⟨k + 1, by omega, by go_num, HT⟩
        case measure => simp [intOf]; omega
      · by_cases hf : (m : Int) ≤ ft
        · have HY : Hid (lackB L m = true) := lackB_yes hkl ⟨of_decide_eq_true HP.out, by rw [HN.out.2]; exact hf⟩
          go_wp2_with (go_at_call 47; refine (hin _).mono ?_; rintro e w' ⟨rfl, rfl⟩)
          go_ret
          exact ⟨ret_bool HY.out.symm, Keep.refl _⟩
        · have HT := HS (fun h => hf h.2)
          go_wp2_with (go_at_call 47; refine (hin _).mono ?_; rintro e w' ⟨rfl, rfl⟩)
          go_round
          case rel => exact ⟨k + 1, by omega, by go_num, HT⟩
          case measure => simp [intOf]; omega
    · have hkc : ¬ (k : Int) < (L.length : Int) := by omega
      have HN : Hid (lackB L m = false) := lackB_no (fun j hj => hinv.out j (by omega))
      go_wp2_with fail
      go_ret
      exact ⟨ret_bool HN.out.symm, Keep.refl _⟩
end Go.Proofs.YtinjikoocegooaaGreatDoor
set_option linter.unusedVariables false
set_option linter.unusedSimpArgs false
namespace Go.Proofs.YtinjikoocegooaaGreatDoor
open Go.RowKit Go.Shelf
/-- Numbers that can be read, by their bits. -/
def RdF (w : World) (a : Option Addr) (l : List Nat) : Prop :=
  ∀ j, j < l.length → ∃ b o, a = some ⟨b, o, none⟩ ∧ w.cell? ⟨b, o + j, none⟩ = some (.float .f64 (l.getD j 0))
theorem RdF.keep {w w' : World} {a : Option Addr} {l : List Nat} (h : RdF w a l) (k : Keep w w') : RdF w' a l := by
  intro j hj
  obtain ⟨b, o, e, hc⟩ := h j hj
  exact ⟨b, o, e, k.cell hc⟩
/-- Where a vector goes on. -/
def nxt (n : Nd) (xs : List Nat) : Int := if gsS n (xs.getD n.ft.toNat 0) = 1 then n.lf else n.rt
set_option maxRecDepth 100000 in
set_option maxHeartbeats 1000000 in
theorem next_any (n : Nd) (ca ax : Option Addr) (cap cx : Nat) (xs : List Nat) (w : World) (hr : RdI w ca n.cs) (hl : n.cs.length ≤ 17592186044416) (hc : n.cs.length ≤ cap) (hx : RdF w ax xs) (hxl : xs.length ≤ 17592186044416) (f0 : 0 ≤ n.ft) (f1 : n.ft < (xs.length : Int)) :
    Calls Tryz.prog 71 #[n.v ca cap, .slice ax xs.length cx] w fun e w' => e = .returned (.int .i64 (nxt n xs)) ∧ Keep w w' := by
  obtain ⟨ft, hft⟩ := Int.eq_ofNat_of_zero_le f0
  have hftl : ft < xs.length := by omega
  obtain ⟨b, o, rfl, hcell⟩ := hx ft hftl
  have HX : Hid (nxt n xs = if gsS n (xs.getD ft 0) = 1 then n.lf else n.rt) := by show _ = _; unfold nxt; rw [hft]; rfl
  generalize xs.getD ft 0 = xv at hcell HX
  have G := fun (wx : World) (k : Keep w wx) => Goes_any n ca cap xv wx (hr.keep k) hl hc
  have k0 : Keep w (w.alloc (Obj.cells #[Value.int IntKind.u8 n.kd, Value.int IntKind.i64 n.vl, Value.int IntKind.i64 n.ft, Value.float FloatKind.f64 n.th, Value.slice ca n.cs.length cap, Value.int IntKind.u8 n.ms, Value.int IntKind.i64 n.lf, Value.int IntKind.i64 n.rt] 81)) := (Keep.refl w).alloc _
  have hcell1 := k0.cell hcell
  have hcell2 := k0.drew.cell hcell
  obtain ⟨s, hs⟩ : ∃ s, gsS n xv = s := ⟨_, rfl⟩
  rw [hs] at HX G
  clear hs
  unfold Nd.v at G ⊢
  rw [hft] at G k0 hcell1 hcell2 ⊢
  clear hft f0 f1
  obtain ⟨w1, hw1⟩ : ∃ w1, w.alloc (Obj.cells #[Value.int IntKind.u8 n.kd, Value.int IntKind.i64 n.vl, Value.int IntKind.i64 (ft : Nat), Value.float FloatKind.f64 n.th, Value.slice ca n.cs.length cap, Value.int IntKind.u8 n.ms, Value.int IntKind.i64 n.lf, Value.int IntKind.i64 n.rt] 81) = w1 := ⟨_, rfl⟩
  have b6 : w1.drew.cell? ⟨w.heap.size, 6, none⟩ = some (.int .i64 n.lf) := by
    rw [← hw1]
    show (w.alloc _).cell? _ = _
    rw [cell_of_row _ _ 6 _ 81 (0, 0) (heap_alloc_new w _)]; rfl
  have b7 : w1.drew.cell? ⟨w.heap.size, 7, none⟩ = some (.int .i64 n.rt) := by
    rw [← hw1]
    show (w.alloc _).cell? _ = _
    rw [cell_of_row _ _ 7 _ 81 (0, 0) (heap_alloc_new w _)]; rfl
  have kw : Keep w w1.drew := by rw [← hw1]; exact k0.drew
  replace hw1 : Hid _ := hw1
  by_cases h1 : s = 1
  · subst h1
    have HR : Hid (nxt n xs = n.lf) := by show _ = _; rw [HX.out]; rfl
    clear HX
    go_enter Tryz.func71, Tryz.ntmps71
    go_wp2_with fail
    go_region_with (go_at_call 97; refine (G _ k0.drew).mono ?_; rintro e wB ⟨rfl, kB⟩)
    all_goals
      go_simp
      rw [hw1.out] at kB
      have d6 := kB.cell b6
      go_wp2_with fail
      go_ret
      exact ⟨ret_int HR.out.symm, kw.trans kB⟩
  · have e1 : ((s : Int) == 1) = false := by rw [beq_eq_false_iff_ne]; omega
    have HR : Hid (nxt n xs = n.rt) := by show _ = _; rw [HX.out, if_neg h1]
    clear HX h1
    go_enter Tryz.func71, Tryz.ntmps71
    go_wp2_with fail
    go_region_with (go_at_call 97; refine (G _ k0.drew).mono ?_; rintro e wB ⟨rfl, kB⟩)
    all_goals
      go_simp
      rw [hw1.out] at kB
      have d7 := kB.cell b7
      go_wp2_with fail
      go_ret
      exact ⟨ret_int HR.out.symm, kw.trans kB⟩
end Go.Proofs.YtinjikoocegooaaGreatDoor
set_option linter.unusedVariables false
set_option linter.unusedSimpArgs false
namespace Go.Proofs.YtinjikoocegooaaGreatDoor
open Go.RowKit Go.Shelf
attribute [local go_sem] Oper.semAt_some
theorem misF_zero {L : List Nd} : ∀ (f k : Nat), 0 < k → misF L f k = 0 → ∀ i, k ≤ i → i < k + f → misB L i = false
  | 0, k, _, _, i, h1, h2 => by omega
  | f + 1, k, hk, h, i, h1, h2 => by
    rw [misF] at h
    split at h
    · omega
    · rename_i hb
      by_cases e : i = k
      · subst e; simpa using hb
      · exact misF_zero f (k + 1) (by omega) h i (by omega) (by omega)
/-- Shape is content: it is a right tree. -/
theorem shE_tr {L : List Nd} (h : shE L = 0) : Tr (shp L) L.length := by
  have hR := shE_rgt h
  have hm : misF L (L.length - 1) 1 = 0 := by
    unfold shE at h
    split at h
    · cases h
    · cases hb : badF L L.length 0 with
      | some i => rw [hb] at h; cases h
      | none =>
        rw [hb] at h
        simp only at h
        split at h
        · assumption
        · cases h
  have hB : ∀ i, 0 < i → i < L.length → cnt (shp L) i L.length = 1 ∧ i ∈ ord (shp L) L.length := by
    intro i h1 h2
    have := misF_zero _ _ (by omega) hm i (by omega) (by omega)
    unfold misB at this
    simpa using this
  refine ⟨hR.wi, fun i hi hk => ?_, fun j h1 h2 => (hB j h1 h2).1, fun j hj => ?_⟩
  · have := hR.kids hi hk
    omega
  · by_cases e : j = 0
    · subst e; exact .zero
    · exact (ord_mem hR.wi j).1 (hB j (by omega) hj).2
set_option maxHeartbeats 1000000 in
theorem down_in (n : Nat) (a ax : Option Addr) (len cap m cx : Nat) (w : World) :
    CallsIn Fence.wide n Tryz.prog 45 #[.slice a len cap, .slice ax m cx] w fun e w' => e = .returned (.func (.func 70) #[] #[.pointer (some ⟨w.heap.size, 0, none⟩), .pointer (some ⟨w.heap.size + 1, 0, none⟩)]) ∧ w' = (w.alloc (.cells #[.slice a len cap] 46)).alloc (.cells #[.slice ax m cx] 27) := by
  refine callsIn_of_wp Tryz.func45 rfl trivial ?_ rfl
  simp only [Tryz.ntmps45, List.size_toArray, List.length_cons, List.length_nil, Nat.reduceAdd, Nat.reduceSub, Array.replicate_succ, Array.replicate_zero, List.push_toArray, List.append_toArray, List.nil_append, List.cons_append]
  gi_wp2
  go_ret
  exact ⟨rfl, rfl⟩
/-- The choice of a vector at a node. -/
def chs (L : List Nd) (xs : List Nat) (i : Nat) : Bool := decide (gsS (L.getD i nd0) (xs.getD (L.getD i nd0).ft.toNat 0) = 1)
/-- What the iterator holds between two rounds. -/
structure Dwn (L : List Nd) (xs : List Nat) (w0 : World) (Bl Bx : Nat) (a ax : Option Addr) (cap cx : Nat) (J : List (Fin L.length) → (Nat → Prop) → World → Prop) (f : Nat) (wr : World) (out : List (Fin L.length)) (i : Nat) (T : Nat → Prop) : Prop where
  BlT : T Bl
  BxT : T Bx
  lt : ∀ g, T g → w0.heap.size ≤ g ∧ g < wr.heap.size
  j : J out T wr
  lv : Lv (shp L) i out.length
  eq : nums out ++ path (shp L) (chs L xs) (L.length - 1 - out.length) i = way (shp L) (chs L xs) L.length
  fuel : L.length ≤ f + out.length
  be : Keep w0 wr
  bl : wr.cell? ⟨Bl, 0, none⟩ = some (.slice a L.length cap)
  bx : wr.cell? ⟨Bx, 0, none⟩ = some (.slice ax xs.length cx)
theorem Rgt.ft {L : List Nd} (h : Rgt L) {i : Nat} (hi : i < L.length) (hk : (shp L).K i = true) : 0 ≤ (L.getD i nd0).ft := by
  have hr := h.2 i hi
  simp only [shp, decide_eq_true_eq] at hk
  generalize L.getD i nd0 = n at *
  unfold rightB spl at hr
  rcases hk with hk | hk
  · rw [if_neg (by omega), if_pos hk] at hr
    simp only [Bool.and_eq_true, decide_eq_true_eq] at hr
    omega
  · rw [if_neg (by omega), if_neg (by omega), if_pos hk] at hr
    simp only [Bool.and_eq_true, decide_eq_true_eq] at hr
    omega
theorem nxt_chs {L : List Nd} (h : Rgt L) {i : Nat} (xs : List Nat) (hi : i < L.length) (hk : (shp L).K i = true) : nxt (L.getD i nd0) xs = ((if chs L xs i = true then (shp L).A i else (shp L).B i : Nat) : Int) := by
  obtain ⟨⟨e6, l6, p6⟩, ⟨e7, l7, p7⟩⟩ := h.kids hi hk
  unfold nxt chs
  by_cases q : gsS (L.getD i nd0) (xs.getD (L.getD i nd0).ft.toNat 0) = 1
  · rw [if_pos q, if_pos (decide_eq_true q)]; exact e6
  · rw [if_neg q, if_neg (by rw [decide_eq_false q]; simp)]; exact e7
theorem Keep.stp {T : Nat → Prop} {A B : World} (h : Keep A B) : Stp T A B := ⟨h.os, h.tape, h.output, h.size, fun g hg _ => h.block g hg⟩
set_option maxRecDepth 100000 in
set_option maxHeartbeats 2000000 in
theorem downs_in (w0 : World) (n : Nat) (hn : 1 ≤ n) (y Bl Bx : Nat) (a ax : Option Addr) (cap cx : Nat) (L : List Nd) (xs : List Nat) (hLn : L.length ≤ 2199023255552) (hxl : xs.length ≤ 17592186044416) (hE : shE L = 0) (hlk : lackB L xs.length = false) (J : List (Fin L.length) → (Nat → Prop) → World → Prop) (Jx : List (Fin L.length) → World → Prop)
    (hJ1 : ∀ pre T A B, J pre T A → Stp T A B → J pre (more T A B) B)
    (hY : ∀ pre x T A, J pre T A → pre.length < L.length → YieldAt Fence.wide (n - 1) Tryz.prog y #[Value.int .i64 ((x.val : Nat) : Int)] A fun e A' => (e = .returned (.bool true) ∧ J (pre ++ [x]) T A' ∧ Kpt w0.heap.size T A A') ∨ (e = .returned (.bool false) ∧ Jx (pre ++ [x]) A'))
    (W : World) (hBl : W.cell? ⟨Bl, 0, none⟩ = some (.slice a L.length cap)) (hBx : W.cell? ⟨Bx, 0, none⟩ = some (.slice ax xs.length cx)) (hBn : w0.heap.size ≤ Bl) (hBm : w0.heap.size ≤ Bx) (hnW : Keep w0 W) (hrd : RdN w0 a L) (hxd : RdF w0 ax xs) (h0 : J [] (fun g => g = Bl ∨ g = Bx) W) :
    CallsIn Fence.wide n Tryz.prog 70 #[.func (.yield y) #[] #[], .pointer (some ⟨Bl, 0, none⟩), .pointer (some ⟨Bx, 0, none⟩)] W fun e W' => (∃ v, e = .returned v) ∧
      ((∃ xs' T, nums xs' = way (shp L) (chs L xs) L.length ∧ J xs' T W') ∨ ∃ pre, Jx pre W') := by
  have hR := shE_rgt hE
  have hT := shE_tr hE
  refine callsIn_of_wp Tryz.func70 rfl trivial ?_ rfl
  simp only [Tryz.ntmps70, List.size_toArray, List.length_cons, List.length_nil, Nat.reduceAdd, Nat.reduceSub, Array.replicate_succ, Array.replicate_zero, List.push_toArray, List.append_toArray, List.nil_append, List.cons_append]
  gi_wp2_with fail
  gi_loopg [4] (L.length + 1) (fun f iv wr => ∃ out i T, iv = .int .i64 ((i : Nat) : Int) ∧ Dwn L xs w0 Bl Bx a ax cap cx J f wr out i T)
  case atStart =>
    exact ⟨[], 0, _, rfl, .inl rfl, .inr rfl, fun g hg => by rcases hg with rfl | rfl; exact ⟨hBn, World.block_lt_of_cell? W _ hBl⟩; exact ⟨hBm, World.block_lt_of_cell? W _ hBx⟩, h0, .zero, rfl, by simp, hnW, hBl, hBx⟩
  case round =>
    obtain ⟨out, i, T, rfl, I⟩ := hrel
    clear h0 hnW hBl hBx
    have iN : i < L.length := I.lv.rch.lt hT.wi
    have hol : out.length < L.length := I.lv.lt hT
    have hfu := I.fuel
    obtain ⟨f, rfl⟩ : ∃ f, gk = f + 1 := ⟨gk - 1, by omega⟩
    obtain ⟨fn, tmps, assign, body, hy, hRd⟩ := hY out ⟨i, iN⟩ _ _ I.j hol
    simp only at hy
    have hiN : (i : Int) < (L.length : Int) := by omega
    gi_wp2
    refine hRd.mono ?_
    rintro e A2 (⟨rfl, hj2, hk2⟩ | ⟨rfl, hjx⟩)
    · clear hRd hy
      have sz2 := hk2.size
      have ltT := I.lt
      have kTA : ∀ g, T g → A2.heap[g]? = wr.heap[g]? := fun g hg => hk2.block g (ltT g hg).2 (.inr hg)
      have bl2 : A2.cell? ⟨Bl, 0, none⟩ = some (.slice a L.length cap) := by rw [World.cell?_of_block (a := ⟨Bl, 0, none⟩) (kTA Bl I.BlT)]; exact I.bl
      have bx2 : A2.cell? ⟨Bx, 0, none⟩ = some (.slice ax xs.length cx) := by rw [World.cell?_of_block (a := ⟨Bx, 0, none⟩) (kTA Bx I.BxT)]; exact I.bx
      have be2 : Keep w0 A2 := ⟨hk2.os.trans I.be.os, hk2.tape.trans I.be.tape, hk2.output.trans I.be.output, by have := I.be.size; omega, fun g hg => (hk2.block g (by have := I.be.size; omega) (.inl hg)).trans (I.be.block g hg)⟩
      obtain ⟨b, o, ca, cp, rfl, hnd⟩ := (hrd.keep be2) i iN
      have c0 := hnd.c0
      have hK : (shp L).K i = decide ((L.getD i nd0).kd = 2 ∨ (L.getD i nd0).kd = 3) := rfl
      have hin := isInner_any (L.getD i nd0).kd
      rw [← hK] at hin
      have hnum : nums (out ++ [⟨i, iN⟩]) = nums out ++ [i] := by simp [nums]
      have heq := I.eq
      by_cases hki : (shp L).K i = true
      · have lv2 := I.lv.next (chs L xs) hki
        have hl2 := lv2.lt hT
        rw [show L.length - 1 - out.length = (L.length - 1 - (out.length + 1)) + 1 by omega, path_inner hki] at heq
        have HN := nxt_chs hR xs iN hki
        have hf0 := hR.ft iN hki
        have hf1 := lackB_ft hlk iN hki
        have hnx := fun (wx : World) (k : Keep A2 wx) => next_any (L.getD i nd0) ca ax cp cx xs wx (hnd.rd.keep k) hnd.sz hnd.cp ((hxd.keep be2).keep k) hxl hf0 hf1
        rw [HN] at hnx
        generalize (if chs L xs i = true then (shp L).A i else (shp L).B i) = i2 at *
        have HI : ∀ B, Keep A2 B → Dwn L xs w0 Bl Bx (some ⟨b, o, none⟩) ax cap cx J f B (out ++ [⟨i, iN⟩]) i2 (more T A2 B) := by
          intro B kB
          refine ⟨.inl I.BlT, .inl I.BxT, ?_, hJ1 _ _ _ _ hj2 kB.stp, by simpa using lv2, by rw [hnum]; simpa using heq, by simp; omega, be2.trans kB, kB.cell bl2, kB.cell bx2⟩
          rintro g (h | h)
          · have := ltT g h; have := kB.le; omega
          · have := be2.le; omega
        have hv : (L.getD i nd0).v ca cp = .agg #[.int .u8 (L.getD i nd0).kd, .int .i64 (L.getD i nd0).vl, .int .i64 (L.getD i nd0).ft, .float .f64 (L.getD i nd0).th, .slice ca (L.getD i nd0).cs.length cp, .int .u8 (L.getD i nd0).ms, .int .i64 (L.getD i nd0).lf, .int .i64 (L.getD i nd0).rt] := rfl
        rw [hv] at hnx
        have c1 := hnd.c1
        have c2 := hnd.c2
        have c3 := hnd.c3
        have c4 := hnd.c4
        have c5 := hnd.c5
        have c6 := hnd.c6
        have c7 := hnd.c7
        rw [hki] at hin
        clear hv hnd HN hf0 hf1 hK heq I hj2 hJ1 hY hki lv2
        generalize L.getD i nd0 = N at *
        gi_wp2_with (refine ⟨trivial, ?_⟩; gi_at_call 47; refine (callsIn_wide.2 (hin _)).mono ?_; rintro e w' ⟨rfl, hw'⟩; have hw2 := hw'.symm; subst hw2)
        have kd : Keep A2 A2.drew := (Keep.refl A2).drew
        rw [wpIn_wide]
        go_region_with (go_at_call 71; refine (hnx _ kd).mono ?_; rintro e wB ⟨rfl, kB⟩)
        all_goals
          have HJ := HI wB (kd.trans kB)
          go_simp
          gi_wp2
          gi_roundg f
          case rel => exact ⟨_, _, _, rfl, HJ⟩
          case measure => omega
      · have hkf : (shp L).K i = false := by simpa using hki
        rw [path_leaf hkf] at heq
        rw [hkf] at hin
        have HE : Hid (nums (out ++ [⟨i, iN⟩]) = way (shp L) (chs L xs) L.length) := by show _ = _; rw [hnum]; exact heq
        clear heq hK hkf hki hnd
        generalize (L.getD i nd0).kd = kd at *
        gi_wp2_with (refine ⟨trivial, ?_⟩; gi_at_call 47; refine (callsIn_wide.2 (hin _)).mono ?_; rintro e w' ⟨rfl, hw'⟩; have hw2 := hw'.symm; subst hw2)
        go_end0
        exact ⟨⟨_, rfl⟩, .inl ⟨_, T, HE.out, hj2⟩⟩
    · gi_wp2
      refine ⟨trivial, ?_⟩
      gi_wp2
      go_end0
      exact ⟨⟨_, rfl⟩, .inr ⟨_, hjx⟩⟩
/-- What a vector comes by, as an iterator. -/
theorem down_seq (n : Nat) (hn : 1 ≤ n) (Bl Bx : Nat) (a ax : Option Addr) (cap cx : Nat) (L : List Nd) (xs : List Nat) (hLn : L.length ≤ 2199023255552) (hxl : xs.length ≤ 17592186044416) (hE : shE L = 0) (hlk : lackB L xs.length = false) (w0 w : World) (hBl : w.cell? ⟨Bl, 0, none⟩ = some (.slice a L.length cap)) (hBx : w.cell? ⟨Bx, 0, none⟩ = some (.slice ax xs.length cx)) (hBn : w0.heap.size ≤ Bl) (hBm : w0.heap.size ≤ Bx) (hnW : Keep w0 w) (hrd : RdN w0 a L) (hxd : RdF w0 ax xs) :
    SeqT n Tryz.prog 70 #[.pointer (some ⟨Bl, 0, none⟩), .pointer (some ⟨Bx, 0, none⟩)] (fun x : Fin L.length => #[Value.int .i64 ((x.val : Nat) : Int)]) w0.heap.size (fun g => g = Bl ∨ g = Bx) (fun xs' => nums xs' = way (shp L) (chs L xs) L.length) (fun _ => True) L.length w := by
  intro y J Jx W hW hJ1 hY h0
  have kW : Keep w W := hW
  refine (downs_in w0 n hn y Bl Bx a ax cap cx L xs hLn hxl hE hlk J Jx hJ1 hY W (kW.cell hBl) (kW.cell hBx) hBn hBm (hnW.trans kW) hrd hxd h0).mono ?_
  rintro e W' ⟨he, h | ⟨pre, h⟩⟩
  · exact ⟨he, .inl h⟩
  · exact ⟨he, .inr ⟨pre, trivial, h⟩⟩
end Go.Proofs.YtinjikoocegooaaGreatDoor
set_option linter.unusedVariables false
set_option linter.unusedSimpArgs false
namespace Go.Proofs.YtinjikoocegooaaGreatDoor
open Go.RowKit Go.Shelf
attribute [local go_sem] Oper.semAt_some
/-- A list that is gathered in a box while an iterator runs. -/
structure ColR (Bl Bs R : Nat) (w3 : World) (l : List Nat) (T : Nat → Prop) (W : World) : Prop where
  box : ∃ v, W.heap[Bl]? = some (.cells #[v] 28 (0, 0)) ∧ OwnI W v l ∧ ∀ b, v.ownBlock = some b → ¬ T b ∧ R + 2 ≤ b
  tb : ∀ g, T g → Bs ≤ g ∧ g < W.heap.size
  be : Below Bl w3 W
  sz : R ≤ W.heap.size
theorem ColR.st {Bl Bs R : Nat} {w3 : World} {l : List Nat} {T : Nat → Prop} {A B : World} (hB : Bl < Bs) (hBR : Bs ≤ R) (h : ColR Bl Bs R w3 l T A) (hst : Stp T A B) : ColR Bl Bs R w3 l (more T A B) B := by
  obtain ⟨⟨v, h1, h2, h3⟩, h4, h5, h6⟩ := h
  have kp : ∀ g, g < Bs → g < A.heap.size → B.heap[g]? = A.heap[g]? := fun g hg hz => hst.block g hz (fun h => by have := h4 g h; omega)
  refine ⟨⟨v, ?_, ?_, ?_⟩, ?_, ?_, by have := hst.size; omega⟩
  · rw [kp Bl hB (by omega)]; exact h1
  · refine h2.same (fun b hb => ?_)
    obtain ⟨cur, hc⟩ := h2.block hb
    exact hst.block b (Array.getElem?_eq_some_iff.1 hc).1 (h3 b hb).1
  · intro b hb
    obtain ⟨cur, hc⟩ := h2.block hb
    have hlt := (Array.getElem?_eq_some_iff.1 hc).1
    refine ⟨?_, (h3 b hb).2⟩
    rintro (h | h)
    · exact (h3 b hb).1 h
    · omega
  · rintro g (h | h)
    · have := h4 g h; have := hst.size; omega
    · omega
  · exact ⟨hst.os.trans h5.os, hst.tape.trans h5.tape, hst.output.trans h5.output, by have := hst.size; have := h5.size; omega, fun g hg => (kp g (by omega) (by omega)).trans (h5.block g hg)⟩
theorem ColR.put {Bl Bs R : Nat} {w3 : World} {l : List Nat} {T : Nat → Prop} {A : World} {r : Nat} {o' : Obj} (hB : Bl < Bs) (hBR : Bs ≤ R) (h : ColR Bl Bs R w3 l T A) (h1 : R ≤ r) (h2 : r < R + 2) : ColR Bl Bs R w3 l T (A.putObj r o') := by
  obtain ⟨⟨v, q1, q2, q3⟩, q4, q5, q6⟩ := h
  have kp : ∀ g, g ≠ r → (A.putObj r o').heap[g]? = A.heap[g]? := fun g hg => World.putObj_heap_other hg
  refine ⟨⟨v, ?_, ?_, q3⟩, by simpa using q4, ?_, by simpa using q6⟩
  · rw [kp _ (by omega)]; exact q1
  · exact q2.same (fun b hb => kp b (by have := (q3 b hb).2; omega))
  · exact ⟨q5.os, q5.tape, q5.output, by simpa using q5.size, fun g hg => (kp g (by omega)).trans (q5.block g hg)⟩
/-- One more. -/
theorem ColR.app {Bl Bs R : Nat} {w3 : World} {l : List Nat} {T : Nat → Prop} {A B : World} {o : Obj} {v v' : Value} {x : Nat} (hB : Bl < Bs) (hBR : Bs ≤ R) (h : ColR Bl Bs R w3 l T A) (hz : R + 2 ≤ A.heap.size) (hbox : A.heap[Bl]? = some (.cells #[v] 28 (0, 0))) (hv3 : ∀ b, v.ownBlock = some b → ¬ T b ∧ R + 2 ≤ b)
    (ho : OwnI B v' (l ++ [x])) (hgr : (A.alloc o).grownBy B v.ownBlock) (hsep : v'.ownBlock = v.ownBlock ∨ v'.ownBlock = some (A.heap.size + 1)) :
    ColR Bl Bs R w3 (l ++ [x]) T (B.setCell ⟨Bl, 0, none⟩ v') ∧ (∀ g, g < A.heap.size → g ≠ Bl → v.ownBlock ≠ some g → (B.setCell ⟨Bl, 0, none⟩ v').heap[g]? = A.heap[g]?) ∧ B.cell? ⟨Bl, 0, none⟩ = some v ∧ B.frozen? ⟨Bl, 0, none⟩ = false ∧ A.heap.size ≤ B.heap.size := by
  have hb : Below A.heap.size A (A.alloc o) := (Below.refl A.heap.size A).alloc (Nat.le_refl _) o
  have kB : ∀ g, g < A.heap.size → v.ownBlock ≠ some g → B.heap[g]? = A.heap[g]? := fun g hg hne => by rw [hgr.block g (Nat.lt_of_lt_of_le hg hb.size) (fun e => hne e.symm), hb.block g hg]
  have hBl : v.ownBlock ≠ some Bl := fun e => by have := (hv3 Bl e).2; omega
  have boxB : B.heap[Bl]? = some (.cells #[v] 28 (0, 0)) := by rw [kB Bl (by omega) hBl]; exact hbox
  have szB : A.heap.size ≤ B.heap.size := Nat.le_trans hb.size hgr.size
  have ne := neq_set B Bl 0 v'
  have vlt : ∀ b, v'.ownBlock = some b → ¬ T b ∧ R + 2 ≤ b := by
    intro b e
    rcases hsep with e2 | e2
    · rw [e2] at e; exact hv3 b e
    · rw [e2] at e
      simp only [Option.some.injEq] at e
      subst e
      exact ⟨fun h' => by have := h.tb _ h'; omega, by omega⟩
  refine ⟨⟨⟨v', ?_, ?_, vlt⟩, fun g hg => by have := h.tb g hg; simp; omega, ?_, by simp; omega⟩, ?_, ?_, ?_, szB⟩
  · exact heap_setCell_same B Bl 0 _ 28 v' boxB
  · exact ho.same (fun b e => ne b (by have := (vlt b e).2; omega))
  · have h5 := h.be
    exact ⟨hgr.os.trans (hb.os.trans h5.os), hgr.tape.trans (hb.tape.trans h5.tape), hgr.output.trans (hb.output.trans h5.output), by have := h5.size; simp; omega, fun g hg => by rw [ne g (by omega), kB g (by omega) (fun e => by have := (hv3 g e).2; omega)]; exact h5.block g hg⟩
  · intro g hg h1 h2; rw [ne g h1]; exact kB g hg h2
  · rw [cell_of_row B Bl 0 _ 28 (0, 0) boxB]; rfl
  · exact frozen_of_row B Bl 0 _ 28 boxB
/-- What Way answers. -/
def wyE (L : List Nd) (m : Nat) : Int := if shE L = 0 then (if lackB L m then 72 else 0) else shE L
def wyL (L : List Nd) (xs : List Nat) : List Nat := if wyE L xs.length = 0 then way (shp L) (chs L xs) L.length else []
theorem news1 (W : World) (x : Nat) : ∀ j u, (UI [x])[j]? = some u → (W.alloc (Obj.cells #[Value.int .i64 (x : Nat)] 3)).cell? ((⟨W.heap.size, 0, none⟩ : Addr).add j) = some u := by
  intro j u hj
  match j, hj with
  | 0, hj => simp [UI] at hj; subst hj; simp [Addr.add]
  | j + 1, hj => simp [UI] at hj
/-- Three new boxes. -/
theorem boxes3 (w : World) (u v x : Value) (t1 t2 t3 : Nat) : ∃ w4, ((w.alloc (Obj.cells #[u] t1)).alloc (Obj.cells #[v] t2)).alloc (Obj.cells #[x] t3) = w4 ∧ Keep w w4 ∧ w4.heap.size = w.heap.size + 3 ∧
    w4.heap[w.heap.size]? = some (Obj.cells #[u] t1 (0, 0)) ∧ w4.heap[w.heap.size + 1]? = some (Obj.cells #[v] t2 (0, 0)) ∧ w4.heap[w.heap.size + 1 + 1]? = some (Obj.cells #[x] t3 (0, 0)) := by
  refine ⟨_, rfl, (((Keep.refl w).alloc _).alloc _).alloc _, by simp, ?_, ?_, ?_⟩
  · exact (Below.heap_alloc _ _ _ (by simp; omega)).trans ((Below.heap_alloc _ _ _ (by simp)).trans (heap_alloc_new w _))
  · have := heap_alloc_new (w.alloc (Obj.cells #[u] t1)) (Obj.cells #[v] t2)
    rw [World.size_alloc] at this
    exact (Below.heap_alloc _ _ _ (by simp)).trans this
  · have := heap_alloc_new ((w.alloc (Obj.cells #[u] t1)).alloc (Obj.cells #[v] t2)) (Obj.cells #[x] t3)
    rw [World.size_alloc, World.size_alloc] at this
    exact this
set_option maxRecDepth 100000 in
set_option maxHeartbeats 2000000 in
theorem Way_in (n : Nat) (hn : 3 ≤ n) (a ax : Option Addr) (cap cx : Nat) (out : Int) (L : List Nd) (xs : List Nat) (hLn : L.length ≤ 2199023255552) (hxl : xs.length ≤ 17592186044416) (hE : shE L = 0) (hlk : lackB L xs.length = false) (w : World) (hrd : RdN w a L) (hxd : RdF w ax xs) :
    CallsIn Fence.wide n Tryz.prog 30 #[.agg #[.int .i64 out, .slice a L.length cap], .slice ax xs.length cx] w fun e w' => ∃ v, e = .returned (.tuple #[v, .int .i64 0]) ∧ OwnI w' v (way (shp L) (chs L xs) L.length) ∧ (∀ b, v.ownBlock = some b → w.heap.size ≤ b) ∧ Below w.heap.size w w' := by
  have h1 : 1 ≤ n := by omega
  have hS := fun (wx : World) (k : Keep w wx) => Shape_in (n - 1) wx a cap out L hLn (hrd.keep k)
  have hLk := fun (wx : World) (k : Keep w wx) => lacks_any a ax cap xs.length cx L hLn wx (hrd.keep k)
  rw [hE] at hS
  rw [hlk] at hLk
  refine callsIn_of_wp_marks Tryz.func30 rfl trivial ?_ rfl
  simp only [Tryz.ntmps30, List.size_toArray, List.length_cons, List.length_nil, Nat.reduceAdd, Nat.reduceSub, Array.replicate_succ, Array.replicate_zero, List.push_toArray, List.append_toArray, List.nil_append, List.cons_append]
  have k0 : Keep w (w.alloc (Obj.cells #[Value.int IntKind.i64 out, Value.slice a L.length cap] 48)) := (Keep.refl w).alloc _
  have c1 : (w.alloc (Obj.cells #[Value.int IntKind.i64 out, Value.slice a L.length cap] 48)).cell? ⟨w.heap.size, 1, none⟩ = some (.slice a L.length cap) := by
    rw [cell_of_row _ _ 1 _ 48 (0, 0) (heap_alloc_new w _)]; rfl
  have hSz : (w.alloc (Obj.cells #[Value.int IntKind.i64 out, Value.slice a L.length cap] 48)).heap.size = w.heap.size + 1 := by simp
  have hS1 := hS _ k0
  gi_wp2_with fail
  generalize w.alloc _ = w1 at k0 c1 hS1 hSz ⊢
  refine ⟨trivial, ?_⟩
  refine hS1.mono ?_
  rintro e w2 ⟨rfl, k2⟩
  have c1 := k2.cell c1
  have k02 := k0.trans k2
  have z2 : w.heap.size + 1 ≤ w2.heap.size := by have := k2.le; omega
  clear hS hS1 k2 hSz
  gi_wp2_with fail
  refine ⟨trivial, ?_⟩
  refine (callsIn_wide.2 (hLk _ k02)).mono ?_
  rintro e w3 ⟨rfl, k3⟩
  have c1 := k3.cell c1
  have k03 := k02.trans k3
  have z3 : w.heap.size + 1 ≤ w3.heap.size := by have := k3.le; omega
  clear hLk k02 k3
  have c1A := fun o => ((Keep.refl w3).alloc o).cell c1
  gi_wp2_with (refine ⟨trivial, ?_⟩; gi_at_call 45; refine (down_in (n - 1) _ _ _ _ _ _ _).mono ?_; rintro e w' ⟨rfl, rfl⟩)
  obtain ⟨w4, hw4, kA, sA, lA, bA, xA⟩ := boxes3 w3 (Value.slice none 0 0) (Value.slice a L.length cap) (Value.slice ax xs.length cx) 28 46 27
  rw [hw4]
  clear hw4 c1A
  have bA' : w4.cell? ⟨w3.heap.size + 1, 0, none⟩ = some (.slice a L.length cap) := by rw [cell_of_row _ _ 0 _ 46 (0, 0) bA]; rfl
  have xA' : w4.cell? ⟨w3.heap.size + 1 + 1, 0, none⟩ = some (.slice ax xs.length cx) := by rw [cell_of_row _ _ 0 _ 27 (0, 0) xA]; rfl
  refine wp_rangeT h1 (gf := 70) (lb := #[.pointer (some ⟨w3.heap.size + 1, 0, none⟩), .pointer (some ⟨w3.heap.size + 1 + 1, 0, none⟩)]) rfl (enters_of Tryz.func70 (by kernel_rfl) rfl)
    (down_seq (n - 1) (by omega) (w3.heap.size + 1) (w3.heap.size + 1 + 1) a ax cap cx L xs hLn hxl hE hlk w w4 bA' xA' (by omega) (by omega) (k03.trans kA) hrd hxd) (Below.refl _ _) (fun _ => rfl) (by omega) (fun g hg => by omega)
    (fun pre T W => ColR w3.heap.size (w3.heap.size + 1) (w3.heap.size + 3) w4 (nums pre) T W)
    (fun _ _ _ => False) (fun pre T A B h hst => h.st (by omega) (by omega) hst) (fun pre T A r o' h h1 h2 h3 => h.put (by omega) (by omega) (by omega) (by omega)) (fun _ _ _ _ _ h => h.elim) ?start ?a1 ?assign ?body ?done (fun _ _ _ _ h => h.elim)
  case assign =>
    intro l x W K hK
    gi_wp2
    exact hK
  case start =>
    intro W hst
    have kp : ∀ g, g < w3.heap.size + 3 → W.heap[g]? = w4.heap[g]? := fun g hg => hst.block g (by omega) (fun h => h)
    refine ⟨⟨.slice none 0 0, by rw [kp _ (by omega)]; exact lA, OwnI.nil _, fun b hb => by cases hb⟩, fun g hg => by have := hst.size; omega, ?_, by have := hst.size; omega⟩
    exact ⟨hst.os, hst.tape, hst.output, by have := hst.size; omega, fun g hg => kp g (by omega)⟩
  case body =>
    rintro l pre ⟨x, hx⟩ T W hC hpl hT hsz
    have hbe := hC.be
    obtain ⟨v, q1, q2, q3⟩ := hC.box
    have t3 : W.cell? ⟨w3.heap.size, 0, none⟩ = some v := by rw [cell_of_row W _ 0 _ 28 (0, 0) q1]; rfl
    have hnum : nums (pre ++ [⟨x, hx⟩]) = nums pre ++ [x] := by simp [nums]
    have h12 : 1 ≤ n - 1 - 1 := by omega
    have hlf : (nums pre).length + 1 ≤ 17592186044416 := by simp [nums]; omega
    generalize nums pre = fl at hC q2 hnum hlf
    simp only at *
    gi_wp2_with (gi_at_builtin; refine wpListIn_appI _ rfl _ _ rfl fl [x] v rfl (World.ownsRow.alloc q2 _) ⟨W.heap.size, 0, none⟩ 1 1 rfl rfl (by simp) ?_ hlf ?_)
    · exact news1 W x
    · intro v' w5 ho hgr hsep
      obtain ⟨r1, r2, r3, r4, r5⟩ := ColR.app (by omega) (by omega) hC (by omega) q1 q3 ho hgr hsep
      obtain ⟨av', cv', rfl, hcv'⟩ := ho.shape
      rw [show (fl ++ [x]).length = fl.length + 1 by simp] at r1 r2
      clear ho hgr hsep
      gi_wp2_with fail
      unfold postT
      refine ⟨⟨r2 _ ?_ ?_ ?_, r2 _ ?_ ?_ ?_⟩, ⟨r1.be.os.trans hbe.os.symm, r1.be.tape.trans hbe.tape.symm, r1.be.output.trans hbe.output.symm, by simp; exact r5, fun g hg h => r2 g hg ?_ ?_⟩, ?_⟩
      all_goals first | omega | (intro e; have := (q3 _ e).2; omega) | skip
      · intro e
        rcases h with h | h
        · omega
        · have := (hC.tb g h).1; omega
      · intro e
        have := q3 g e
        rcases h with h | h
        · omega
        · exact this.1 h
      · show ColR _ _ _ _ _ _ _
        rw [hnum]
        exact r1
  case done =>
    rintro xs' T W hxs hC hD
    rw [hxs] at hC
    obtain ⟨v, q1, q2, q3⟩ := hC.box
    have t3 : W.cell? ⟨w3.heap.size, 0, none⟩ = some v := by rw [cell_of_row W _ 0 _ 28 (0, 0) q1]; rfl
    rw [sA] at hD ⊢
    gi_wp2_with fail
    refine ⟨by simp, .inl ⟨_, _, rfl, run_takeDeferred hD, ?_⟩⟩
    refine ⟨_, results_tmp2 rfl _ _ _, v, rfl, q2.same (fun b hb => World.putObj_heap_other (by have := (q3 b hb).2; omega)), fun b hb => by have := (q3 b hb).2; omega, ?_⟩
    have hb1 : Below w.heap.size w W := Below.trans (show Below w.heap.size w w3 from k03) ((Below.mono kA k03.size).trans (Below.mono hC.be (by omega)))
    exact hb1.trans (belowK_b (w := w) (Nat.le_refl _) W (w3.heap.size + 3) _ _ (by omega) hD rfl rfl)
end Go.Proofs.YtinjikoocegooaaGreatDoor
set_option linter.unusedVariables false
set_option linter.unusedSimpArgs false
namespace Go.Proofs.YtinjikoocegooaaGreatDoor
open Go.RowKit Go.Shelf
attribute [local go_sem] Oper.semAt_some
set_option maxRecDepth 100000 in
set_option maxHeartbeats 2000000 in
theorem Way_err (n : Nat) (hn : 3 ≤ n) (a ax : Option Addr) (cap cx m : Nat) (out : Int) (L : List Nd) (hLn : L.length ≤ 2199023255552) (hE : shE L ≠ 0) (w : World) (hrd : RdN w a L) :
    CallsIn Fence.wide n Tryz.prog 30 #[.agg #[.int .i64 out, .slice a L.length cap], .slice ax m cx] w fun e w' => e = .returned (.tuple #[.slice none 0 0, .int .i64 (shE L)]) ∧ Keep w w' := by
  have h1 : 1 ≤ n := by omega
  have hS := fun (wx : World) (k : Keep w wx) => Shape_in (n - 1) wx a cap out L hLn (hrd.keep k)
  refine callsIn_of_wp_marks Tryz.func30 rfl trivial ?_ rfl
  simp only [Tryz.ntmps30, List.size_toArray, List.length_cons, List.length_nil, Nat.reduceAdd, Nat.reduceSub, Array.replicate_succ, Array.replicate_zero, List.push_toArray, List.append_toArray, List.nil_append, List.cons_append]
  have k0 : Keep w (w.alloc (Obj.cells #[Value.int IntKind.i64 out, Value.slice a L.length cap] 48)) := (Keep.refl w).alloc _
  have hS1 := hS _ k0
  have hB : (shE L == 0) = false := by simpa using hE
  have hB2 : (shE L != 0) = true := by simpa using hE
  clear hE
  generalize shE L = E at hB hB2 hS1 ⊢
  gi_wp2_with fail
  generalize w.alloc _ = w1 at k0 hS1 ⊢
  refine ⟨trivial, ?_⟩
  refine hS1.mono ?_
  rintro e w2 ⟨rfl, k2⟩
  gi_wp2_with fail
  exact ⟨_, results_tmp2 rfl _ _ _, rfl, k0.trans k2⟩
set_option maxRecDepth 100000 in
set_option maxHeartbeats 2000000 in
theorem Way_lack (n : Nat) (hn : 3 ≤ n) (a ax : Option Addr) (cap cx m : Nat) (out : Int) (L : List Nd) (hLn : L.length ≤ 2199023255552) (hE : shE L = 0) (hlk : lackB L m = true) (w : World) (hrd : RdN w a L) :
    CallsIn Fence.wide n Tryz.prog 30 #[.agg #[.int .i64 out, .slice a L.length cap], .slice ax m cx] w fun e w' => e = .returned (.tuple #[.slice none 0 0, .int .i64 72]) ∧ Keep w w' := by
  have h1 : 1 ≤ n := by omega
  have hS := fun (wx : World) (k : Keep w wx) => Shape_in (n - 1) wx a cap out L hLn (hrd.keep k)
  have hLk := fun (wx : World) (k : Keep w wx) => lacks_any a ax cap m cx L hLn wx (hrd.keep k)
  rw [hE] at hS
  rw [hlk] at hLk
  refine callsIn_of_wp_marks Tryz.func30 rfl trivial ?_ rfl
  simp only [Tryz.ntmps30, List.size_toArray, List.length_cons, List.length_nil, Nat.reduceAdd, Nat.reduceSub, Array.replicate_succ, Array.replicate_zero, List.push_toArray, List.append_toArray, List.nil_append, List.cons_append]
  have k0 : Keep w (w.alloc (Obj.cells #[Value.int IntKind.i64 out, Value.slice a L.length cap] 48)) := (Keep.refl w).alloc _
  have c1 : (w.alloc (Obj.cells #[Value.int IntKind.i64 out, Value.slice a L.length cap] 48)).cell? ⟨w.heap.size, 1, none⟩ = some (.slice a L.length cap) := by
    rw [cell_of_row _ _ 1 _ 48 (0, 0) (heap_alloc_new w _)]; rfl
  have hS1 := hS _ k0
  gi_wp2_with fail
  generalize w.alloc _ = w1 at k0 c1 hS1 ⊢
  refine ⟨trivial, ?_⟩
  refine hS1.mono ?_
  rintro e w2 ⟨rfl, k2⟩
  have c1 := k2.cell c1
  have k02 := k0.trans k2
  clear hS hS1 k2
  gi_wp2_with fail
  refine ⟨trivial, ?_⟩
  refine (callsIn_wide.2 (hLk _ k02)).mono ?_
  rintro e w3 ⟨rfl, k3⟩
  gi_wp2_with fail
  exact ⟨_, results_tmp2 rfl _ _ _, rfl, k02.trans k3⟩
theorem Way_any (a ax : Option Addr) (cap cx : Nat) (out : Int) (L : List Nd) (xs : List Nat) (hLn : L.length ≤ 2199023255552) (hxl : xs.length ≤ 17592186044416) (w : World) (hrd : RdN w a L) (hxd : RdF w ax xs) :
    Calls Tryz.prog 30 #[.agg #[.int .i64 out, .slice a L.length cap], .slice ax xs.length cx] w (LstE w (wyL L xs) (wyE L xs.length)) := by
  by_cases hE : shE L = 0
  · cases hlk : lackB L xs.length
    · have e0 : wyE L xs.length = 0 := by unfold wyE; rw [if_pos hE, hlk]; rfl
      refine ((callsIn_wide (n := 3)).1 (Way_in 3 (by omega) a ax cap cx out L xs hLn hxl hE hlk w hrd hxd)).mono ?_
      rintro e w' ⟨v, rfl, h1, h2, h3⟩
      refine ⟨v, by rw [e0], ?_, h2, h3⟩
      unfold wyL; rw [if_pos e0]; exact h1
    · have e0 : wyE L xs.length = 72 := by unfold wyE; rw [if_pos hE, hlk]; rfl
      refine ((callsIn_wide (n := 3)).1 (Way_lack 3 (by omega) a ax cap cx xs.length out L hLn hE hlk w hrd)).mono ?_
      rintro e w' ⟨rfl, h3⟩
      refine ⟨_, by rw [e0], ?_, fun b hb => (by cases hb), h3⟩
      unfold wyL; rw [if_neg (by rw [e0]; decide)]; exact OwnI.nil _
  · have e0 : wyE L xs.length = shE L := by unfold wyE; rw [if_neg hE]
    refine ((callsIn_wide (n := 3)).1 (Way_err 3 (by omega) a ax cap cx xs.length out L hLn hE w hrd)).mono ?_
    rintro e w' ⟨rfl, h3⟩
    refine ⟨_, by rw [e0], ?_, fun b hb => (by cases hb), h3⟩
    unfold wyL; rw [if_neg (by rw [e0]; exact hE)]; exact OwnI.nil _
end Go.Proofs.YtinjikoocegooaaGreatDoor
set_option linter.unusedVariables false
set_option linter.unusedSimpArgs false
namespace Go.Proofs.YtinjikoocegooaaGreatDoor
open Go.RowKit Go.Shelf
attribute [local go_sem] Oper.semAt_some
/-- Three boxes that an iterator lets alone. -/
structure Box3 (A : Nat) (w : World) (o1 o2 o3 : Obj) (T : Nat → Prop) (W : World) : Prop where
  b1 : W.heap[A]? = some o1
  b2 : W.heap[A + 1]? = some o2
  b3 : W.heap[A + 1 + 1]? = some o3
  tb : ∀ g, T g → A + 3 ≤ g
  be : Below A w W
  sz : A + 4 ≤ W.heap.size
theorem Box3.st {A : Nat} {w : World} {o1 o2 o3 : Obj} {T : Nat → Prop} {W B : World} (h : Box3 A w o1 o2 o3 T W) (hst : Stp T W B) : Box3 A w o1 o2 o3 (more T W B) B := by
  obtain ⟨q1, q2, q3, q4, q5, q6⟩ := h
  have kp : ∀ g, g < A + 3 → B.heap[g]? = W.heap[g]? := fun g hg => hst.block g (by omega) (fun h => by have := q4 g h; omega)
  refine ⟨by rw [kp _ (by omega)]; exact q1, by rw [kp _ (by omega)]; exact q2, by rw [kp _ (by omega)]; exact q3, ?_, ?_, by have := hst.size; omega⟩
  · rintro g (h | h)
    · exact q4 g h
    · omega
  · exact ⟨hst.os.trans q5.os, hst.tape.trans q5.tape, hst.output.trans q5.output, by have := hst.size; have := q5.size; omega, fun g hg => (kp g (by omega)).trans (q5.block g hg)⟩
theorem Box3.put {A : Nat} {w : World} {o1 o2 o3 : Obj} {T : Nat → Prop} {W : World} {r : Nat} {o' : Obj} (h : Box3 A w o1 o2 o3 T W) (h1 : A + 4 ≤ r) : Box3 A w o1 o2 o3 T (W.putObj r o') := by
  obtain ⟨q1, q2, q3, q4, q5, q6⟩ := h
  have kp : ∀ g, g < A + 3 → (W.putObj r o').heap[g]? = W.heap[g]? := fun g hg => World.putObj_heap_other (by omega)
  refine ⟨by rw [kp _ (by omega)]; exact q1, by rw [kp _ (by omega)]; exact q2, by rw [kp _ (by omega)]; exact q3, q4, ?_, by simpa using q6⟩
  exact ⟨q5.os, q5.tape, q5.output, by simpa using q5.size, fun g hg => (kp g (by omega)).trans (q5.block g hg)⟩
theorem takeWhile_pre {l p : List Nat} {en : Nat} (h : p ++ [en] <+: l) (hp : en ∉ p) : l.takeWhile (fun i => decide (i ≠ en)) = p := by
  obtain ⟨q, rfl⟩ := h
  rw [List.append_assoc, List.takeWhile_append_of_pos]
  · simp
  · intro i hi
    have : i ≠ en := fun e => hp (e ▸ hi)
    simpa using this
theorem takeWhile_all {l : List Nat} {en : Nat} (hp : en ∉ l) : l.takeWhile (fun i => decide (i ≠ en)) = l := by
  have h : ∀ i ∈ l, decide (i ≠ en) = true := by
    intro i hi
    have : i ≠ en := fun e => hp (e ▸ hi)
    simpa using this
  have := List.takeWhile_append_of_pos (l₂ := []) h
  simpa using this
/-- How many leaves stand ahead of one. -/
def plc (L : List Nd) (en : Nat) : Nat := (((ord (shp L) L.length).takeWhile (fun i => decide (i ≠ en))).filter (fun i => (!decide ((L.getD i nd0).kd = 2 ∨ (L.getD i nd0).kd = 3)))).length
set_option maxRecDepth 100000 in
set_option maxHeartbeats 2000000 in
theorem place_in (n : Nat) (hn : 3 ≤ n) (a : Option Addr) (cap en : Nat) (L : List Nd) (hLn : L.length ≤ 2199023255552) (hR : Rgt L) (w : World) (hrd : RdN w a L) :
    CallsIn Fence.wide n Tryz.prog 31 #[.slice a L.length cap, .int .i64 (en : Nat)] w fun e w' => e = .returned (.int .i64 (plc L en : Nat)) ∧ Keep w w' := by
  have h1 : 1 ≤ n := by omega
  refine callsIn_of_wp_marks Tryz.func31 rfl trivial ?_ rfl
  simp only [Tryz.ntmps31, List.size_toArray, List.length_cons, List.length_nil, Nat.reduceAdd, Nat.reduceSub, Array.replicate_succ, Array.replicate_zero, List.push_toArray, List.append_toArray, List.nil_append, List.cons_append]
  gi_wp2_with (refine ⟨trivial, ?_⟩; gi_at_call 46; refine (reached_in (n - 1) _ _ _ _).mono ?_; rintro e w' ⟨rfl, rfl⟩)
  have S4 : ∃ w4, (((w.alloc (Obj.cells #[Value.slice a L.length cap] 46)).alloc (Obj.cells #[Value.int IntKind.i64 (en : Nat)] 3)).alloc (Obj.cells #[Value.int IntKind.i64 0] 3)).alloc (Obj.cells #[Value.slice a L.length cap] 46) = w4 ∧
      Box3 w.heap.size w (Obj.cells #[Value.slice a L.length cap] 46) (Obj.cells #[Value.int IntKind.i64 (en : Nat)] 3) (Obj.cells #[Value.int IntKind.i64 ((0 : Nat) : Int)] 3) (fun g => g = w.heap.size + 3) w4 ∧ w4.heap.size = w.heap.size + 4 ∧ w4.cell? ⟨w.heap.size + 1 + 1 + 1, 0, none⟩ = some (.slice a L.length cap) := by
    obtain ⟨w3, hw3, kA, sA, lA, bA, xA⟩ := boxes3 w (Value.slice a L.length cap) (Value.int IntKind.i64 (en : Nat)) (Value.int IntKind.i64 0) 46 3 3
    rw [hw3]
    have old : ∀ g, g < w.heap.size + 3 → (w3.alloc (Obj.cells #[Value.slice a L.length cap] 46)).heap[g]? = w3.heap[g]? := fun g hg => Below.heap_alloc _ _ _ (by omega)
    refine ⟨_, rfl, ⟨(old _ (by omega)).trans lA, (old _ (by omega)).trans bA, (old _ (by omega)).trans xA, fun g hg => by omega, kA.alloc _, by simp; omega⟩, by simp [sA], ?_⟩
    have := heap_alloc_new w3 (Obj.cells #[Value.slice a L.length cap] 46)
    rw [sA] at this
    rw [cell_of_row _ _ 0 _ 46 (0, 0) this]; rfl
  obtain ⟨w4, hw4, D4, sA, bA⟩ := S4
  rw [hw4]
  clear hw4
  have rdA : RdB w.heap.size w4 a L := hrd.rdB.same (fun g hg => D4.be.block g hg)
  refine wp_rangeT h1 (gf := 72) (lb := #[.pointer (some ⟨w.heap.size + 1 + 1 + 1, 0, none⟩)]) rfl (enters_of Tryz.func72 (by kernel_rfl) rfl)
    (reach_seq (n - 1) (by omega) (w.heap.size + 1 + 1 + 1) w.heap.size a cap L hLn hR w4 bA (by omega) (by omega) rdA) (Below.refl _ _) (fun _ => rfl) (by omega) (fun g hg => by omega)
    (fun pre T W => Box3 w.heap.size w (Obj.cells #[Value.slice a L.length cap] 46) (Obj.cells #[Value.int IntKind.i64 (en : Nat)] 3) (Obj.cells #[Value.int IntKind.i64 ((((nums pre).filter (fun i => (!decide ((L.getD i nd0).kd = 2 ∨ (L.getD i nd0).kd = 3)))).length : Nat) : Int)] 3) T W ∧ en ∉ nums pre)
    (fun c pre W => c = .exit 0 ∧ ∃ p, nums pre = p ++ [en] ∧ en ∉ p ∧ Box3 w.heap.size w (Obj.cells #[Value.slice a L.length cap] 46) (Obj.cells #[Value.int IntKind.i64 (en : Nat)] 3) (Obj.cells #[Value.int IntKind.i64 (((p.filter (fun i => (!decide ((L.getD i nd0).kd = 2 ∨ (L.getD i nd0).kd = 3)))).length : Nat) : Int)] 3) (fun _ => False) W)
    (fun pre T A B h hst => ⟨h.1.st hst, h.2⟩) (fun pre T A r o' h h1 h2 h3 => ⟨h.1.put (by omega), h.2⟩) ?ixput ?start ?a1 ?assign ?body ?done ?stop
  case ixput =>
    rintro c pre A r o' ⟨h0, p, h1, h2, h3⟩ h4 h5 h6
    exact ⟨h0, p, h1, h2, h3.put (by omega)⟩
  case assign =>
    intro l x W K hK
    gi_wp2
    exact hK
  case start =>
    intro W hst
    have kp : ∀ g, g < w.heap.size + 4 → W.heap[g]? = w4.heap[g]? := fun g hg => hst.block g (by omega) (fun h => h)
    refine ⟨⟨by rw [kp _ (by omega)]; exact D4.b1, by rw [kp _ (by omega)]; exact D4.b2, by rw [kp _ (by omega)]; exact D4.b3, fun g hg => by omega, ?_, by have := hst.size; omega⟩, by simp⟩
    exact ⟨hst.os.trans D4.be.os, hst.tape.trans D4.be.tape, hst.output.trans D4.be.output, by have := hst.size; have := D4.be.size; omega, fun g hg => (kp g (by omega)).trans (D4.be.block g hg)⟩
  case body =>
    rintro l pre ⟨x, hx⟩ T W ⟨hC, hen⟩ hpl hT hsz
    have hbe := hC.be
    obtain ⟨b, o, rfl, hb, c0, c6, c7⟩ := (hrd.rdB.same (fun g hg => hbe.block g hg)) x hx
    have t1 : W.cell? ⟨w.heap.size, 0, none⟩ = some (.slice (some ⟨b, o, none⟩) L.length cap) := by rw [cell_of_row W _ 0 _ 46 (0, 0) hC.b1]; rfl
    have t2 : W.cell? ⟨w.heap.size + 1, 0, none⟩ = some (.int .i64 (en : Nat)) := by rw [cell_of_row W _ 0 _ 3 (0, 0) hC.b2]; rfl
    have t3 : W.cell? ⟨w.heap.size + 1 + 1, 0, none⟩ = some (.int .i64 ((((nums pre).filter (fun i => (!decide ((L.getD i nd0).kd = 2 ∨ (L.getD i nd0).kd = 3)))).length : Nat) : Int)) := by rw [cell_of_row W _ 0 _ 3 (0, 0) hC.b3]; rfl
    have f3 : W.frozen? ⟨w.heap.size + 1 + 1, 0, none⟩ = false := frozen_of_row W _ 0 _ 3 hC.b3
    have hxc : (x : Int) < (L.length : Int) := by omega
    have hin := isInner_any (L.getD x nd0).kd
    have hnum : nums (pre ++ [⟨x, hx⟩]) = nums pre ++ [x] := by simp [nums]
    have h12 : 1 ≤ n - 1 - 1 := by omega
    have hlf : ((nums pre).filter (fun i => (!decide ((L.getD i nd0).kd = 2 ∨ (L.getD i nd0).kd = 3)))).length ≤ 2199023255552 := by
      have h1 := List.length_filter_le (fun i => (!decide ((L.getD i nd0).kd = 2 ∨ (L.getD i nd0).kd = 3))) (nums pre)
      simp [nums] at h1 ⊢
      omega
    by_cases hxe : x = en
    · subst hxe
      clear hin c0 c6 c7 f3
      simp only at *
      gi_wp2_with fail
      unfold postT
      exact ⟨⟨rfl, rfl⟩, rfl, nums pre, hnum, hen, ⟨hC.b1, hC.b2, hC.b3, fun g h => h.elim, hC.be, hC.sz⟩⟩
    · have hxb : ((x : Int) == (en : Int)) = false := by rw [beq_eq_false_iff_ne]; omega
      have HEN : Hid (en ∉ nums (pre ++ [⟨x, hx⟩])) := by
        show _ ∉ _
        rw [hnum]
        intro hm
        rcases List.mem_append.1 hm with h | h
        · exact hen h
        · simp at h; omega
      obtain ⟨pv, hpv⟩ : ∃ pv, decide ((L.getD x nd0).kd = 2 ∨ (L.getD x nd0).kd = 3) = pv := ⟨_, rfl⟩
      have HF : Hid (((nums (pre ++ [⟨x, hx⟩])).filter (fun i => (!decide ((L.getD i nd0).kd = 2 ∨ (L.getD i nd0).kd = 3)))).length = ((nums pre).filter (fun i => (!decide ((L.getD i nd0).kd = 2 ∨ (L.getD i nd0).kd = 3)))).length + (if pv = true then 0 else 1)) := by
        show _ = _
        rw [hnum, List.filter_append, List.filter_cons, hpv, List.length_append]
        cases pv <;> rfl
      rw [hpv] at hin
      generalize ((nums pre).filter (fun i => (!decide ((L.getD i nd0).kd = 2 ∨ (L.getD i nd0).kd = 3)))).length = C at *
      generalize (L.getD x nd0).kd = kd at hin c0
      clear hpv hxe hnum
      simp only at *
      cases pv
      · gi_wp2_with (refine ⟨trivial, ?_⟩; gi_at_call 47; refine (CallsIn.inRound l (callsIn_wide.2 (hin _))).mono ?_; rintro e w' ⟨rfl, hw'⟩; have hw2 := hw'.symm; subst hw2)
        unfold postT
        have ne := neq_set W (w.heap.size + 1 + 1) 0 (.int .i64 ((C : Int) + 1))
        have nb := heap_setCell_same W (w.heap.size + 1 + 1) 0 _ 3 (.int .i64 ((C : Int) + 1)) hC.b3
        refine ⟨⟨ne _ (by omega), ne _ (by omega)⟩, ⟨rfl, rfl, rfl, by simp, fun g hg h => ne g (by rcases h with h | h; omega; have := hC.tb g h; omega)⟩, ⟨by rw [ne _ (by omega)]; exact hC.b1, by rw [ne _ (by omega)]; exact hC.b2, ?_, hC.tb, hC.be.setCell (by show w.heap.size ≤ w.heap.size + 1 + 1; omega) _, by have := hC.sz; simp; omega⟩, HEN.out⟩
        rw [HF.out]
        simpa using nb
      · gi_wp2_with (refine ⟨trivial, ?_⟩; gi_at_call 47; refine (CallsIn.inRound l (callsIn_wide.2 (hin _))).mono ?_; rintro e w' ⟨rfl, hw'⟩; have hw2 := hw'.symm; subst hw2)
        unfold postT
        refine ⟨⟨rfl, rfl⟩, ⟨rfl, rfl, rfl, Nat.le_refl _, fun _ _ _ => rfl⟩, ⟨hC.b1, hC.b2, ?_, hC.tb, hC.be, hC.sz⟩, HEN.out⟩
        rw [HF.out]
        simpa using hC.b3
  case done =>
    rintro xs T W hxs ⟨hC, hen⟩ hD
    have t3 : W.cell? ⟨w.heap.size + 1 + 1, 0, none⟩ = some (.int .i64 (plc L en : Nat)) := by
      rw [cell_of_row W _ 0 _ 3 (0, 0) hC.b3]
      unfold plc
      rw [hxs] at hen ⊢
      rw [takeWhile_all hen]
      rfl
    rw [sA] at hD ⊢
    gi_wp2_with fail
    refine ⟨by simp, .inl ⟨_, _, rfl, run_takeDeferred hD, ?_⟩⟩
    refine ⟨_, results_tmp rfl _ _ _, rfl, ?_⟩
    exact hC.be.trans (belowK_b (w := w) (Nat.le_refl _) W (w.heap.size + 4) _ _ (by omega) hD rfl rfl)
  case stop =>
    rintro c pre W hpre ⟨rfl, p, hp, hen, hC⟩ hD
    rw [hp] at hpre
    have t3 : W.cell? ⟨w.heap.size + 1 + 1, 0, none⟩ = some (.int .i64 (plc L en : Nat)) := by
      rw [cell_of_row W _ 0 _ 3 (0, 0) hC.b3]
      unfold plc
      rw [takeWhile_pre hpre hen]
      rfl
    rw [sA] at hD ⊢
    gi_wp2_with fail
    refine ⟨by simp, .inl ⟨_, _, rfl, run_takeDeferred hD, ?_⟩⟩
    refine ⟨_, results_tmp rfl _ _ _, rfl, ?_⟩
    exact hC.be.trans (belowK_b (w := w) (Nat.le_refl _) W (w.heap.size + 4) _ _ (by omega) hD rfl rfl)
end Go.Proofs.YtinjikoocegooaaGreatDoor
set_option linter.unusedVariables false
set_option linter.unusedSimpArgs false
namespace Go.Proofs.YtinjikoocegooaaGreatDoor
open Go.RowKit Go.Shelf
theorem place_any (a : Option Addr) (cap en : Nat) (L : List Nd) (hLn : L.length ≤ 2199023255552) (hR : Rgt L) (w : World) (hrd : RdN w a L) :
    Calls Tryz.prog 31 #[.slice a L.length cap, .int .i64 (en : Nat)] w fun e w' => e = .returned (.int .i64 (plc L en : Nat)) ∧ Keep w w' :=
  (callsIn_wide (n := 3)).1 (place_in 3 (by omega) a cap en L hLn hR w hrd)
/-- A vector's leaf. -/
def endN (L : List Nd) (xs : List Nat) : Nat := (way (shp L) (chs L xs) L.length).getLastD 0
theorem wyE_ok {L : List Nd} {m : Nat} (h : wyE L m = 0) : shE L = 0 ∧ lackB L m = false := by
  unfold wyE at h
  split at h
  · rename_i h0
    refine ⟨h0, ?_⟩
    cases hl : lackB L m
    · rfl
    · rw [hl] at h; cases h
  · contradiction
theorem way_last {L : List Nd} {xs : List Nat} (h : shE L = 0) : ∃ l, way (shp L) (chs L xs) L.length = l ++ [endN L xs] ∧ (shp L).K (endN L xs) = false ∧ endN L xs < L.length ∧ (way (shp L) (chs L xs) L.length).length ≤ L.length := by
  obtain ⟨e, l, h1, h2, h3, h4⟩ := way_end (shE_tr h) (chs L xs)
  have : endN L xs = e := by unfold endN; rw [h1]; simp
  rw [this]
  exact ⟨l, h1, h2, h3.lt (shE_tr h).wi, h4⟩
def lfK (L : List Nd) (xs : List Nat) : Nat := if wyE L xs.length = 0 then plc L (endN L xs) else 0
def lfV (L : List Nd) (xs : List Nat) : Int := if wyE L xs.length = 0 then (L.getD (endN L xs) nd0).vl else 0
set_option maxRecDepth 100000 in
set_option maxHeartbeats 1000000 in
theorem Leaf_any (a ax : Option Addr) (cap cx : Nat) (out : Int) (L : List Nd) (xs : List Nat) (hLn : L.length ≤ 2199023255552) (hxl : xs.length ≤ 17592186044416) (w : World) (hrd : RdN w a L) (hxd : RdF w ax xs) :
    Calls Tryz.prog 12 #[.agg #[.int .i64 out, .slice a L.length cap], .slice ax xs.length cx] w fun e w' => e = .returned (.tuple #[.int .i64 (lfK L xs : Nat), .int .i64 (lfV L xs), .int .i64 (wyE L xs.length)]) ∧ Keep w w' := by
  have hW := fun (wx : World) (k : Keep w wx) => Way_any a ax cap cx out L xs hLn hxl wx (hrd.keep k) (hxd.keep k)
  have k0 : Keep w (w.alloc (Obj.cells #[Value.int IntKind.i64 out, Value.slice a L.length cap] 48)) := (Keep.refl w).alloc _
  have c1 : (w.alloc (Obj.cells #[Value.int IntKind.i64 out, Value.slice a L.length cap] 48)).cell? ⟨w.heap.size, 1, none⟩ = some (.slice a L.length cap) := by
    rw [cell_of_row _ _ 1 _ 48 (0, 0) (heap_alloc_new w _)]; rfl
  have hW1 := hW _ k0
  clear hW
  by_cases hE : wyE L xs.length = 0
  · obtain ⟨hS, hlk⟩ := wyE_ok hE
    obtain ⟨l, hl, hK, hen, hll⟩ := way_last (xs := xs) hS
    have hP := fun (wx : World) (k : Keep w wx) => place_any a cap (endN L xs) L hLn (shE_rgt hS) wx (hrd.keep k)
    have HR : Hid (lfK L xs = plc L (endN L xs) ∧ lfV L xs = (L.getD (endN L xs) nd0).vl ∧ wyE L xs.length = 0) := ⟨by unfold lfK; rw [if_pos hE], by unfold lfV; rw [if_pos hE], hE⟩
    have hy : wyL L xs = l ++ [endN L xs] := by unfold wyL; rw [if_pos hE]; exact hl
    rw [hE, hy] at hW1
    rw [hl] at hll
    simp only [List.length_append, List.length_singleton] at hll
    generalize hen' : endN L xs = en at *
    clear hl hK hy hE hS hlk
    go_enter Tryz.func12, Tryz.ntmps12
    go_wp2_with fail
    generalize w.alloc _ = w1 at k0 c1 hW1 ⊢
    refine hW1.mono ?_
    rintro e w2 ⟨v, rfl, ho, hb, k2⟩
    obtain ⟨g, cv, rfl, hcv, hg, hcell⟩ := ho.cells (by simp)
    have hce := hcell l.length (by simp)
    rw [show (l ++ [en]).getD l.length 0 = en by simp [List.getD]] at hce
    have c2 := k2.cell c1
    have k02 := k0.trans k2
    obtain ⟨b, o, ca, cp, rfl, hnd⟩ := (hrd.keep k02) en hen
    have hv := hnd.c1
    have hlen : (l ++ [en]).length = l.length + 1 := by simp
    rw [hlen] at hcv ⊢
    clear ho hb hcell hlen hW1
    have hei : (en : Int) < (L.length : Int) := by omega
    go_wp2_with fail
    generalize w.heap.size = s at c2 ⊢
    generalize (L.getD en nd0).vl = V at hv HR
    have kd : Keep w w2.drew := k02.drew
    go_region_held3 (fun w' => w'.cell? ⟨s, 1, none⟩ = some (Value.slice (some ⟨b, o, none⟩) L.length cap) ∧ w'.cell? ⟨b, o + en * 8 + 1, none⟩ = some (Value.int .i64 V)) (go_keep) (first
      | (go_at_call 31; refine (hP _ ?_).mono ?_; exact kd; rintro e wA ⟨rfl, kA⟩; have s0 := Keep.cell kA c2; have s1 := Keep.cell kA hv))
    all_goals
      go_simp
      go_wp2_with fail
      go_ret3
      obtain ⟨r1, r2, r3⟩ := HR.out
      rw [r1, r2, r3]
      exact ⟨rfl, kd.trans kA⟩
  · have HR : Hid (lfK L xs = 0 ∧ lfV L xs = 0) := ⟨by unfold lfK; rw [if_neg hE], by unfold lfV; rw [if_neg hE]⟩
    have hB : (wyE L xs.length == 0) = false := by simpa using hE
    have hB2 : (wyE L xs.length != 0) = true := by simpa using hE
    generalize wyE L xs.length = E at *
    go_enter Tryz.func12, Tryz.ntmps12
    go_wp2_with fail
    generalize w.alloc _ = w1 at k0 c1 hW1 ⊢
    refine hW1.mono ?_
    rintro e w2 ⟨v, rfl, ho, hb, k2⟩
    go_wp2_with fail
    go_ret3
    rw [HR.out.1, HR.out.2]
    exact ⟨rfl, k0.trans k2⟩
end Go.Proofs.YtinjikoocegooaaGreatDoor
set_option linter.unusedVariables false
set_option linter.unusedSimpArgs false
namespace Go.Proofs.YtinjikoocegooaaGreatDoor
open Go.RowKit Go.Shelf
attribute [local go_sem] Oper.semAt_some
/-- What a tree adds, and its error. -/
def woE (L : List Nd) (out N : Int) (m : Nat) : Int := if shE L = 0 then (if out < 0 ∨ N ≤ out then 6 else if lackB L m then 72 else 0) else shE L
def woV (L : List Nd) (out N : Int) (xs : List Nat) : Int := if woE L out N xs.length = 0 then (L.getD (endN L xs) nd0).vl else 0
/-- Two boxes that an iterator lets alone. -/
structure Box2 (A : Nat) (w : World) (o1 : Obj) (T : Nat → Prop) (W : World) : Prop where
  b1 : W.heap[A]? = some o1
  tb : ∀ g, T g → A + 1 ≤ g
  be : Below A w W
  sz : A + 3 ≤ W.heap.size
theorem Box2.st {A : Nat} {w : World} {o1 : Obj} {T : Nat → Prop} {W B : World} (h : Box2 A w o1 T W) (hst : Stp T W B) : Box2 A w o1 (more T W B) B := by
  obtain ⟨q1, q4, q5, q6⟩ := h
  have kp : ∀ g, g < A + 1 → B.heap[g]? = W.heap[g]? := fun g hg => hst.block g (by omega) (fun h => by have := q4 g h; omega)
  refine ⟨by rw [kp _ (by omega)]; exact q1, ?_, ?_, by have := hst.size; omega⟩
  · rintro g (h | h)
    · exact q4 g h
    · omega
  · exact ⟨hst.os.trans q5.os, hst.tape.trans q5.tape, hst.output.trans q5.output, by have := hst.size; have := q5.size; omega, fun g hg => (kp g (by omega)).trans (q5.block g hg)⟩
theorem Box2.put {A : Nat} {w : World} {o1 : Obj} {T : Nat → Prop} {W : World} {r : Nat} {o' : Obj} (h : Box2 A w o1 T W) (h1 : A + 3 ≤ r) : Box2 A w o1 T (W.putObj r o') := by
  obtain ⟨q1, q4, q5, q6⟩ := h
  have kp : ∀ g, g < A + 1 → (W.putObj r o').heap[g]? = W.heap[g]? := fun g hg => World.putObj_heap_other (by omega)
  refine ⟨by rw [kp _ (by omega)]; exact q1, q4, ?_, by simpa using q6⟩
  exact ⟨q5.os, q5.tape, q5.output, by simpa using q5.size, fun g hg => (kp g (by omega)).trans (q5.block g hg)⟩
/-- The value of the last node that was come by. -/
def lastV (L : List Nd) (p : List Nat) : Int := if p = [] then 0 else (L.getD (p.getLastD 0) nd0).vl
theorem lastV_snoc (L : List Nd) (p : List Nat) (x : Nat) : lastV L (p ++ [x]) = (L.getD x nd0).vl := by unfold lastV; simp
set_option maxRecDepth 100000 in
set_option maxHeartbeats 2000000 in
theorem worth_in (n : Nat) (hn : 3 ≤ n) (a ax : Option Addr) (cap cx : Nat) (out N : Int) (L : List Nd) (xs : List Nat) (hLn : L.length ≤ 2199023255552) (hxl : xs.length ≤ 17592186044416) (hE : shE L = 0) (ho1 : 0 ≤ out) (ho2 : out < N) (hlk : lackB L xs.length = false) (w : World) (hrd : RdN w a L) (hxd : RdF w ax xs) :
    CallsIn Fence.wide n Tryz.prog 20 #[.agg #[.int .i64 out, .slice a L.length cap], .int .i64 N, .slice ax xs.length cx] w fun e w' => e = .returned (.tuple #[.int .i64 (L.getD (endN L xs) nd0).vl, .int .i64 0]) ∧ Keep w w' := by
  have h1 : 1 ≤ n := by omega
  have hS := fun (wx : World) (k : Keep w wx) => Shape_in (n - 1) wx a cap out L hLn (hrd.keep k)
  have hLk := fun (wx : World) (k : Keep w wx) => lacks_any a ax cap xs.length cx L hLn wx (hrd.keep k)
  rw [hE] at hS
  rw [hlk] at hLk
  refine callsIn_of_wp_marks Tryz.func20 rfl trivial ?_ rfl
  simp only [Tryz.ntmps20, List.size_toArray, List.length_cons, List.length_nil, Nat.reduceAdd, Nat.reduceSub, Array.replicate_succ, Array.replicate_zero, List.push_toArray, List.append_toArray, List.nil_append, List.cons_append]
  have k0 : Keep w (w.alloc (Obj.cells #[Value.int IntKind.i64 out, Value.slice a L.length cap] 48)) := (Keep.refl w).alloc _
  have c0 : (w.alloc (Obj.cells #[Value.int IntKind.i64 out, Value.slice a L.length cap] 48)).cell? ⟨w.heap.size, 0, none⟩ = some (.int .i64 out) := by
    rw [cell_of_row _ _ 0 _ 48 (0, 0) (heap_alloc_new w _)]; rfl
  have c1 : (w.alloc (Obj.cells #[Value.int IntKind.i64 out, Value.slice a L.length cap] 48)).cell? ⟨w.heap.size, 1, none⟩ = some (.slice a L.length cap) := by
    rw [cell_of_row _ _ 1 _ 48 (0, 0) (heap_alloc_new w _)]; rfl
  have hSz : (w.alloc (Obj.cells #[Value.int IntKind.i64 out, Value.slice a L.length cap] 48)).heap.size = w.heap.size + 1 := by simp
  have hS1 := hS _ k0
  gi_wp2_with fail
  generalize w.alloc _ = w1 at k0 c0 c1 hS1 hSz ⊢
  refine ⟨trivial, ?_⟩
  refine hS1.mono ?_
  rintro e w2 ⟨rfl, k2⟩
  have c0 := k2.cell c0
  have c1 := k2.cell c1
  have k02 := k0.trans k2
  have z2 : w.heap.size + 1 ≤ w2.heap.size := by have := k2.le; omega
  clear hS hS1 k2 hSz
  have q1 : decide (out < 0) = false := by simpa using ho1
  have q2 : ¬ out < 0 := by omega
  have q3 : ¬ N ≤ out := by omega
  gi_wp2_with fail
  refine ⟨trivial, ?_⟩
  refine (callsIn_wide.2 (hLk _ k02)).mono ?_
  rintro e w3 ⟨rfl, k3⟩
  have c1 := k3.cell c1
  have k03 := k02.trans k3
  have z3 : w.heap.size + 1 ≤ w3.heap.size := by have := k3.le; omega
  clear hLk k02 k3
  have c1A := fun o => ((Keep.refl w3).alloc o).cell c1
  gi_wp2_with (refine ⟨trivial, ?_⟩; gi_at_call 45; refine (down_in (n - 1) _ _ _ _ _ _ _).mono ?_; rintro e w' ⟨rfl, rfl⟩)
  obtain ⟨w4, hw4, kA, sA, lA, bA, xA⟩ := boxes3 w3 (Value.int IntKind.i64 0) (Value.slice a L.length cap) (Value.slice ax xs.length cx) 2 46 27
  rw [hw4]
  clear hw4 c1A
  have bA' : w4.cell? ⟨w3.heap.size + 1, 0, none⟩ = some (.slice a L.length cap) := by rw [cell_of_row _ _ 0 _ 46 (0, 0) bA]; rfl
  have xA' : w4.cell? ⟨w3.heap.size + 1 + 1, 0, none⟩ = some (.slice ax xs.length cx) := by rw [cell_of_row _ _ 0 _ 27 (0, 0) xA]; rfl
  refine wp_rangeT h1 (gf := 70) (lb := #[.pointer (some ⟨w3.heap.size + 1, 0, none⟩), .pointer (some ⟨w3.heap.size + 1 + 1, 0, none⟩)]) rfl (enters_of Tryz.func70 (by kernel_rfl) rfl)
    (down_seq (n - 1) (by omega) (w3.heap.size + 1) (w3.heap.size + 1 + 1) a ax cap cx L xs hLn hxl hE hlk w w4 bA' xA' (by omega) (by omega) (k03.trans kA) hrd hxd) (Below.refl _ _) (fun _ => rfl) (by omega) (fun g hg => by omega)
    (fun pre T W => Box2 w3.heap.size w3 (Obj.cells #[Value.int IntKind.i64 (lastV L (nums pre))] 2) T W)
    (fun _ _ _ => False) (fun pre T A B h hst => h.st hst) (fun pre T A r o' h h1 h2 h3 => h.put (by omega)) (fun _ _ _ _ _ h => h.elim) ?start ?a1 ?assign ?body ?done (fun _ _ _ _ h => h.elim)
  case assign =>
    intro l x W K hK
    gi_wp2
    exact hK
  case start =>
    intro W hst
    have kp : ∀ g, g < w3.heap.size + 3 → W.heap[g]? = w4.heap[g]? := fun g hg => hst.block g (by omega) (fun h => h)
    refine ⟨by rw [kp _ (by omega)]; exact lA, fun g hg => by omega, ?_, by have := hst.size; omega⟩
    exact ⟨hst.os.trans kA.os, hst.tape.trans kA.tape, hst.output.trans kA.output, by have := hst.size; have := kA.size; omega, fun g hg => (kp g (by omega)).trans (kA.block g hg)⟩
  case body =>
    rintro l pre ⟨x, hx⟩ T W hC hpl hT hsz
    have kW : Keep w3 W := hC.be
    obtain ⟨b, o, ca, cp, rfl, hnd⟩ := (hrd.keep (k03.trans kW)) x hx
    have cv := hnd.c1
    have t1 := kW.cell c1
    have t3 : W.cell? ⟨w3.heap.size, 0, none⟩ = some (.int .i64 (lastV L (nums pre))) := by rw [cell_of_row W _ 0 _ 2 (0, 0) hC.b1]; rfl
    have f3 : W.frozen? ⟨w3.heap.size, 0, none⟩ = false := frozen_of_row W _ 0 _ 2 hC.b1
    have hnum : nums (pre ++ [⟨x, hx⟩]) = nums pre ++ [x] := by simp [nums]
    have h12 : 1 ≤ n - 1 - 1 := by omega
    have hxc : (x : Int) < (L.length : Int) := by omega
    have HL : Hid (lastV L (nums (pre ++ [⟨x, hx⟩])) = (L.getD x nd0).vl) := by show _ = _; rw [hnum, lastV_snoc]
    generalize lastV L (nums pre) = V at t3
    generalize (L.getD x nd0).vl = V2 at cv HL
    have ne := neq_set W w3.heap.size 0 (.int .i64 V2)
    have nb := heap_setCell_same W w3.heap.size 0 _ 2 (.int .i64 V2) hC.b1
    clear hnd hnum
    simp only at *
    gi_wp2_with fail
    unfold postT
    refine ⟨⟨ne _ (by omega), ne _ (by omega)⟩, ⟨rfl, rfl, rfl, by simp, fun g hg h => ne g (by rcases h with h | h; omega; have := hC.tb g h; omega)⟩, ⟨?_, hC.tb, hC.be.setCell (Nat.le_refl _) _, by have := hC.sz; simp; omega⟩⟩
    rw [HL.out]
    simpa using nb
  case done =>
    rintro xs' T W hxs hC hD
    obtain ⟨l, hl, -, -, -⟩ := way_last (xs := xs) hE
    have t3 : W.cell? ⟨w3.heap.size, 0, none⟩ = some (.int .i64 (L.getD (endN L xs) nd0).vl) := by
      rw [cell_of_row W _ 0 _ 2 (0, 0) hC.b1, hxs, hl, lastV_snoc]; rfl
    obtain ⟨V, hV⟩ : ∃ V, (L.getD (endN L xs) nd0).vl = V := ⟨_, rfl⟩
    rw [hV] at t3
    replace hV : Hid _ := hV
    rw [sA] at hD ⊢
    gi_wp2_with fail
    refine ⟨by simp, .inl ⟨_, _, rfl, run_takeDeferred hD, ?_⟩⟩
    refine ⟨_, results_tmp2 rfl _ _ _, by rw [hV.out]; rfl, ?_⟩
    have hb1 : Below w.heap.size w W := k03.trans hC.be
    exact hb1.trans (belowK_b (w := w) (Nat.le_refl _) W (w3.heap.size + 3) _ _ (by omega) hD rfl rfl)
end Go.Proofs.YtinjikoocegooaaGreatDoor
set_option linter.unusedVariables false
set_option linter.unusedSimpArgs false
namespace Go.Proofs.YtinjikoocegooaaGreatDoor
open Go.RowKit Go.Shelf
attribute [local go_sem] Oper.semAt_some
set_option maxRecDepth 100000 in
set_option maxHeartbeats 2000000 in
theorem worth_err (n : Nat) (hn : 3 ≤ n) (a ax : Option Addr) (cap cx m : Nat) (out N : Int) (L : List Nd) (hLn : L.length ≤ 2199023255552) (hE : shE L ≠ 0) (w : World) (hrd : RdN w a L) :
    CallsIn Fence.wide n Tryz.prog 20 #[.agg #[.int .i64 out, .slice a L.length cap], .int .i64 N, .slice ax m cx] w fun e w' => e = .returned (.tuple #[.int .i64 0, .int .i64 (shE L)]) ∧ Keep w w' := by
  have h1 : 1 ≤ n := by omega
  have hS := fun (wx : World) (k : Keep w wx) => Shape_in (n - 1) wx a cap out L hLn (hrd.keep k)
  have hB : (shE L == 0) = false := by simpa using hE
  have hB2 : (shE L != 0) = true := by simpa using hE
  clear hE
  generalize shE L = E at hB hB2 hS ⊢
  refine callsIn_of_wp_marks Tryz.func20 rfl trivial ?_ rfl
  simp only [Tryz.ntmps20, List.size_toArray, List.length_cons, List.length_nil, Nat.reduceAdd, Nat.reduceSub, Array.replicate_succ, Array.replicate_zero, List.push_toArray, List.append_toArray, List.nil_append, List.cons_append]
  have k0 : Keep w (w.alloc (Obj.cells #[Value.int IntKind.i64 out, Value.slice a L.length cap] 48)) := (Keep.refl w).alloc _
  have c0 : (w.alloc (Obj.cells #[Value.int IntKind.i64 out, Value.slice a L.length cap] 48)).cell? ⟨w.heap.size, 0, none⟩ = some (.int .i64 out) := by
    rw [cell_of_row _ _ 0 _ 48 (0, 0) (heap_alloc_new w _)]; rfl
  have c1 : (w.alloc (Obj.cells #[Value.int IntKind.i64 out, Value.slice a L.length cap] 48)).cell? ⟨w.heap.size, 1, none⟩ = some (.slice a L.length cap) := by
    rw [cell_of_row _ _ 1 _ 48 (0, 0) (heap_alloc_new w _)]; rfl
  have hS1 := hS _ k0
  gi_wp2_with fail
  generalize w.alloc _ = w1 at k0 c0 c1 hS1 ⊢
  refine ⟨trivial, ?_⟩
  refine hS1.mono ?_
  rintro e w2 ⟨rfl, k2⟩
  have c0 := k2.cell c0
  have c1 := k2.cell c1
  have k02 := k0.trans k2
  clear hS hS1 k2
  gi_wp2_with fail
  exact ⟨_, results_tmp2 rfl _ _ _, rfl, k02⟩
set_option maxRecDepth 100000 in
set_option maxHeartbeats 2000000 in
theorem worth_out (n : Nat) (hn : 3 ≤ n) (a ax : Option Addr) (cap cx m : Nat) (out N : Int) (L : List Nd) (hLn : L.length ≤ 2199023255552) (hE : shE L = 0) (ho : out < 0 ∨ N ≤ out) (w : World) (hrd : RdN w a L) :
    CallsIn Fence.wide n Tryz.prog 20 #[.agg #[.int .i64 out, .slice a L.length cap], .int .i64 N, .slice ax m cx] w fun e w' => e = .returned (.tuple #[.int .i64 0, .int .i64 6]) ∧ Keep w w' := by
  have h1 : 1 ≤ n := by omega
  have hS := fun (wx : World) (k : Keep w wx) => Shape_in (n - 1) wx a cap out L hLn (hrd.keep k)
  rw [hE] at hS
  refine callsIn_of_wp_marks Tryz.func20 rfl trivial ?_ rfl
  simp only [Tryz.ntmps20, List.size_toArray, List.length_cons, List.length_nil, Nat.reduceAdd, Nat.reduceSub, Array.replicate_succ, Array.replicate_zero, List.push_toArray, List.append_toArray, List.nil_append, List.cons_append]
  have k0 : Keep w (w.alloc (Obj.cells #[Value.int IntKind.i64 out, Value.slice a L.length cap] 48)) := (Keep.refl w).alloc _
  have c0 : (w.alloc (Obj.cells #[Value.int IntKind.i64 out, Value.slice a L.length cap] 48)).cell? ⟨w.heap.size, 0, none⟩ = some (.int .i64 out) := by
    rw [cell_of_row _ _ 0 _ 48 (0, 0) (heap_alloc_new w _)]; rfl
  have c1 : (w.alloc (Obj.cells #[Value.int IntKind.i64 out, Value.slice a L.length cap] 48)).cell? ⟨w.heap.size, 1, none⟩ = some (.slice a L.length cap) := by
    rw [cell_of_row _ _ 1 _ 48 (0, 0) (heap_alloc_new w _)]; rfl
  have hS1 := hS _ k0
  gi_wp2_with fail
  generalize w.alloc _ = w1 at k0 c0 c1 hS1 ⊢
  refine ⟨trivial, ?_⟩
  refine hS1.mono ?_
  rintro e w2 ⟨rfl, k2⟩
  have c0 := k2.cell c0
  have c1 := k2.cell c1
  have k02 := k0.trans k2
  clear hS hS1 k2
  by_cases q : out < 0
  · have q1 : decide (out < 0) = true := by simpa using q
    gi_wp2_with fail
    exact ⟨_, results_tmp2 rfl _ _ _, rfl, k02⟩
  · have q1 : decide (out < 0) = false := by simpa using q
    have q3 : N ≤ out := by omega
    clear ho
    gi_wp2_with fail
    exact ⟨_, results_tmp2 rfl _ _ _, rfl, k02⟩
set_option maxRecDepth 100000 in
set_option maxHeartbeats 2000000 in
theorem worth_lack (n : Nat) (hn : 3 ≤ n) (a ax : Option Addr) (cap cx m : Nat) (out N : Int) (L : List Nd) (hLn : L.length ≤ 2199023255552) (hE : shE L = 0) (ho1 : 0 ≤ out) (ho2 : out < N) (hlk : lackB L m = true) (w : World) (hrd : RdN w a L) :
    CallsIn Fence.wide n Tryz.prog 20 #[.agg #[.int .i64 out, .slice a L.length cap], .int .i64 N, .slice ax m cx] w fun e w' => e = .returned (.tuple #[.int .i64 0, .int .i64 72]) ∧ Keep w w' := by
  have h1 : 1 ≤ n := by omega
  have hS := fun (wx : World) (k : Keep w wx) => Shape_in (n - 1) wx a cap out L hLn (hrd.keep k)
  have hLk := fun (wx : World) (k : Keep w wx) => lacks_any a ax cap m cx L hLn wx (hrd.keep k)
  rw [hE] at hS
  rw [hlk] at hLk
  refine callsIn_of_wp_marks Tryz.func20 rfl trivial ?_ rfl
  simp only [Tryz.ntmps20, List.size_toArray, List.length_cons, List.length_nil, Nat.reduceAdd, Nat.reduceSub, Array.replicate_succ, Array.replicate_zero, List.push_toArray, List.append_toArray, List.nil_append, List.cons_append]
  have k0 : Keep w (w.alloc (Obj.cells #[Value.int IntKind.i64 out, Value.slice a L.length cap] 48)) := (Keep.refl w).alloc _
  have c0 : (w.alloc (Obj.cells #[Value.int IntKind.i64 out, Value.slice a L.length cap] 48)).cell? ⟨w.heap.size, 0, none⟩ = some (.int .i64 out) := by
    rw [cell_of_row _ _ 0 _ 48 (0, 0) (heap_alloc_new w _)]; rfl
  have c1 : (w.alloc (Obj.cells #[Value.int IntKind.i64 out, Value.slice a L.length cap] 48)).cell? ⟨w.heap.size, 1, none⟩ = some (.slice a L.length cap) := by
    rw [cell_of_row _ _ 1 _ 48 (0, 0) (heap_alloc_new w _)]; rfl
  have hS1 := hS _ k0
  gi_wp2_with fail
  generalize w.alloc _ = w1 at k0 c0 c1 hS1 ⊢
  refine ⟨trivial, ?_⟩
  refine hS1.mono ?_
  rintro e w2 ⟨rfl, k2⟩
  have c0 := k2.cell c0
  have c1 := k2.cell c1
  have k02 := k0.trans k2
  clear hS hS1 k2
  have q1 : decide (out < 0) = false := by simpa using ho1
  have q2 : ¬ out < 0 := by omega
  have q3 : ¬ N ≤ out := by omega
  gi_wp2_with fail
  refine ⟨trivial, ?_⟩
  refine (callsIn_wide.2 (hLk _ k02)).mono ?_
  rintro e w3 ⟨rfl, k3⟩
  gi_wp2_with fail
  exact ⟨_, results_tmp2 rfl _ _ _, rfl, k02.trans k3⟩
theorem worth_any (a ax : Option Addr) (cap cx : Nat) (out N : Int) (L : List Nd) (xs : List Nat) (hLn : L.length ≤ 2199023255552) (hxl : xs.length ≤ 17592186044416) (w : World) (hrd : RdN w a L) (hxd : RdF w ax xs) :
    Calls Tryz.prog 20 #[.agg #[.int .i64 out, .slice a L.length cap], .int .i64 N, .slice ax xs.length cx] w fun e w' => e = .returned (.tuple #[.int .i64 (woV L out N xs), .int .i64 (woE L out N xs.length)]) ∧ Keep w w' := by
  by_cases hE : shE L = 0
  · by_cases ho : out < 0 ∨ N ≤ out
    · have e0 : woE L out N xs.length = 6 := by unfold woE; rw [if_pos hE, if_pos ho]
      have e1 : woV L out N xs = 0 := by unfold woV; rw [e0]; rfl
      rw [e0, e1]
      exact (callsIn_wide (n := 3)).1 (worth_out 3 (by omega) a ax cap cx xs.length out N L hLn hE ho w hrd)
    · cases hlk : lackB L xs.length
      · have e0 : woE L out N xs.length = 0 := by unfold woE; rw [if_pos hE, if_neg ho, hlk]; rfl
        have e1 : woV L out N xs = (L.getD (endN L xs) nd0).vl := by unfold woV; rw [if_pos e0]
        rw [e0, e1]
        exact (callsIn_wide (n := 3)).1 (worth_in 3 (by omega) a ax cap cx out N L xs hLn hxl hE (by omega) (by omega) hlk w hrd hxd)
      · have e0 : woE L out N xs.length = 72 := by unfold woE; rw [if_pos hE, if_neg ho, hlk]; rfl
        have e1 : woV L out N xs = 0 := by unfold woV; rw [e0]; rfl
        rw [e0, e1]
        exact (callsIn_wide (n := 3)).1 (worth_lack 3 (by omega) a ax cap cx xs.length out N L hLn hE (by omega) (by omega) hlk w hrd)
  · have e0 : woE L out N xs.length = shE L := by unfold woE; rw [if_neg hE]
    have e1 : woV L out N xs = 0 := by unfold woV; rw [if_neg (by rw [e0]; exact hE)]
    rw [e0, e1]
    exact (callsIn_wide (n := 3)).1 (worth_err 3 (by omega) a ax cap cx xs.length out N L hLn hE w hrd)
end Go.Proofs.YtinjikoocegooaaGreatDoor
set_option linter.unusedVariables false
set_option linter.unusedSimpArgs false
namespace Go.Proofs.YtinjikoocegooaaGreatDoor
open Go.RowKit Go.Shelf
/-- Whole numbers as cells. -/
def UZ (l : List Int) : List Value := l.map (fun x => Value.int .i64 x)
theorem UZ_length (l : List Int) : (UZ l).length = l.length := by simp [UZ]
theorem UZ_get (l : List Int) (j : Nat) (h : j < l.length) : (UZ l)[j]? = some (.int .i64 (l.getD j 0)) := by simp [UZ, List.getD, h]
theorem UZ_one (l : List Int) : ∀ u ∈ UZ l, u.oneCell' = true := by intro u hu; obtain ⟨_, _, rfl⟩ := List.mem_map.1 hu; rfl
theorem i2 : (Tryz.prog.info? 2).map (fun i => (i.zero, i.size, i.bytes)) = some (some (.int .i64 0), 1, 8) := by kernel_rfl
/-- A list of whole numbers with memory of its own. -/
def OwnZ (E B : Nat) (w : World) (v : Value) (l : List Int) : Prop := w.ownsRow B E 1 v l.length (UZ l)
theorem OwnZ.same {E B : Nat} {w w' : World} {v : Value} {l : List Int} (h : OwnZ E B w v l) (k : ∀ b, v.ownBlock = some b → w'.heap[b]? = w.heap[b]?) : OwnZ E B w' v l := by
  refine ⟨h.1, ?_⟩
  rcases h.2 with h2 | ⟨g, cap, cur, hv, hg, hh, r⟩
  · exact .inl h2
  · exact .inr ⟨g, cap, cur, hv, hg, by rw [k g (by rw [hv]; rfl)]; exact hh, r⟩
theorem OwnZ.block {E B : Nat} {w : World} {v : Value} {l : List Int} (h : OwnZ E B w v l) {b : Nat} (hb : v.ownBlock = some b) : B ≤ b ∧ ∃ cur, w.heap[b]? = some (.cells cur E (0, 0)) := by
  rcases h.2 with ⟨h1, _⟩ | ⟨g, cap, cur, hv, hg, hh, r⟩
  · rw [h1] at hb; cases hb
  · rw [hv] at hb
    have hb : some g = some b := hb
    simp only [Option.some.injEq] at hb
    subst hb
    exact ⟨hg, cur, hh⟩
theorem OwnZ.keep {E B : Nat} {w w' : World} {v : Value} {l : List Int} (h : OwnZ E B w v l) (k : Keep w w') : OwnZ E B w' v l :=
  h.same (fun b hb => by obtain ⟨_, cur, hh⟩ := h.block hb; exact k.block b (Array.getElem?_eq_some_iff.1 hh).1)
theorem OwnZ.mono {E B B' : Nat} {w : World} {v : Value} {l : List Int} (h : OwnZ E B w v l) (hB : B' ≤ B) : OwnZ E B' w v l := by
  refine ⟨h.1, ?_⟩
  rcases h.2 with h2 | ⟨g, cap, cur, hv, hg, r⟩
  · exact .inl h2
  · exact .inr ⟨g, cap, cur, hv, by omega, r⟩
theorem OwnZ.nil (E B : Nat) (w : World) : OwnZ E B w (.slice none 0 0) [] := ⟨rfl, .inl ⟨rfl, rfl⟩⟩
theorem OwnZ.shape {E B : Nat} {w : World} {v : Value} {l : List Int} (h : OwnZ E B w v l) : ∃ a c, v = .slice a l.length c ∧ l.length ≤ c ∧ RdI w a l := by
  rcases h.2 with ⟨h1, h2⟩ | ⟨g, cap, cur, hv, hg, hh, h1, h2, h3, h4⟩
  · exact ⟨none, 0, by rw [h1, h2], by omega, fun j hj => by omega⟩
  · refine ⟨some ⟨g, 0, none⟩, cap, hv, h1, ?_⟩
    intro j hj
    refine ⟨g, 0, rfl, ?_⟩
    rw [Nat.zero_add, cell_of_row w g j cur E (0, 0) hh, ← UZ_get l j hj, ← h4]
    simp [hj]
/-- A cell written over. -/
theorem OwnZ.set {E B : Nat} {w : World} {g c : Nat} {l : List Int} (h : OwnZ E B w (.slice (some ⟨g, 0, none⟩) l.length c) l) (j : Nat) (hj : j < l.length) (x : Int) : OwnZ E B (w.setCell ⟨g, j, none⟩ (.int .i64 x)) (.slice (some ⟨g, 0, none⟩) l.length c) (l.set j x) ∧ w.frozen? ⟨g, j, none⟩ = false := by
  rcases h.2 with ⟨h1, h2⟩ | ⟨g', cap, cur, hv, hg, hh, h1, h2, h3, h4⟩
  · cases h1
  · simp only [Value.slice.injEq, Option.some.injEq, Addr.mk.injEq, and_true, true_and] at hv
    obtain ⟨rfl, rfl⟩ := hv
    refine ⟨⟨by simp [UZ], .inr ⟨g, c, cur.setIfInBounds j (.int .i64 x), by simp, hg, heap_setCell_same w g j cur E _ hh, by simpa using h1, h2, by simpa using h3, ?_⟩⟩, frozen_of_row w g j cur E hh⟩
    rw [Array.toList_setIfInBounds]
    simp only [List.length_set, Nat.mul_one] at h4 ⊢
    rw [List.take_set, h4]
    simp [UZ, List.map_set]
/-- append(nil, l...). -/
theorem wpList_copyZ {w : World} {ops : Array Oper} {rest : List Oper} {o : Oper} {a : Act} {Q : Exit → Act → World → Prop} (hgd : o.guard = none) (s x : Operand)
    (ho : o.op = .call { callee := .builtin .append, args := #[s, x], argTypes := #[23, 23] }) (l : List Int) (ad : Addr) (c : Nat) (hs : a.eval s = .slice none 0 0)
    (hx : a.eval x = .slice (some ad) l.length c) (hr : RdI w (some ad) l) (hlen : l.length ≤ 17592186044416)
    (hK : ∀ v w1, OwnZ 2 w.heap.size w1 v l → Keep w w1 → wpList Tryz.prog ops Q rest (a.put o.dst v) w1) :
    wpList Tryz.prog ops Q (o :: rest) a w := by
  obtain ⟨i0, hi, hz0, hz1, hz2⟩ := info_parts i2
  refine wpList_append_own _ hgd s x 23 ho w.heap.size 2 i0 (.int .i64 0) 1 8 Tryz.underlying23 hi hz0 hz1 hz2 rfl (by decide) _ _ _ hs (OwnZ.nil 2 w.heap.size w) ad l.length c (UZ l) hx (by simp [UZ]) ?_ (UZ_one l) ?_ ?_ ?_ ?_
  · intro j u hj
    have hjl : j < l.length := by have := (List.getElem?_eq_some_iff.1 hj).1; simpa [UZ_length] using this
    rw [UZ_get l j hjl] at hj
    obtain ⟨b', o', e, hc⟩ := hr j hjl
    simp only [Option.some.injEq] at e
    subst e
    rw [Addr.add_lit, hc, hj]
  · simp only [maxLen, List.length_nil]; omega
  · simp only [List.length_nil]; omega
  · exact Nat.le_refl _
  · intro v' w1 h1 h2 _
    refine hK v' w1 ?_ ?_
    · unfold OwnZ; simpa [UZ] using h1
    · refine Below.grown (Keep.refl w) h2 (Nat.le_refl _) ?_
      intro k hk'
      cases hk'
set_option maxRecDepth 100000 in
theorem copyZ_any (a : Option Addr) (c : Nat) (l : List Int) (w : World) (hl : l.length ≤ 17592186044416) (hlc : l.length ≤ c) (hr : RdI w a l) :
    Calls Tryz.prog 19 #[.slice a l.length c] w fun e w' => ∃ v, e = .returned v ∧ OwnZ 2 w.heap.size w' v l ∧ Keep w w' := by
  rcases a with _ | ad
  · obtain rfl : l = [] := by
      by_cases h : l = []
      · exact h
      · obtain ⟨b, o, e, -⟩ := hr 0 (List.length_pos_iff.2 h); cases e
    go_enter Tryz.func19, Tryz.ntmps19
    go_wp2_with fail
    go_ret
    exact ⟨_, rfl, OwnZ.nil _ _ _, Keep.refl _⟩
  · go_enter Tryz.func19, Tryz.ntmps19
    go_wp2_with (at_builtin; refine wpList_copyZ rfl _ _ rfl l ad c ?_ ?_ hr hl ?_; rotate_left 2; intro v w1 h1 k1)
    go_ret
    exact ⟨_, rfl, h1, k1⟩
    all_goals rfl
/-- append(nil, l...). -/
theorem wpList_copyN {w : World} {ops : Array Oper} {rest : List Oper} {o : Oper} {a : Act} {Q : Exit → Act → World → Prop} (hgd : o.guard = none) (s x : Operand)
    (ho : o.op = .call { callee := .builtin .append, args := #[s, x], argTypes := #[28, 28] }) (l : List Int) (ad : Addr) (c : Nat) (hs : a.eval s = .slice none 0 0)
    (hx : a.eval x = .slice (some ad) l.length c) (hr : RdI w (some ad) l) (hlen : l.length ≤ 17592186044416)
    (hK : ∀ v w1, OwnZ 3 w.heap.size w1 v l → Keep w w1 → wpList Tryz.prog ops Q rest (a.put o.dst v) w1) :
    wpList Tryz.prog ops Q (o :: rest) a w := by
  obtain ⟨i0, hi, hz0, hz1, hz2⟩ := info_parts i3
  refine wpList_append_own _ hgd s x 28 ho w.heap.size 3 i0 (.int .i64 0) 1 8 Tryz.underlying28 hi hz0 hz1 hz2 rfl (by decide) _ _ _ hs (OwnZ.nil 3 w.heap.size w) ad l.length c (UZ l) hx (by simp [UZ]) ?_ (UZ_one l) ?_ ?_ ?_ ?_
  · intro j u hj
    have hjl : j < l.length := by have := (List.getElem?_eq_some_iff.1 hj).1; simpa [UZ_length] using this
    rw [UZ_get l j hjl] at hj
    obtain ⟨b', o', e, hc⟩ := hr j hjl
    simp only [Option.some.injEq] at e
    subst e
    rw [Addr.add_lit, hc, hj]
  · simp only [maxLen, List.length_nil]; omega
  · simp only [List.length_nil]; omega
  · exact Nat.le_refl _
  · intro v' w1 h1 h2 _
    refine hK v' w1 ?_ ?_
    · unfold OwnZ; simpa [UZ] using h1
    · refine Below.grown (Keep.refl w) h2 (Nat.le_refl _) ?_
      intro k hk'
      cases hk'
end Go.Proofs.YtinjikoocegooaaGreatDoor
set_option linter.unusedVariables false
set_option linter.unusedSimpArgs false
namespace Go.Proofs.YtinjikoocegooaaGreatDoor
open Go.RowKit Go.Shelf
/-- Trees that can be read. -/
def RdT (w : World) (a : Option Addr) (ts : List (Int × List Nd)) : Prop :=
  ∀ j, j < ts.length → ∃ b o na nc, a = some ⟨b, o, none⟩ ∧ w.cell? ⟨b, o + j * 2, none⟩ = some (.int .i64 (ts.getD j (0, [])).1) ∧ w.cell? ⟨b, o + j * 2 + 1, none⟩ = some (.slice na (ts.getD j (0, [])).2.length nc) ∧ RdN w na (ts.getD j (0, [])).2 ∧ (ts.getD j (0, [])).2.length ≤ nc ∧ (ts.getD j (0, [])).2.length ≤ 2199023255552 ∧ (-9223372036854775808 ≤ (ts.getD j (0, [])).1 ∧ (ts.getD j (0, [])).1 ≤ 9223372036854775807)
theorem RdT.keep {w w' : World} {a : Option Addr} {ts : List (Int × List Nd)} (h : RdT w a ts) (k : Keep w w') : RdT w' a ts := by
  intro j hj
  obtain ⟨b, o, na, nc, e, h1, h2, h3, h4⟩ := h j hj
  exact ⟨b, o, na, nc, e, k.cell h1, k.cell h2, h3.keep k, h4⟩
/-- What trees add up to, each for its output. -/
def scF (N : Int) (xs : List Nat) : List (Int × List Nd) → List Int → List Int × Int
  | [], s => (s, 0)
  | t :: ts, s => if woE t.2 t.1 N xs.length = 0 then scF N xs ts (s.set t.1.toNat (wrap64 (s.getD t.1.toNat 0 + woV t.2 t.1 N xs))) else ([], woE t.2 t.1 N xs.length)
def scS (F : Nat) (N : Int) (base : List Int) (ts : List (Int × List Nd)) (xs : List Nat) : List Int × Int :=
  if N < 1 ∨ (base.length : Int) ≠ N then ([], 6) else if xs.length ≠ F then ([], 72) else scF N xs ts base
theorem woE_ok {L : List Nd} {out N : Int} {m : Nat} (h : woE L out N m = 0) : shE L = 0 ∧ 0 ≤ out ∧ out < N ∧ lackB L m = false := by
  unfold woE at h
  split at h
  · rename_i h0
    split at h
    · cases h
    · rename_i h1
      refine ⟨h0, by omega, by omega, ?_⟩
      cases hl : lackB L m
      · rfl
      · rw [hl] at h; cases h
  · contradiction
theorem drop_one {α : Type} (l : List α) (k : Nat) (d : α) (h : k < l.length) : l.drop k = l.getD k d :: l.drop (k + 1) := by
  rw [List.drop_eq_getElem_cons h]; simp [List.getD, h]
/-- An ensemble as a value. -/
def ens (nm : ByteArray) (fa : Option Addr) (F cf : Nat) (N : Int) (ba : Option Addr) (bl cb : Nat) (ta : Option Addr) (tl ct : Nat) : Value := .agg #[.string nm, .slice fa F cf, .int .i64 N, .slice ba bl cb, .slice ta tl ct]
set_option maxRecDepth 100000 in
set_option maxHeartbeats 1000000 in
theorem Score_any (nm : ByteArray) (fa : Option Addr) (F cf : Nat) (N : Int) (ba : Option Addr) (base : List Int) (cb : Nat) (ta : Option Addr) (ts : List (Int × List Nd)) (ct : Nat) (ax : Option Addr) (xs : List Nat) (cx : Nat) (w : World)
    (hb : RdI w ba base) (hbc : base.length ≤ cb) (hbl : base.length ≤ 17592186044416) (ht : RdT w ta ts) (htl : ts.length ≤ 17592186044416) (hx : RdF w ax xs) (hxl : xs.length ≤ 17592186044416) (hF : F ≤ 17592186044416) :
    Calls Tryz.prog 8 #[ens nm fa F cf N ba base.length cb ta ts.length ct, .slice ax xs.length cx] w fun e w' => ∃ v, e = .returned (.tuple #[v, .int .i64 (scS F N base ts xs).2]) ∧ OwnZ 2 w.heap.size w' v (scS F N base ts xs).1 ∧ Keep w w' := by
  unfold ens
  have k0 : Keep w (w.alloc (Obj.cells #[Value.string nm, Value.slice fa F cf, Value.int IntKind.i64 N, Value.slice ba base.length cb, Value.slice ta ts.length ct] 26)) := (Keep.refl w).alloc _
  by_cases h1 : N < 1
  · have HR : Hid (scS F N base ts xs = ([], 6)) := by show _ = _; unfold scS; rw [if_pos (.inl h1)]
    have h2 : decide (N < 1) = true := by simpa using h1
    go_enter Tryz.func8, Tryz.ntmps8
    go_wp2_with fail
    go_ret2
    rw [HR.out]
    exact ⟨_, rfl, OwnZ.nil _ _ _, k0⟩
  · have h2 : decide (N < 1) = false := by simpa using h1
    by_cases h3 : (base.length : Int) ≠ N
    · have HR : Hid (scS F N base ts xs = ([], 6)) := by show _ = _; unfold scS; rw [if_pos (.inr h3)]
      have h4 : ((base.length : Int) == N) = false := by simpa using h3
      have h5 : ((base.length : Int) != N) = true := by simpa using h3
      clear h3
      go_enter Tryz.func8, Tryz.ntmps8
      go_wp2_with fail
      go_ret2
      rw [HR.out]
      exact ⟨_, rfl, OwnZ.nil _ _ _, k0⟩
    · have h3' : (base.length : Int) = N := by simpa using h3
      subst h3'
      clear h3
      by_cases h4 : xs.length ≠ F
      · have HR : Hid (scS F base.length base ts xs = ([], 72)) := by show _ = _; unfold scS; rw [if_neg (by omega), if_pos h4]
        have h5 : ((xs.length : Int) == (F : Int)) = false := by rw [beq_eq_false_iff_ne]; omega
        have h6 : ((xs.length : Int) != (F : Int)) = true := by simp; omega
        clear h4
        go_enter Tryz.func8, Tryz.ntmps8
        go_wp2_with fail
        go_ret2
        rw [HR.out]
        exact ⟨_, rfl, OwnZ.nil _ _ _, k0⟩
      · have h4' : xs.length = F := by omega
        subst h4'
        clear h4 hF
        have HR : Hid (scS xs.length base.length base ts xs = scF base.length xs ts base) := by show _ = _; unfold scS; rw [if_neg (by omega), if_neg (by simp)]
        have hC := fun (wx : World) (k : Keep w wx) => copyZ_any ba cb base wx hbl hbc (hb.keep k)
        obtain ⟨w1, hw1⟩ : ∃ w1, w.alloc (Obj.cells #[Value.string nm, Value.slice fa xs.length cf, Value.int IntKind.i64 base.length, Value.slice ba base.length cb, Value.slice ta ts.length ct] 26) = w1 := ⟨_, rfl⟩
        have cN : w1.cell? ⟨w.heap.size, 2, none⟩ = some (.int .i64 (base.length : Nat)) := by rw [← hw1, cell_of_row _ _ 2 _ 26 (0, 0) (heap_alloc_new w _)]; rfl
        have cT : w1.cell? ⟨w.heap.size, 4, none⟩ = some (.slice ta ts.length ct) := by rw [← hw1, cell_of_row _ _ 4 _ 26 (0, 0) (heap_alloc_new w _)]; rfl
        replace hw1 : Hid _ := hw1
        go_enter Tryz.func8, Tryz.ntmps8
        go_wp2_with fail
        rw [hw1.out]
        rw [hw1.out] at k0
        refine (hC _ k0).mono ?_
        rintro e w2 ⟨v, rfl, hO, k2⟩
        have cN := k2.cell cN
        have cT := k2.cell cT
        have k02 := k0.trans k2
        have kb := k0.le
        have hO := hO.mono kb
        obtain ⟨av, cv, rfl, hcv, hrv⟩ := hO.shape
        have hbx : w2.heap[w.heap.size]? = some (Obj.cells #[Value.string nm, Value.slice fa xs.length cf, Value.int IntKind.i64 base.length, Value.slice ba base.length cb, Value.slice ta ts.length ct] 26 (0, 0)) := by
          rw [k2.block _ (by rw [← hw1.out]; simp), ← hw1.out]; exact heap_alloc_new w _
        obtain ⟨b0, o0, ea, -⟩ := hrv 0 (by omega)
        subst ea
        obtain ⟨g, ea⟩ : ∃ g, (⟨b0, o0, none⟩ : Addr) = ⟨g, 0, none⟩ := by
          rcases hO.2 with ⟨h, _⟩ | ⟨g, cap, cur, hv, _⟩
          · cases h
          · simp only [Value.slice.injEq, Option.some.injEq] at hv
            exact ⟨g, hv.1⟩
        rw [ea] at hO ⊢
        have hz : w.heap.size < w2.heap.size := (Array.getElem?_eq_some_iff.1 hbx).1
        clear hC hw1 k0 k2 h2 hrv ea cN
        go_wp2_with fail
        clear cT
        go_loopw [34] (fun iv wr => ∃ (k : Nat) (s : List Int), k ≤ ts.length ∧ iv = .int .i64 k ∧ s.length = base.length ∧ OwnZ 2 w.heap.size wr (.slice (some ⟨g, 0, none⟩) base.length cv) s ∧ Keep w wr ∧ wr.heap[w.heap.size]? = some (Obj.cells #[Value.string nm, Value.slice fa xs.length cf, Value.int IntKind.i64 base.length, Value.slice ba base.length cb, Value.slice ta ts.length ct] 26 (0, 0)) ∧ Hid (scF base.length xs ts base = scF base.length xs (ts.drop k) s)) (fun iv _ => ts.length - (intOf iv).toNat)
        case atStart => exact ⟨0, base, by omega, rfl, rfl, hO, k02, hbx, rfl⟩
        case round =>
          obtain ⟨k, s, hk, rfl, hsl, hO, kw, hbx, hsc⟩ := hrel
          clear k02
          by_cases hkl : k < ts.length
          · have hkc : (k : Int) < (ts.length : Int) := by omega
            obtain ⟨b, o, na, nc, rfl, d0, d1, dn, dc, dl, df⟩ := (ht.keep kw) k hkl
            have hW := fun (wx : World) (kx : Keep wr wx) => worth_any na ax nc cx (ts.getD k (0, [])).1 (base.length : Nat) (ts.getD k (0, [])).2 xs dl hxl wx (dn.keep kx) ((hx.keep kw).keep kx)
            have hst : scF base.length xs (ts.drop k) s = if woE (ts.getD k (0, [])).2 (ts.getD k (0, [])).1 base.length xs.length = 0 then scF base.length xs (ts.drop (k + 1)) (s.set (ts.getD k (0, [])).1.toNat (wrap64 (s.getD (ts.getD k (0, [])).1.toNat 0 + woV (ts.getD k (0, [])).2 (ts.getD k (0, [])).1 base.length xs))) else ([], woE (ts.getD k (0, [])).2 (ts.getD k (0, [])).1 base.length xs.length) := by
              rw [drop_one ts k (0, []) hkl, scF]
            have cN : wr.cell? ⟨w.heap.size, 2, none⟩ = some (.int .i64 (base.length : Nat)) := by rw [cell_of_row _ _ 2 _ 26 (0, 0) hbx]; rfl
            have hwo := @woE_ok (ts.getD k (0, [])).2 (ts.getD k (0, [])).1 (base.length : Nat) xs.length
            generalize hE : woE (ts.getD k (0, [])).2 (ts.getD k (0, [])).1 base.length xs.length = E at hW hst hwo
            generalize hV : woV (ts.getD k (0, [])).2 (ts.getD k (0, [])).1 base.length xs = V at hW hst
            generalize (ts.getD k (0, [])).1 = ot at *
            generalize (ts.getD k (0, [])).2 = L at *
            clear hE hV
            have kx : Keep wr (wr.alloc (Obj.cells #[Value.int IntKind.i64 ot, Value.slice na L.length nc] 48)) := (Keep.refl wr).alloc _
            have cN' := kx.cell cN
            have tb0 : (wr.alloc (Obj.cells #[Value.int IntKind.i64 ot, Value.slice na L.length nc] 48)).cell? ⟨wr.heap.size, 0, none⟩ = some (.int .i64 ot) := by rw [cell_of_row _ _ 0 _ 48 (0, 0) (heap_alloc_new wr _)]; rfl
            have hWx := hW _ kx
            clear hW
            by_cases hE0 : E = 0
            · subst hE0
              obtain ⟨-, hot0, hot1, -⟩ := hwo rfl
              obtain ⟨u, rfl⟩ := Int.eq_ofNat_of_zero_le hot0
              rw [if_pos rfl] at hst
              have hub : u < base.length := by omega
              clear hwo hot0 hot1
              go_wp2_with fail
              generalize wr.alloc _ = w4 at kx tb0 hWx ⊢
              refine hWx.mono ?_
              rintro e w5 ⟨rfl, k5⟩
              have tb5 := k5.cell tb0
              have k45 := kx.trans k5
              have hO5 := hO.keep k45
              have hbx5 : w5.heap[w.heap.size]? = _ := (k45.block _ (Array.getElem?_eq_some_iff.1 hbx).1).trans hbx
              have kw5 := kw.trans k45
              clear hWx kx tb0 k5 k45 cN cN' d0 d1 dn
              obtain ⟨hgB, cur, hgc⟩ := hO5.block (b := g) rfl
              have hgne : g ≠ w.heap.size := by
                intro e
                rw [e, hbx5] at hgc
                simp at hgc
              obtain ⟨_, _, he, _, hrd5⟩ := hO5.shape
              simp only [Value.slice.injEq, Option.some.injEq] at he
              obtain ⟨rfl, -, -⟩ := he
              obtain ⟨b', o', eb, hcu⟩ := hrd5 u (by omega)
              simp only [Option.some.injEq, Addr.mk.injEq, and_true] at eb
              obtain ⟨rfl, rfl⟩ := eb
              rw [← hsl] at hO5
              obtain ⟨hset, hfz⟩ := hO5.set u (by omega) (wrap64 (s.getD u 0 + V))
              rw [Nat.zero_add] at hcu
              generalize hsu : s.getD u 0 = su at hcu hset
              rw [show (u : Int).toNat = u from rfl, hsu] at hst
              replace hst : Hid _ := hst
              have hub' : (u : Int) < (base.length : Int) := by omega
              clear hrd5 hO hO5 hsu
              rw [hsl] at hset
              go_wp2_with fail
              refine ⟨⟨k + 1, s.set u (wrap64 (su + V)), by omega, by go_num, by simp [hsl], hset, kw5.setCell hgB _, ?_, ?_⟩, by simp [intOf]; omega⟩
              · rw [neq_set w5 g u _ w.heap.size (fun e => hgne e.symm)]; exact hbx5
              · show _ = _
                rw [hsc.out, hst.out]
            · have hB : (E == 0) = false := by simpa using hE0
              have hB2 : (E != 0) = true := by simpa using hE0
              have HF : Hid (scF base.length xs ts base = ([], E)) := by show _ = _; rw [hsc.out, hst, if_neg hE0]
              clear hst hwo hsc hE0
              go_wp2_with fail
              generalize wr.alloc _ = w4 at kx tb0 hWx ⊢
              refine hWx.mono ?_
              rintro e w5 ⟨rfl, k5⟩
              go_wp2_with fail
              go_ret2
              rw [HR.out, HF.out]
              exact ⟨_, rfl, OwnZ.nil _ _ _, kw.trans (kx.trans k5)⟩
          · have hkc : ¬ (k : Int) < (ts.length : Int) := by omega
            have HF : Hid (scF base.length xs ts base = (s, 0)) := by show _ = _; rw [hsc.out, List.drop_eq_nil_of_le (by omega)]; rfl
            clear hsc
            go_wp2_with fail
            go_ret2
            rw [HR.out, HF.out]
            exact ⟨_, rfl, hO, kw⟩
end Go.Proofs.YtinjikoocegooaaGreatDoor
