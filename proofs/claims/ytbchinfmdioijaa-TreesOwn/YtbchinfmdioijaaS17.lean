import Derived.Test.YtbchinfmdioijaaS15
import Derived.Deep.RegionHeld3
set_option linter.unusedVariables false
set_option linter.unusedSimpArgs false
namespace Go.Proofs.Ytbchinfmdioijaa
open Go.RowKit Go.Shelf
attribute [local go_sem] Oper.semAt_some
attribute [local go_sem] run_store_float
/-- A node, its sides numbered anew. -/
def rnN (an : List Nat) (N : Nd) : Nd := { N with lf := ((an.getD N.lf.toNat 0 : Nat) : Int), rt := ((an.getD N.rt.toNat 0 : Nat) : Int) }
def rnK (an : List Nat) (r : Nd × Option Addr × Nat) : Nd × Option Addr × Nat := (rnN an r.1, r.2)
/-- The first k of them. -/
def rnF (an : List Nat) (K : List (Nd × Option Addr × Nat)) (k : Nat) : List (Nd × Option Addr × Nat) := (K.take k).map (rnK an) ++ K.drop k
theorem rnF_len (an : List Nat) (K : List (Nd × Option Addr × Nat)) (k : Nat) : (rnF an K k).length = K.length := by simp [rnF]; omega
theorem rnF_at {an : List Nat} {K : List (Nd × Option Addr × Nat)} {k : Nat} (h : k < K.length) : (rnF an K k).getD k nt0 = K.getD k nt0 := by
  unfold rnF List.getD
  rw [List.getElem?_append_right (by simp; omega)]
  simp [Nat.min_eq_left (Nat.le_of_lt h)]
theorem rnF_succ {an : List Nat} {K : List (Nd × Option Addr × Nat)} {k : Nat} (h : k < K.length) : rnF an K (k + 1) = (rnF an K k).set k (rnK an (K.getD k nt0)) := by
  apply List.ext_getElem
  · rw [List.length_set, rnF_len, rnF_len]
  · intro j h1 h2
    rw [List.getElem_set]
    simp only [rnF_len] at h1
    simp only [rnF, List.getElem_append, List.length_map, List.length_take, List.getElem_map, List.getElem_take, List.getElem_drop]
    by_cases e : k = j
    · subst e
      rw [if_pos rfl, dif_pos (by omega)]
      simp [List.getD, h]
    · rw [if_neg e]
      by_cases e2 : j < k
      · rw [dif_pos (by omega), dif_pos (by omega)]
      · rw [dif_neg (by omega), dif_neg (by omega)]
        congr 1
        omega
/-- What Canon's second loop holds between two rounds. -/
structure C2 (n m A : Nat) (an : List Nat) (K : List (Nd × Option Addr × Nat)) (W0 : World) (k : Nat) (W : World) : Prop where
  row : RowI W A an
  bx : W.heap[A + 1]? = some (.cells #[.slice (some ⟨A, 0, none⟩) n n] 29 (0, 0))
  bl : W.heap[A + 3]? = some (.cells #[.slice (some ⟨A + 2, 0, none⟩) m n] 22 (0, 0))
  kr : RowK W (A + 2) n (rnF an K k)
  oth : ∀ g, g < W0.heap.size → g ≠ A + 2 → W.heap[g]? = W0.heap[g]?
  os : W.os = W0.os
  tape : W.tape = W0.tape
  output : W.output = W0.output
  sz : W0.heap.size ≤ W.heap.size
theorem RowK.cells {w : World} {g n : Nat} {K : List (Nd × Option Addr × Nat)} (h : RowK w g n K) {j : Nat} (hj : j < K.length) : ∀ i u, i < 8 → (UN [K.getD j nt0])[i]? = some u → w.cell? ⟨g, j * 8 + i, none⟩ = some u := by
  obtain ⟨cur, h1, h2, h3⟩ := h
  intro i u hi hu
  have e1 : cur.toList[j * 8 + i]? = (UN K)[j * 8 + i]? := by rw [← h3, List.getElem?_take, if_pos (by omega)]
  rw [cell_of_row w g _ cur 40 (0, 0) h1, ← hu, ← UN_get K j i hj hi, ← e1]; simp
theorem UN_set : ∀ (K : List (Nd × Option Addr × Nat)) (k : Nat) (N : Nd) (va : Option Addr) (cc : Nat) (lf rt : Int), k < K.length → K.getD k nt0 = (N, va, cc) → UN (K.set k ({ N with lf := lf, rt := rt }, va, cc)) = ((UN K).set (k * 8 + 6) (.int .i64 lf)).set (k * 8 + 7) (.int .i64 rt)
  | [], k, N, va, cc, lf, rt, h, _ => by simp at h
  | r :: K, 0, N, va, cc, lf, rt, _, he => by
    simp only [List.getD_cons_zero] at he
    subst he
    simp [UN]
  | r :: K, k + 1, N, va, cc, lf, rt, h, he => by
    have ih := UN_set K k N va cc lf rt (by simpa using h) (by simpa using he)
    rw [show (k + 1) * 8 + 6 = (k * 8 + 6) + 1 + 1 + 1 + 1 + 1 + 1 + 1 + 1 by omega, show (k + 1) * 8 + 7 = (k * 8 + 7) + 1 + 1 + 1 + 1 + 1 + 1 + 1 + 1 by omega]
    simp only [List.set_cons_succ, UN]
    rw [ih]
theorem RowK.set2 {w : World} {g n : Nat} {K : List (Nd × Option Addr × Nat)} (h : RowK w g n K) {k : Nat} (hk : k < K.length) (hn : K.length ≤ n) {N : Nd} {va : Option Addr} {cc : Nat} (he : K.getD k nt0 = (N, va, cc)) (lf rt : Int) : RowK ((w.setCell ⟨g, k * 8 + 6, none⟩ (.int .i64 lf)).setCell ⟨g, k * 8 + 7, none⟩ (.int .i64 rt)) g n (K.set k ({ N with lf := lf, rt := rt }, va, cc)) := by
  obtain ⟨cur, h1, h2, h3⟩ := h
  have a1 := heap_setCell_same w g (k * 8 + 6) _ 40 (.int .i64 lf) h1
  have a2 := heap_setCell_same _ g (k * 8 + 7) _ 40 (.int .i64 rt) a1
  refine ⟨_, a2, by simp [h2], ?_⟩
  rw [UN_set K k N va cc lf rt hk he, ← h3]
  simp only [List.length_set, Array.set!_eq_setIfInBounds, Array.toList_setIfInBounds]
  rw [List.take_set, List.take_set]
theorem RowK.ok {w : World} {g n : Nat} {K : List (Nd × Option Addr × Nat)} (h : RowK w g n K) {k i : Nat} (hk : k < n) (hi : i < 8) : (∃ v, w.cell? ⟨g, k * 8 + i, none⟩ = some v) ∧ w.frozen? ⟨g, k * 8 + i, none⟩ = false := by
  obtain ⟨cur, h1, h2, h3⟩ := h
  refine ⟨?_, frozen_of_row w g _ _ 40 h1⟩
  rw [cell_of_row w g _ cur 40 (0, 0) h1]
  have : k * 8 + i < cur.size := by rw [h2]; omega
  exact ⟨_, Array.getElem?_eq_getElem this⟩
theorem Rgt.sides {L : List Nd} (h : Rgt L) {i : Nat} (hi : i < L.length) : (∃ li : Nat, (L.getD i nd0).lf = (li : Nat) ∧ li < L.length) ∧ ∃ ri : Nat, (L.getD i nd0).rt = (ri : Nat) ∧ ri < L.length := by
  by_cases hk : (shp L).K i = true
  · obtain ⟨⟨a1, a2, -⟩, b1, b2, -⟩ := h.kids hi hk
    exact ⟨⟨_, a1, a2⟩, _, b1, b2⟩
  · have hr := h.2 i hi
    have hn := h.1
    simp only [shp, decide_eq_true_eq] at hk
    generalize L.getD i nd0 = n at *
    unfold rightB at hr
    split at hr
    · simp only [Bool.and_eq_true, decide_eq_true_eq] at hr
      exact ⟨⟨0, by have := hr.1.2; simpa using this, hn⟩, 0, by have := hr.2; simpa using this, hn⟩
    · rw [if_neg (by omega), if_neg (by omega)] at hr
      cases hr
theorem results_cell_tmp {P : Program} {fn : Func} {p u : Tmp} {ty : TypeId} (h : fn.results = #[.cell p ty, .tmp u]) (tmps : Array Value) (w : World) (g : Nat) (t : TypeId) (cs : Array Value) (fr : Nat × Nat) (d : TypeDesc)
    (hp : tmps.getD p undef = .pointer (some ⟨g, 0, none⟩)) (hg : w.heap[g]? = some (.cells cs t fr))
    (hu : P.underlying ty = some d) (hd : (match d with | .struct _ | .array _ _ => true | _ => false) = true) (hi : (P.info? ty).map (·.size) = some cs.size) :
    (results fn tmps).run P w = .ok (.tuple #[.agg cs, tmps.getD u undef]) w := by
  have hp' : tmps[p]?.getD undef = .pointer (some ⟨g, 0, none⟩) := by simpa using hp
  simp [results, h, hp', asAddr, run_loadVar_row w g t ty cs fr d hg hu hd hi]
theorem anF_le (n : Nat) (p : List Nat) (i : Nat) : (anF n p).getD i 0 ≤ p.length := by
  have h : ∀ (l : List (Nat × Nat)) (a : List Nat) (B : Nat), (∀ y ∈ l, y.2 ≤ B) → (∀ v ∈ a, v ≤ B) → ∀ v ∈ l.foldl (fun a y => a.set y.1 y.2) a, v ≤ B := by
    intro l
    induction l with
    | nil => intro a B _ h2; exact h2
    | cons y l ih =>
      intro a B h1 h2
      rw [List.foldl_cons]
      refine ih _ B (fun z hz => h1 z (List.mem_cons_of_mem _ hz)) ?_
      intro v hv
      rcases List.mem_or_eq_of_mem_set hv with h | h
      · exact h2 v h
      · rw [h]; exact h1 y (List.mem_cons_self ..)
  by_cases hi : i < (anF n p).length
  · have hm : (anF n p).getD i 0 ∈ anF n p := by simp [List.getD, hi]
    refine h p.zipIdx (List.replicate n 0) p.length ?_ ?_ _ hm
    · rintro ⟨y1, y2⟩ hy
      have := List.snd_lt_of_mem_zipIdx hy
      simp at this ⊢
      omega
    · intro v hv
      rw [List.eq_of_mem_replicate hv]; omega
  · have : (anF n p).getD i 0 = 0 := by simp [List.getD, List.getElem?_eq_none (Nat.le_of_not_lt hi)]
    omega
theorem RowK.rdN {w : World} {g n : Nat} {K : List (Nd × Option Addr × Nat)} (h : RowK w g n K) (hc : ∀ j, j < K.length → RdI w (K.getD j nt0).2.1 (K.getD j nt0).1.cs ∧ (K.getD j nt0).1.cs.length ≤ (K.getD j nt0).2.2 ∧ (K.getD j nt0).1.cs.length ≤ 17592186044416 ∧ (K.getD j nt0).1.Fit) : RdN w (some ⟨g, 0, none⟩) (K.map (fun r => r.1)) := by
  intro j hj
  have hj' : j < K.length := by simpa using hj
  obtain ⟨h1, h2, h3, h4⟩ := hc j hj'
  have hcs := h.cells hj'
  refine ⟨g, 0, (K.getD j nt0).2.1, (K.getD j nt0).2.2, rfl, ?_⟩
  have e : (K.map (fun r => r.1)).getD j nd0 = (K.getD j nt0).1 := by simp [List.getD, hj']
  rw [e, Nat.zero_add]
  exact ⟨hcs 0 _ (by omega) rfl, hcs 1 _ (by omega) rfl, hcs 2 _ (by omega) rfl, hcs 3 _ (by omega) rfl, hcs 4 _ (by omega) rfl, hcs 5 _ (by omega) rfl, hcs 6 _ (by omega) rfl, hcs 7 _ (by omega) rfl, h1, h2, h3, h4⟩
theorem rnF_all (an : List Nat) (K : List (Nd × Option Addr × Nat)) : rnF an K K.length = K.map (rnK an) := by simp [rnF]
/-- The nodes numbered anew. -/
def cnoL (L : List Nd) : List Nd := (ord (shp L) L.length).map (fun i => rnN (anF L.length (ord (shp L) L.length)) (L.getD i nd0))
def c2V (A s k m n li ri X Y : Nat) : Nat → Value
  | 0 => .slice (some ⟨A + 2, 0, none⟩) m n
  | 1 => .int .i64 (k : Nat)
  | 2 => .slice (some ⟨A + 2, 0, none⟩) m n
  | 3 => .int .i64 (k : Nat)
  | 4 => .slice (some ⟨A, 0, none⟩) n n
  | 5 => .pointer (some ⟨s, 6, none⟩)
  | 6 => .int .i64 (li : Nat)
  | 7 => .pointer (some ⟨A, li, none⟩)
  | 8 => .int .i64 (X : Nat)
  | 9 => .slice (some ⟨A, 0, none⟩) n n
  | 10 => .pointer (some ⟨s, 7, none⟩)
  | 11 => .int .i64 (ri : Nat)
  | 12 => .pointer (some ⟨A, ri, none⟩)
  | 13 => .int .i64 (Y : Nat)
  | 14 => .pointer (some ⟨A + 2, k * 8, none⟩)
  | 15 => .pointer (some ⟨A + 2, k * 8 + 6, none⟩)
  | 17 => .pointer (some ⟨A + 2, k * 8, none⟩)
  | 18 => .pointer (some ⟨A + 2, k * 8 + 7, none⟩)
  | _ => undef
def c2I (V : Nat → Value) (W1 Wa Wb : World) (FR : (Nat → Value) → Act) (l : Array Bool) (Ac : Act) (w : World) : Prop :=
  l.size = 20 ∧ (∃ x : Nat → Value, Ac = FR x ∧ ∀ j, j < 19 → j ≠ 16 → l.getD j false = true → x j = V j) ∧ w = (if l.getD 19 false = true then Wb else if l.getD 16 false = true then Wa else W1) ∧ (l.getD 19 false = true → ∀ j, j < 19 → l.getD j false = true) ∧ (l.getD 18 false = true → l.getD 17 false = true)
theorem c2I.pure {V : Nat → Value} {W1 Wa Wb : World} {FR : (Nat → Value) → Act} {l : Array Bool} {x : Nat → Value} {A' : Act} {w : World} {i : Nat} (hs : l.size = 20) (hx : ∀ j, j < 19 → j ≠ 16 → l.getD j false = true → x j = V j) (hw : w = (if l.getD 19 false = true then Wb else if l.getD 16 false = true then Wa else W1)) (h19 : l.getD 19 false = true → ∀ j, j < 19 → l.getD j false = true) (h18 : l.getD 18 false = true → l.getD 17 false = true)
    (hi : i < 19) (hi2 : i ≠ 16) (hd : i = 18 → l.getD 17 false = true) (hA : A' = FR (updV x i (V i))) : c2I V W1 Wa Wb FR (l.setIfInBounds i true) A' w := by
  have up : ∀ j, l.getD j false = true → (l.setIfInBounds i true).getD j false = true := fun j h => by rw [fl_set (by omega)]; split; rfl; exact h
  have dn : ∀ j, (l.setIfInBounds i true).getD j false = true → j = i ∨ l.getD j false = true := fun j h => by rw [fl_set (by omega)] at h; split at h; (left; assumption); exact .inr h
  refine ⟨by simpa using hs, ⟨_, hA, ?_⟩, ?_, ?_, ?_⟩
  · intro j h1 h2 h
    rcases dn j h with e | h
    · subst e; simp [updV]
    · by_cases e : j = i
      · subst e; simp [updV]
      · simp only [updV, if_neg e]; exact hx j h1 h2 h
  · have e19 : (l.setIfInBounds i true).getD 19 false = l.getD 19 false := by rw [fl_set (by omega), if_neg (by omega)]
    have e16 : (l.setIfInBounds i true).getD 16 false = l.getD 16 false := by rw [fl_set (by omega), if_neg (by omega)]
    rw [e19, e16]; exact hw
  · intro h j hj
    rcases dn 19 h with e | h
    · omega
    · exact up j (h19 h j hj)
  · intro h
    rcases dn 18 h with e | h
    · exact up 17 (hd e.symm)
    · exact up 17 (h18 h)
theorem c2I.st16 {V : Nat → Value} {W1 Wa Wb : World} {FR : (Nat → Value) → Act} {l : Array Bool} {x : Nat → Value} {A' : Act} (hs : l.size = 20) (hx : ∀ j, j < 19 → j ≠ 16 → l.getD j false = true → x j = V j) (h19 : l.getD 19 false = false) (h18 : l.getD 18 false = true → l.getD 17 false = true) (hA : A' = FR x) : c2I V W1 Wa Wb FR (l.setIfInBounds 16 true) A' Wa := by
  have dn : ∀ j, j ≠ 16 → (l.setIfInBounds 16 true).getD j false = l.getD j false := fun j h => by rw [fl_set (by omega), if_neg h]
  refine ⟨by simpa using hs, ⟨x, hA, fun j h1 h2 h => hx j h1 h2 (by rw [← dn j h2]; exact h)⟩, ?_, ?_, ?_⟩
  · rw [dn 19 (by omega), h19, set_same (by omega)]; rfl
  · intro h; rw [dn 19 (by omega), h19] at h; cases h
  · intro h; rw [dn 18 (by omega)] at h; rw [dn 17 (by omega)]; exact h18 h
theorem c2I.st19 {V : Nat → Value} {W1 Wa Wb : World} {FR : (Nat → Value) → Act} {l : Array Bool} {x : Nat → Value} {A' : Act} (hs : l.size = 20) (hx : ∀ j, j < 19 → j ≠ 16 → l.getD j false = true → x j = V j) (ha : ∀ j, j < 19 → l.getD j false = true) (hA : A' = FR x) : c2I V W1 Wa Wb FR (l.setIfInBounds 19 true) A' Wb := by
  have dn : ∀ j, j ≠ 19 → (l.setIfInBounds 19 true).getD j false = l.getD j false := fun j h => by rw [fl_set (by omega), if_neg h]
  refine ⟨by simpa using hs, ⟨x, hA, fun j h1 h2 h => hx j h1 h2 (by rw [← dn j (by omega)]; exact h)⟩, ?_, ?_, ?_⟩
  · rw [set_same (by omega)]; rfl
  · intro _ j hj; rw [dn j (by omega)]; exact ha j hj
  · intro _; rw [dn 17 (by omega)]; exact ha 17 (by omega)
set_option maxRecDepth 100000 in
set_option maxHeartbeats 4000000 in
theorem Canon_in (n : Nat) (hn : 3 ≤ n) (a : Option Addr) (cap : Nat) (out : Int) (L : List Nd) (hLn : L.length ≤ 2199023255552) (hE : shE L = 0) (w : World) (hrd : RdN w a L) :
    CallsIn Fence.wide n Try.prog 37 #[.agg #[.int .i64 out, .slice a L.length cap]] w fun e w' => ∃ a' c', e = .returned (.tuple #[.agg #[.int .i64 out, .slice a' (cnoL L).length c'], .int .i64 0]) ∧ (cnoL L).length ≤ c' ∧ RdN w' a' (cnoL L) ∧ Below w.heap.size w w' ∧ CT w' (fun b => w.heap.size ≤ b ∧ b < w'.heap.size) a' c' (cnoL L) := by
  have hR := shE_rgt hE
  have h1 : 1 ≤ n := by omega
  have hlen : L.length ≤ 17592186044416 := by omega
  have hS := fun (wx : World) (k : Keep w wx) => Shape_in (n - 1) wx a cap out L hLn (hrd.keep k)
  rw [hE] at hS
  refine callsIn_of_wp_marks Try.func37 rfl trivial ?_ rfl
  simp only [Try.ntmps37, List.size_toArray, List.length_cons, List.length_nil, Nat.reduceAdd, Nat.reduceSub, Array.replicate_succ, Array.replicate_zero, List.push_toArray, List.append_toArray, List.nil_append, List.cons_append]
  obtain ⟨w1, hw1, k1, s1, r0, r1⟩ := boxes2n w #[Value.int .i64 out, Value.slice a L.length cap] #[Value.int .i64 0, Value.slice none 0 0] 24 24
  have hS1 := hS _ k1
  replace hw1 : Hid _ := hw1
  gi_wp2_with fail
  rw [hw1.out]
  refine ⟨trivial, ?_⟩
  refine hS1.mono ?_
  rintro e w2 ⟨rfl, k2⟩
  have hz0 : w.heap.size < w1.heap.size := (Array.getElem?_eq_some_iff.1 r0).1
  have hz1 : w.heap.size + 1 < w1.heap.size := (Array.getElem?_eq_some_iff.1 r1).1
  have q0 := (k2.block _ hz0).trans r0
  have q1 := (k2.block _ hz1).trans r1
  have c1 := cell_of_row w2 _ 1 _ 24 (0, 0) q0
  simp at c1
  have k02 := k1.trans k2
  have z2 : w.heap.size + 2 ≤ w2.heap.size := by have := k2.le; omega
  clear hS hS1 k2 hw1 r0 r1
  replace q0 : Hid _ := q0
  replace q1 : Hid _ := q1
  have c1A := fun o1 o2 o3 => ((((Keep.refl w2).alloc o1).alloc o2).alloc o3).cell c1
  have c1B := fun o1 o2 => (((Keep.refl w2).alloc o1).alloc o2).cell c1
  have c1C := fun o1 o2 o3 o4 => (((((Keep.refl w2).alloc o1).alloc o2).alloc o3).alloc o4).cell c1
  gi_wp2_with (first | (gi_at_make; refine wpListIn_makeI _ rfl _ _ rfl _ _ _ _ L.length rfl rfl rfl rfl hlen ?_) | (gi_at_make; refine wpListIn_makeN _ rfl _ _ rfl _ _ _ _ L.length rfl rfl rfl rfl hLn ?_; intro cur hcur) | (refine ⟨trivial, ?_⟩; gi_at_call 51; refine (reached_in (n - 1) _ _ _ _).mono ?_; rintro e w' ⟨rfl, rfl⟩))
  simp only [Nat.add_assoc, Nat.reduceAdd]
  have S3 : ∃ w3, (((((w2.alloc (Obj.cells (UI (List.replicate L.length 0)).toArray 3)).alloc (Obj.cells #[Value.slice (some ⟨w2.heap.size, 0, none⟩) L.length L.length] 29)).alloc (Obj.cells cur 40)).alloc (Obj.cells #[Value.slice (some ⟨w2.heap.size + 2, 0, none⟩) 0 L.length] 22)).alloc (Obj.cells #[Value.slice a L.length cap] 22)) = w3 ∧ CnI L w2.heap.size w2 [] (fun g => g = w2.heap.size + 4) w3 ∧ w3.heap.size = w2.heap.size + 5 ∧ w3.cell? ⟨w2.heap.size + 4, 0, none⟩ = some (.slice a L.length cap) := by
    have b0 := heap_alloc_new w2 (Obj.cells (UI (List.replicate L.length 0)).toArray 3)
    have b1 := heap_alloc_new (w2.alloc (Obj.cells (UI (List.replicate L.length 0)).toArray 3)) (Obj.cells #[Value.slice (some ⟨w2.heap.size, 0, none⟩) L.length L.length] 29)
    have b2 := heap_alloc_new ((w2.alloc (Obj.cells (UI (List.replicate L.length 0)).toArray 3)).alloc (Obj.cells #[Value.slice (some ⟨w2.heap.size, 0, none⟩) L.length L.length] 29)) (Obj.cells cur 40)
    have b3 := heap_alloc_new (((w2.alloc (Obj.cells (UI (List.replicate L.length 0)).toArray 3)).alloc (Obj.cells #[Value.slice (some ⟨w2.heap.size, 0, none⟩) L.length L.length] 29)).alloc (Obj.cells cur 40)) (Obj.cells #[Value.slice (some ⟨w2.heap.size + 2, 0, none⟩) 0 L.length] 22)
    have b4 := heap_alloc_new ((((w2.alloc (Obj.cells (UI (List.replicate L.length 0)).toArray 3)).alloc (Obj.cells #[Value.slice (some ⟨w2.heap.size, 0, none⟩) L.length L.length] 29)).alloc (Obj.cells cur 40)).alloc (Obj.cells #[Value.slice (some ⟨w2.heap.size + 2, 0, none⟩) 0 L.length] 22)) (Obj.cells #[Value.slice a L.length cap] 22)
    simp only [World.size_alloc] at b1 b2 b3 b4
    refine ⟨_, rfl, ⟨?_, ?_, ?_, ⟨[], rfl, fun j hj => by simp at hj, ⟨cur, ?_, hcur, by simp [UN]⟩, fun j hj => by simp at hj, fun j hj => by simp at hj⟩, fun g hg => by subst hg; simp, ?_, by simp⟩, by simp, ?_⟩
    · unfold RowI
      exact (Below.heap_alloc _ _ _ (by simp; omega)).trans ((Below.heap_alloc _ _ _ (by simp; omega)).trans ((Below.heap_alloc _ _ _ (by simp; omega)).trans ((Below.heap_alloc _ _ _ (by simp)).trans b0)))
    · exact (Below.heap_alloc _ _ _ (by simp)).trans ((Below.heap_alloc _ _ _ (by simp)).trans ((Below.heap_alloc _ _ _ (by simp)).trans b1))
    · exact (Below.heap_alloc _ _ _ (by simp)).trans b3
    · exact (Below.heap_alloc _ _ _ (by simp)).trans ((Below.heap_alloc _ _ _ (by simp)).trans b2)
    · exact (((((Below.refl _ w2).alloc (Nat.le_refl _) _).alloc (by simp) _).alloc (by simp; omega) _).alloc (by simp; omega) _).alloc (by simp; omega) _
    · rw [cell_of_row _ _ 0 _ 22 (0, 0) b4]; rfl
  obtain ⟨w3, hw3, D3, sA, bA⟩ := S3
  rw [hw3]
  clear hw3 c1A c1B c1C
  have rdA : RdB w.heap.size w3 a L := hrd.rdB.same (fun g hg => (D3.be.block g (by omega)).trans (k02.block g hg))
  have rnA : RdN w3 a L := by
    have kk : Keep w w3 := ⟨D3.be.os.trans k02.os, D3.be.tape.trans k02.tape, D3.be.output.trans k02.output, by have := k02.size; omega, fun g hg => (D3.be.block g (by omega)).trans (k02.block g hg)⟩
    exact hrd.keep kk
  refine wp_rangeT h1 (gf := 79) (lb := #[.pointer (some ⟨w2.heap.size + 4, 0, none⟩)]) rfl (enters_of Try.func79 (by kernel_rfl) rfl)
    (reach_seq (n - 1) (by omega) (w2.heap.size + 4) w.heap.size a cap L hLn hR w3 bA (by omega) (by omega) rdA) (Below.refl _ _) (fun _ => rfl) (by omega) (fun g hg => by omega)
    (fun pre T W => CnI L w2.heap.size w3 (nums pre) T W)
    (fun _ _ _ => False) (fun pre T A B h hst => h.st hst) (fun pre T A r o' h h1 h2 h3 => h.put (by omega) (by omega)) (fun _ _ _ _ _ h => h.elim) ?start ?a1 ?assign ?body ?done (fun _ _ _ _ h => h.elim)
  case assign =>
    intro l x W K hK
    gi_wp2
    exact hK
  case start =>
    intro W hst
    have kp : ∀ g, g < w2.heap.size + 5 → W.heap[g]? = w3.heap[g]? := fun g hg => hst.block g (by omega) (fun h => h)
    obtain ⟨K, n1, n2, n3, n4, n5⟩ := D3.kn
    refine ⟨by unfold RowI; rw [kp _ (by omega)]; exact D3.row, by rw [kp _ (by omega)]; exact D3.bx, by rw [kp _ (by omega)]; exact D3.bl, ⟨K, n1, fun j hj => by simp [nums] at hj, n3.same (kp _ (by omega)), fun j hj => by simp [nums] at hj, fun j hj => by simp [nums] at hj⟩, fun g hg => by have := hst.size; omega, ?_, by have := hst.size; omega⟩
    exact ⟨hst.os, hst.tape, hst.output, by have := hst.size; omega, fun g hg => kp g (by omega)⟩
  case body =>
    rintro l pre ⟨x, hx⟩ T W hC hpl hT hsz
    have hbe := hC.be
    have hpn : (nums pre).length = pre.length := by simp [nums]
    have hnum : nums (pre ++ [⟨x, hx⟩]) = nums pre ++ [x] := by simp [nums]
    have kW : Keep w W := ⟨hbe.os.trans (D3.be.os.trans k02.os), hbe.tape.trans (D3.be.tape.trans k02.tape), hbe.output.trans (D3.be.output.trans k02.output), by have := k02.size; have := D3.be.size; have := hbe.size; omega, fun g hg => (hbe.block g (by omega)).trans ((D3.be.block g (by omega)).trans (k02.block g hg))⟩
    have k5 : Keep w (W.setCell ⟨w2.heap.size, x, none⟩ (.int .i64 (pre.length : Nat))).drew := (kW.setCell (p := ⟨w2.heap.size, x, none⟩) (by show w.heap.size ≤ w2.heap.size; omega) _).drew
    obtain ⟨b, o, ca, cp, rfl, hnd⟩ := (hrd.keep k5) x hx
    have t1 : W.cell? ⟨w.heap.size, 1, none⟩ = some (.slice (some ⟨b, o, none⟩) L.length cap) := by
      rw [World.cell?_of_block (a := ⟨w.heap.size, 1, none⟩) ((hbe.block w.heap.size (by omega)).trans (D3.be.block _ (by omega)))]; exact c1
    have t2 : W.cell? ⟨w2.heap.size + 1, 0, none⟩ = some (.slice (some ⟨w2.heap.size, 0, none⟩) L.length L.length) := by rw [cell_of_row W _ 0 _ 29 (0, 0) hC.bx]; rfl
    have t3 : W.cell? ⟨w2.heap.size + 3, 0, none⟩ = some (.slice (some ⟨w2.heap.size + 2, 0, none⟩) pre.length L.length) := by rw [cell_of_row W _ 0 _ 22 (0, 0) hC.bl, hpn]; rfl
    have t4 := hC.row.cell x (by rw [anF_len]; exact hx)
    have f4 := hC.row.frozen x
    have hxc : (x : Int) < (L.length : Int) := by omega
    have ne5 : ∀ g, g ≠ w2.heap.size → (W.setCell ⟨w2.heap.size, x, none⟩ (.int .i64 (pre.length : Nat))).drew.heap[g]? = W.heap[g]? := neq_set W w2.heap.size x _
    have row5 : RowI (W.setCell ⟨w2.heap.size, x, none⟩ (.int .i64 (pre.length : Nat))).drew w2.heap.size (anF L.length (nums pre ++ [x])) := by
      rw [anF_snoc, hpn]; exact hC.row.set x pre.length
    have st5 : ((W.setCell ⟨w2.heap.size, x, none⟩ (.int .i64 (pre.length : Nat))).drew.os = W.os ∧ (W.setCell ⟨w2.heap.size, x, none⟩ (.int .i64 (pre.length : Nat))).drew.tape = W.tape ∧ (W.setCell ⟨w2.heap.size, x, none⟩ (.int .i64 (pre.length : Nat))).drew.output = W.output) ∧ (W.setCell ⟨w2.heap.size, x, none⟩ (.int .i64 (pre.length : Nat))).drew.heap.size = W.heap.size := ⟨⟨rfl, rfl, rfl⟩, by show (W.setCell _ _).heap.size = _; simp⟩
    have e1 : (W.setCell ⟨w2.heap.size, x, none⟩ (.int .i64 (pre.length : Nat))).drew.cell? ⟨w.heap.size, 1, none⟩ = some (.slice (some ⟨b, o, none⟩) L.length cap) := by rw [World.cell?_of_block (a := ⟨w.heap.size, 1, none⟩) (ne5 _ (by show w.heap.size ≠ _; omega))]; exact t1
    have b3 : (W.setCell ⟨w2.heap.size, x, none⟩ (.int .i64 (pre.length : Nat))).drew.heap[w2.heap.size + 3]? = some (.cells #[.slice (some ⟨w2.heap.size + 2, 0, none⟩) pre.length L.length] 22 (0, 0)) := by rw [ne5 _ (by omega), hC.bl, hpn]
    have e3 : (W.setCell ⟨w2.heap.size, x, none⟩ (.int .i64 (pre.length : Nat))).drew.cell? ⟨w2.heap.size + 3, 0, none⟩ = some (.slice (some ⟨w2.heap.size + 2, 0, none⟩) pre.length L.length) := by rw [cell_of_row _ _ 0 _ 22 (0, 0) b3]; rfl
    gi_wp2_with fail
    replace hnd : Hid _ := hnd
    obtain ⟨w5, hw5⟩ : ∃ w5, (W.setCell ⟨w2.heap.size, x, none⟩ (.int .i64 (pre.length : Nat))).drew = w5 := ⟨_, rfl⟩
    rw [hw5] at k5 hnd ne5 row5 st5 e1 b3 e3
    obtain ⟨K, n1, n2, n3, n4, n5⟩ := hC.kn
    rw [hpn] at n1
    have hKr : RowK w5 (w2.heap.size + 2) L.length K := n3.same (ne5 _ (by omega))
    obtain ⟨N, hN⟩ : ∃ N, L.getD x nd0 = N := ⟨_, rfl⟩
    rw [hN] at hnd
    have hCN := fun (wx : World) (k : Keep w5 wx) => copyNode_any N ca cp wx (hnd.out.rd.keep k) hnd.out.sz hnd.out.cp
    refine wpIn_mono (Q := fun e a' w' => e = .normal ∧ ∃ va cc w6 cur, cnP w5 N va cc w6 ∧ cnC L.length K N va cc cur ∧ w' = ((w6.alloc (cnB N va cc)).setRow (w2.heap.size + 2) cur).setCell ⟨w2.heap.size + 3, 0, none⟩ (.slice (some ⟨w2.heap.size + 2, 0, none⟩) (K.length + 1) L.length)) ?_ ?_
    · refine wpIn_region_inv (cnI (cnV w.heap.size w2.heap.size b o x pre.length L.length cap N ca cp) w5 w2.heap.size L.length K N (fun xv => { tmps := #[Value.agg #[Value.int IntKind.i64 out, Value.slice (some ⟨b, o, none⟩) L.length cap], Value.pointer (some ⟨w.heap.size, 0, none⟩), Value.pointer (some ⟨w.heap.size + 1, 0, none⟩), Value.int IntKind.i64 0, Value.int IntKind.i64 0, Value.int IntKind.i64 (shI L : Nat), Value.pointer (some ⟨w2.heap.size + 1, 0, none⟩), Value.pointer (some ⟨w2.heap.size + 3, 0, none⟩), Value.int IntKind.i64 (x : Nat), undef, undef, Value.tuple #[Value.int IntKind.i64 0, Value.int IntKind.i64 (shI L : Nat)], Value.agg #[Value.int IntKind.i64 out, Value.slice (some ⟨b, o, none⟩) L.length cap], Value.tuple #[Value.int IntKind.i64 0, Value.int IntKind.i64 (shI L : Nat)], Value.int IntKind.i64 0, Value.int IntKind.i64 (shI L : Nat), Value.int IntKind.i64 0, Value.bool false, undef, undef, Value.pointer (some ⟨w.heap.size, 1, none⟩), Value.slice (some ⟨b, o, none⟩) L.length cap, Value.int IntKind.i64 (L.length : Nat), Value.slice (some ⟨w2.heap.size, 0, none⟩) L.length L.length, Value.pointer (some ⟨w.heap.size, 1, none⟩), Value.slice (some ⟨b, o, none⟩) L.length cap, Value.int IntKind.i64 (L.length : Nat), Value.slice (some ⟨w2.heap.size + 2, 0, none⟩) 0 L.length, Value.pointer (some ⟨w.heap.size, 1, none⟩), Value.slice (some ⟨b, o, none⟩) L.length cap, Value.func (Fn.func 79) #[] #[Value.pointer (some ⟨w2.heap.size + 4, 0, none⟩)], Value.int IntKind.i64 (x : Nat), Value.slice (some ⟨w2.heap.size, 0, none⟩) L.length L.length, Value.int IntKind.i64 (x : Nat), Value.slice (some ⟨w2.heap.size + 2, 0, none⟩) pre.length L.length, Value.int IntKind.i64 (pre.length : Nat), Value.pointer (some ⟨w2.heap.size, x, none⟩), xv 0, xv 1, xv 2, xv 3, xv 4, xv 5, xv 6, xv 7, xv 8, undef, undef, undef, undef, undef, undef, undef, undef, undef, undef, undef, undef, undef, undef, undef, undef, undef, undef, undef, undef, undef, undef, undef, undef, undef, undef, undef, undef, undef, undef], defers := [] })) (by kernel_rfl) (fun l A w h => h.1) ⟨rfl, fun _ => undef, rfl, fun j _ hj => ?_, ⟨fun h => ?_, fun h => ?_, fun h => ?_⟩, .inl ⟨fun j _ => ?_, hw5⟩⟩ ?_ ?_
      · simp [Array.getD] at hj
      · simp [Array.getD] at h
      · simp [Array.getD] at h
      · simp [Array.getD] at h
      · simp [Array.getD]
      · rintro ls Ac wq ii ⟨hs, xv, rfl, hxv, hL, hS⟩ hi
        obtain ⟨hii, op, ho, hd⟩ := mem_ready.1 hi
        have hlt := (Array.getElem?_eq_some_iff.1 ho).1
        replace hii : ls.getD ii false = false := by
          have hl : ii < ls.size := by rw [hs]; exact hlt
          simpa [Array.getD, hl] using hii
        match ii, hlt with
        | 0, _ =>
          simp only [List.getElem?_toArray, List.getElem?_cons_succ, List.getElem?_cons_zero, Option.some.injEq] at ho
          subst ho
          have h8 : ls.getD 8 false = false := cn8 hS 0 (by omega) hii
          have kq := hS.keep h8
          have cc := kq.cell e3
          refine wpOpIn_step rfl (fun K' hK => ?_)
          go_simp
          exact hK _ _ (cnI.pure hs hxv hL hS (by omega) hii ⟨fun e => by omega, fun e => by omega, fun e => by omega⟩ (by simp [updV, cnV, Nd.v]))
        | 1, _ =>
          simp only [List.getElem?_toArray, List.getElem?_cons_succ, List.getElem?_cons_zero, Option.some.injEq] at ho
          subst ho
          have h8 : ls.getD 8 false = false := cn8 hS 1 (by omega) hii
          have kq := hS.keep h8
          refine wpOpIn_step rfl (fun K' hK => ?_)
          go_simp
          exact hK _ _ (cnI.pure hs hxv hL hS (by omega) hii ⟨fun e => by omega, fun e => by omega, fun e => by omega⟩ (by simp [updV, cnV, Nd.v]))
        | 2, _ =>
          simp only [List.getElem?_toArray, List.getElem?_cons_succ, List.getElem?_cons_zero, Option.some.injEq] at ho
          subst ho
          have x1 : xv 1 = cnV w.heap.size w2.heap.size b o x pre.length L.length cap N ca cp 1 := hxv 1 (by omega) (hd { on := 1, ground := .data } (by simp) rfl)
          simp only [cnV] at x1
          have h8 : ls.getD 8 false = false := cn8 hS 2 (by omega) hii
          have kq := hS.keep h8
          have cc := kq.cell e1
          refine wpOpIn_step rfl (fun K' hK => ?_)
          go_simp
          exact hK _ _ (cnI.pure hs hxv hL hS (by omega) hii ⟨fun e => by omega, fun e => by omega, fun _ => hd { on := 1, ground := .data } (by simp) rfl⟩ (by simp [updV, cnV, Nd.v, x1]))
        | 3, _ =>
          simp only [List.getElem?_toArray, List.getElem?_cons_succ, List.getElem?_cons_zero, Option.some.injEq] at ho
          subst ho
          have h8 : ls.getD 8 false = false := cn8 hS 3 (by omega) hii
          have kq := hS.keep h8
          refine wpOpIn_step rfl (fun K' hK => ?_)
          go_simp
          exact hK _ _ (cnI.pure hs hxv hL hS (by omega) hii ⟨fun e => by omega, fun e => by omega, fun e => by omega⟩ (by simp [updV, cnV, Nd.v]))
        | 4, _ =>
          simp only [List.getElem?_toArray, List.getElem?_cons_succ, List.getElem?_cons_zero, Option.some.injEq] at ho
          subst ho
          have x2 : xv 2 = cnV w.heap.size w2.heap.size b o x pre.length L.length cap N ca cp 2 := hxv 2 (by omega) (hd { on := 2, ground := .data } (by simp) rfl)
          simp only [cnV] at x2
          have x3 : xv 3 = cnV w.heap.size w2.heap.size b o x pre.length L.length cap N ca cp 3 := hxv 3 (by omega) (hd { on := 3, ground := .data } (by simp) rfl)
          simp only [cnV] at x3
          have h8 : ls.getD 8 false = false := cn8 hS 4 (by omega) hii
          have kq := hS.keep h8
          refine wpOpIn_step rfl (fun K' hK => ?_)
          go_simp
          exact hK _ _ (cnI.pure hs hxv hL hS (by omega) hii ⟨fun e => by omega, fun _ => ⟨hd { on := 2, ground := .data } (by simp) rfl, hd { on := 3, ground := .data } (by simp) rfl⟩, fun e => by omega⟩ (by simp [updV, cnV, Nd.v, x2, x3]))
        | 5, _ =>
          simp only [List.getElem?_toArray, List.getElem?_cons_succ, List.getElem?_cons_zero, Option.some.injEq] at ho
          subst ho
          have x4 : xv 4 = cnV w.heap.size w2.heap.size b o x pre.length L.length cap N ca cp 4 := hxv 4 (by omega) (hd { on := 4, ground := .data } (by simp) rfl)
          simp only [cnV] at x4
          have h8 : ls.getD 8 false = false := cn8 hS 5 (by omega) hii
          have kq := hS.keep h8
          have q0 := kq.cell hnd.out.c0
          have q1 := kq.cell hnd.out.c1
          have q2 := kq.cell hnd.out.c2
          have q3 := kq.cell hnd.out.c3
          have q4 := kq.cell hnd.out.c4
          have q5 := kq.cell hnd.out.c5
          have q6 := kq.cell hnd.out.c6
          have q7 := kq.cell hnd.out.c7
          refine wpOpIn_step rfl (fun K' hK => ?_)
          go_simp
          exact hK _ _ (cnI.pure hs hxv hL hS (by omega) hii ⟨fun _ => hd { on := 4, ground := .data } (by simp) rfl, fun e => by omega, fun e => by omega⟩ (by simp [updV, cnV, Nd.v, x4]))
        | 6, _ =>
          simp only [List.getElem?_toArray, List.getElem?_cons_succ, List.getElem?_cons_zero, Option.some.injEq] at ho
          subst ho
          have l5 := hd { on := 5, ground := .data } (by simp) rfl
          have x5 : xv 5 = N.v ca cp := hxv 5 (by omega) l5
          rcases hS with ⟨h1, rfl⟩ | ⟨h1, -⟩ | ⟨h1, -⟩ | ⟨h1, -⟩ | ⟨h1, -⟩
          · have hx' : Hid _ := hxv
            clear hxv
            refine wpOpIn_step rfl (fun K' hK => ?_)
            go_simp
            refine ⟨trivial, fun _ => by omega, ?_⟩
            refine (CallsIn.inRound l (callsIn_wide.2 (hCN _ (Keep.refl _)))).mono ?_
            rintro e w6 ⟨va, cc, rfl, hO, hcc, k6⟩
            exact hK _ _ (cnI.call hs hx'.out hL h1 l5 ⟨hO, hcc, k6⟩ (by simp [updV, x5]))
          · have := h1 6 (by omega) (by omega); rw [this] at hii; cases hii
          · have := h1 6 (by omega) (by omega); rw [this] at hii; cases hii
          · have := h1 6 (by omega); rw [this] at hii; cases hii
          · have := h1 6 (by omega); rw [this] at hii; cases hii
        | 7, _ =>
          simp only [List.getElem?_toArray, List.getElem?_cons_succ, List.getElem?_cons_zero, Option.some.injEq] at ho
          subst ho
          have l6 := hd { on := 6, ground := .data } (by simp) rfl
          rcases hS with ⟨h1, -⟩ | ⟨h1, h2, va, cc, hP, x6⟩ | ⟨h1, -⟩ | ⟨h1, -⟩ | ⟨h1, -⟩
          · have := h1 6 (by omega); rw [this] at l6; cases l6
          · unfold Nd.v at x6
            have hx' : Hid _ := hxv
            clear hxv
            refine wpOpIn_step rfl (fun K' hK => ?_)
            go_simp
            exact hK _ _ (cnI.made hs hx'.out hL h1 h2 hP (by simp [updV, x6]))
          · have := h1 7 (by omega) (by omega); rw [this] at hii; cases hii
          · have := h1 7 (by omega); rw [this] at hii; cases hii
          · have := h1 7 (by omega); rw [this] at hii; cases hii
        | 8, _ =>
          simp only [List.getElem?_toArray, List.getElem?_cons_succ, List.getElem?_cons_zero, Option.some.injEq] at ho
          subst ho
          have l7 := hd { on := 7, ground := .data } (by simp) rfl
          have l0 := hd { on := 0, ground := .data } (by simp) rfl
          have x0 : xv 0 = .slice (some ⟨w2.heap.size + 2, 0, none⟩) pre.length L.length := hxv 0 (by omega) l0
          rcases hS with ⟨h1, -⟩ | ⟨h1, h2, -⟩ | ⟨h1, h2, va, cc, w6, hP, rfl, x7⟩ | ⟨h1, -⟩ | ⟨h1, -⟩
          · have := h1 7 (by omega); rw [this] at l7; cases l7
          · have := h2 7 (by omega); rw [this] at l7; cases l7
          · refine wpOpIn_step rfl (fun K' hK => ?_)
            refine stepIn_appN rfl _ _ rfl (w2.heap.size + 2) pre.length L.length K (N, va, cc) (hKr.same ?_) n1 (by omega) ?_ ⟨w6.heap.size, 0, none⟩ 1 ?_ (newsN w6 _ rfl N va cc) ?_
            · exact (hP.2.2.alloc (cnB N va cc)).block _ (by have := hP.2.2.le; obtain ⟨cur, hc, -⟩ := hKr; exact (Array.getElem?_eq_some_iff.1 hc).1)
            · exact x0
            · exact x7
            · intro cur' z1 z2
              rw [← n1] at z2 ⊢
              exact hK _ _ (cnI.appd hs hxv hL l0 h1 h2 hP ⟨z1, z2⟩ (by simp [updV, Act.put, n1]))
          · have := h1 8 (by omega); rw [this] at hii; cases hii
          · have := h1 8 (by omega); rw [this] at hii; cases hii
        | 9, _ =>
          simp only [List.getElem?_toArray, List.getElem?_cons_succ, List.getElem?_cons_zero, Option.some.injEq] at ho
          subst ho
          have l8 := hd { on := 8, ground := .data } (by simp) rfl
          rcases hS with ⟨h1, -⟩ | ⟨h1, h2, -⟩ | ⟨h1, h2, -⟩ | ⟨h1, h2, va, cc, w6, cur, hP, hc, rfl, x8⟩ | ⟨h1, -⟩
          · have := h1 8 (by omega); rw [this] at l8; cases l8
          · have := h2 8 (by omega); rw [this] at l8; cases l8
          · have := h2 8 (by omega); rw [this] at l8; cases l8
          · have bb : ((w6.alloc (cnB N va cc)).setRow (w2.heap.size + 2) cur).heap[w2.heap.size + 3]? = some (.cells #[.slice (some ⟨w2.heap.size + 2, 0, none⟩) pre.length L.length] 22 (0, 0)) := (setRow_other _ _ _ _ (by omega)).trans (((hP.2.2.alloc _).block _ (Array.getElem?_eq_some_iff.1 b3).1).trans b3)
            have cc0 := cell_of_row _ _ 0 _ 22 (0, 0) bb
            have ff0 := frozen_of_row _ _ 0 _ 22 bb
            have hx' : Hid _ := hxv
            clear hxv
            have cc1 : ((w6.alloc (cnB N va cc)).setRow (w2.heap.size + 2) cur).cell? ⟨w2.heap.size + 3, 0, none⟩ = some (.slice (some ⟨w2.heap.size + 2, 0, none⟩) pre.length L.length) := by rw [cc0]; rfl
            clear cc0 n1
            refine wpOpIn_step rfl (fun K' hK => ?_)
            go_simp
            refine hK _ _ (cnI.last (A := w2.heap.size) hs hx'.out hL h1 hP hc ?_)
            first | rfl | (dsimp only; rw [x8]) | (dsimp only; simp [x8])
          · have := h1 9 (by omega); rw [this] at hii; cases hii
        | n + 10, hn => exact absurd hn (by show ¬ n + 10 < 10; omega)
      · rintro ls Ac wq ⟨hs, xv, rfl, hxv, hL, hS⟩ hr
        have g0 : ls.getD 0 false = true := ready_nil hr (i := 0) rfl hs (by intro e he hb; simp at he)
        have g1 : ls.getD 1 false = true := ready_nil hr (i := 1) rfl hs (by intro e he hb; simp at he)
        have g2 : ls.getD 2 false = true := ready_nil hr (i := 2) rfl hs (by intro e he hb; simp at he; subst he; assumption)
        have g3 : ls.getD 3 false = true := ready_nil hr (i := 3) rfl hs (by intro e he hb; simp at he)
        have g4 : ls.getD 4 false = true := ready_nil hr (i := 4) rfl hs (by intro e he hb; simp at he; rcases he with rfl | rfl <;> assumption)
        have g5 : ls.getD 5 false = true := ready_nil hr (i := 5) rfl hs (by intro e he hb; simp at he; subst he; assumption)
        have g6 : ls.getD 6 false = true := ready_nil hr (i := 6) rfl hs (by intro e he hb; simp at he; first | (subst he; assumption) | (rcases he with rfl | rfl <;> assumption))
        have g7 : ls.getD 7 false = true := ready_nil hr (i := 7) rfl hs (by intro e he hb; simp at he; subst he; assumption)
        have g8 : ls.getD 8 false = true := ready_nil hr (i := 8) rfl hs (by intro e he hb; simp at he; rcases he with rfl | rfl | rfl <;> assumption)
        have g9 : ls.getD 9 false = true := ready_nil hr (i := 9) rfl hs (by intro e he hb; simp at he; rcases he with rfl | rfl | rfl | rfl | rfl | rfl | rfl | rfl | rfl | rfl | rfl <;> assumption)
        rcases hS with ⟨h1, -⟩ | ⟨h1, h2, -⟩ | ⟨h1, h2, -⟩ | ⟨h1, h2, -⟩ | ⟨h1, va, cc, w6, cur, hP, hc, e⟩
        · have := h1 9 (by omega); rw [this] at g9; cases g9
        · have := h2 9 (by omega); rw [this] at g9; cases g9
        · have := h2 9 (by omega); rw [this] at g9; cases g9
        · have := h2 9 (by omega); rw [this] at g9; cases g9
        · exact ⟨rfl, va, cc, w6, cur, hP, hc, e⟩
    · rintro e a' w' ⟨rfl, va, cc, w6, cur, hP, hc, rfl⟩
      gi_wp2_with fail
      obtain ⟨hO6, hcc, k56⟩ := hP
      have ks := k56.le
      have s5 := st5.2
      have szW : (((w6.alloc (cnB N va cc)).setRow (w2.heap.size + 2) cur).setCell ⟨w2.heap.size + 3, 0, none⟩ (.slice (some ⟨w2.heap.size + 2, 0, none⟩) (K.length + 1) L.length)).heap.size = w6.heap.size + 1 := by simp
      have kg6 : ∀ g, g < w6.heap.size → g ≠ w2.heap.size + 2 → g ≠ w2.heap.size + 3 → (((w6.alloc (cnB N va cc)).setRow (w2.heap.size + 2) cur).setCell ⟨w2.heap.size + 3, 0, none⟩ (.slice (some ⟨w2.heap.size + 2, 0, none⟩) (K.length + 1) L.length)).heap[g]? = w6.heap[g]? := fun g h h2 h3 => by
        rw [neq_set _ _ _ _ g h3, setRow_other _ _ _ _ h2]
        exact Below.heap_alloc _ _ _ h
      have kg : ∀ g, g < W.heap.size → g ≠ w2.heap.size → g ≠ w2.heap.size + 2 → g ≠ w2.heap.size + 3 → (((w6.alloc (cnB N va cc)).setRow (w2.heap.size + 2) cur).setCell ⟨w2.heap.size + 3, 0, none⟩ (.slice (some ⟨w2.heap.size + 2, 0, none⟩) (K.length + 1) L.length)).heap[g]? = W.heap[g]? := fun g h h1 h2 h3 => (kg6 g (by omega) h2 h3).trans ((k56.block g (by omega)).trans (ne5 g h1))
      have rA : RowI (((w6.alloc (cnB N va cc)).setRow (w2.heap.size + 2) cur).setCell ⟨w2.heap.size + 3, 0, none⟩ (.slice (some ⟨w2.heap.size + 2, 0, none⟩) (K.length + 1) L.length)) w2.heap.size (anF L.length (nums pre ++ [x])) := by
        unfold RowI
        rw [kg6 _ (by omega) (by omega) (by omega), k56.block _ (by omega)]
        exact row5
      have b2r : (((w6.alloc (cnB N va cc)).setRow (w2.heap.size + 2) cur).setCell ⟨w2.heap.size + 3, 0, none⟩ (.slice (some ⟨w2.heap.size + 2, 0, none⟩) (K.length + 1) L.length)).heap[w2.heap.size + 2]? = some (.cells cur 40 (0, 0)) := by
        obtain ⟨cur0, hc0, -⟩ := hKr
        rw [neq_set _ _ _ _ _ (by omega)]
        exact setRow_heap _ _ cur0 cur 40 (0, 0) (((k56.alloc (cnB N va cc)).block _ (by omega)).trans hc0)
      have b3r : (((w6.alloc (cnB N va cc)).setRow (w2.heap.size + 2) cur).setCell ⟨w2.heap.size + 3, 0, none⟩ (.slice (some ⟨w2.heap.size + 2, 0, none⟩) (K.length + 1) L.length)).heap[w2.heap.size + 3]? = some (.cells #[.slice (some ⟨w2.heap.size + 2, 0, none⟩) (K.length + 1) L.length] 22 (0, 0)) := by
        have h := (setRow_other (w6.alloc (cnB N va cc)) (w2.heap.size + 2) (w2.heap.size + 3) cur (by omega)).trans (((k56.alloc (cnB N va cc)).block _ (by omega)).trans b3)
        have := heap_setCell_same _ (w2.heap.size + 3) 0 _ 22 (.slice (some ⟨w2.heap.size + 2, 0, none⟩) (K.length + 1) L.length) h
        simpa using this
      have stq : (((w6.alloc (cnB N va cc)).setRow (w2.heap.size + 2) cur).setCell ⟨w2.heap.size + 3, 0, none⟩ (.slice (some ⟨w2.heap.size + 2, 0, none⟩) (K.length + 1) L.length)).os = W.os ∧ (((w6.alloc (cnB N va cc)).setRow (w2.heap.size + 2) cur).setCell ⟨w2.heap.size + 3, 0, none⟩ (.slice (some ⟨w2.heap.size + 2, 0, none⟩) (K.length + 1) L.length)).tape = W.tape ∧ (((w6.alloc (cnB N va cc)).setRow (w2.heap.size + 2) cur).setCell ⟨w2.heap.size + 3, 0, none⟩ (.slice (some ⟨w2.heap.size + 2, 0, none⟩) (K.length + 1) L.length)).output = W.output :=
        ⟨k56.os.trans st5.1.1, k56.tape.trans st5.1.2.1, k56.output.trans st5.1.2.2⟩
      have hO' : OwnZ 3 (w2.heap.size + 7) (((w6.alloc (cnB N va cc)).setRow (w2.heap.size + 2) cur).setCell ⟨w2.heap.size + 3, 0, none⟩ (.slice (some ⟨w2.heap.size + 2, 0, none⟩) (K.length + 1) L.length)) (.slice va N.cs.length cc) N.cs := by
        refine (hO6.mono (by omega)).same (fun g hg => ?_)
        obtain ⟨h1, c, h2⟩ := hO6.block hg
        exact kg6 g (Array.getElem?_eq_some_iff.1 h2).1 (by omega) (by omega)
      have hNo : ∀ g, (Value.slice va N.cs.length cc).ownBlock = some g → ¬ T g := fun g hg h => by
        have := (hO6.block hg).1
        have := (hC.tb g h).2
        omega
      generalize ((w6.alloc (cnB N va cc)).setRow (w2.heap.size + 2) cur).setCell ⟨w2.heap.size + 3, 0, none⟩ (.slice (some ⟨w2.heap.size + 2, 0, none⟩) (K.length + 1) L.length) = W' at *
      unfold postT
      refine ⟨⟨kg _ (by omega) (by omega) (by omega) (by omega), kg _ (by omega) (by omega) (by omega) (by omega)⟩, ⟨stq.1, stq.2.1, stq.2.2, by omega, fun g hg h => kg g hg (by rcases h with h | h; omega; have := hC.tb g h; omega) (by rcases h with h | h; omega; have := hC.tb g h; omega) (by rcases h with h | h; omega; have := hC.tb g h; omega)⟩, ?_⟩
      show CnI L w2.heap.size w3 (nums (pre ++ [⟨x, hx⟩])) T W'
      rw [hnum]
      have hl1 : (nums pre ++ [x]).length = K.length + 1 := by rw [List.length_append, hpn, n1]; rfl
      refine ⟨rA, (kg _ (by omega) (by omega) (by omega) (by omega)).trans hC.bx, by rw [hl1]; exact b3r, ⟨K ++ [(N, va, cc)], by rw [hl1]; simp, ?_, ⟨cur, b2r, hc.1, by rw [List.length_append]; exact hc.2⟩, ?_, ?_⟩, fun g hg => ⟨(hC.tb g hg).1, by have := (hC.tb g hg).2; omega⟩, ?_, by omega⟩
      · intro j hj
        rw [hl1] at hj
        rw [getD_snocN]
        by_cases e : j = K.length
        · rw [if_pos e]
          refine ⟨?_, hcc⟩
          rw [show (nums pre ++ [x]).getD j 0 = x by rw [e, n1, ← hpn]; simp [List.getD], hN]
        · rw [if_neg e]
          have h := n2 j (by rw [hpn]; omega)
          rw [show (nums pre ++ [x]).getD j 0 = (nums pre).getD j 0 by unfold List.getD; rw [List.getElem?_append_left (by rw [hpn]; omega)]]
          exact h
      · intro j hj
        rw [hl1] at hj
        rw [getD_snocN]
        by_cases e : j = K.length
        · rw [if_pos e]; exact hO'
        · rw [if_neg e]
          refine (n4 j (by rw [hpn]; omega)).same (fun g hg => ?_)
          obtain ⟨h1, c, h2⟩ := (n4 j (by rw [hpn]; omega)).block hg
          exact kg g (Array.getElem?_eq_some_iff.1 h2).1 (by omega) (by omega) (by omega)
      · intro j hj
        rw [hl1] at hj
        rw [getD_snocN]
        by_cases e : j = K.length
        · rw [if_pos e]; exact hNo
        · rw [if_neg e]; exact n5 j (by rw [hpn]; omega)
      · exact ⟨stq.1.trans hbe.os, stq.2.1.trans hbe.tape, stq.2.2.trans hbe.output, by have := hbe.size; omega, fun g hg => (kg g (by have := hC.sz; omega) (by omega) (by omega) (by omega)).trans (hbe.block g hg)⟩
  case done =>
    rintro xs T W hxs hC hD
    rw [sA] at hD ⊢
    rw [hxs] at hC
    have t3 : W.cell? ⟨w2.heap.size + 3, 0, none⟩ = some (.slice (some ⟨w2.heap.size + 2, 0, none⟩) (ord (shp L) L.length).length L.length) := by rw [cell_of_row W _ 0 _ 22 (0, 0) hC.bl]; rfl
    gi_wp2_with fail
    obtain ⟨K, n1, n2, n3, n4, n5⟩ := hC.kn
    rw [wpIn_wide]
    obtain ⟨p, hp⟩ : ∃ p, ord (shp L) L.length = p := ⟨_, rfl⟩
    rw [hp] at hC t3 n1 n2 n4 n5 ⊢
    have hpl : p.length ≤ L.length := by rw [← hp]; exact ord_len hR.wi
    go_loopw [48] (fun iv wr => ∃ k : Nat, k ≤ p.length ∧ iv = .int .i64 k ∧ C2 L.length p.length w2.heap.size (anF L.length p) K W k wr) (fun iv _ => p.length - (intOf iv).toNat)
    case atStart => exact ⟨0, by omega, rfl, hC.row, hC.bx, hC.bl, by simpa [rnF] using n3, fun g _ _ => rfl, rfl, rfl, rfl, Nat.le_refl _⟩
    case round =>
      obtain ⟨k, hk, rfl, hI⟩ := hrel
      by_cases hkl : k < p.length
      · have hkc : (k : Int) < (p.length : Int) := by omega
        have hkn : (k : Int) < (L.length : Int) := by omega
        have hcs := hI.kr.cells (j := k) (by rw [rnF_len, n1]; exact hkl)
        rw [rnF_at (by rw [n1]; exact hkl)] at hcs
        obtain ⟨r, hr⟩ : ∃ r, K.getD k nt0 = r := ⟨_, rfl⟩
        rw [hr] at hcs
        obtain ⟨N, va, cc⟩ := r
        have d0 := hcs 0 _ (by omega) rfl
        have d1 := hcs 1 _ (by omega) rfl
        have d2 := hcs 2 _ (by omega) rfl
        have d3 := hcs 3 _ (by omega) rfl
        have d4 := hcs 4 _ (by omega) rfl
        have d5 := hcs 5 _ (by omega) rfl
        have d6 := hcs 6 _ (by omega) rfl
        have d7 := hcs 7 _ (by omega) rfl
        simp only [Nat.add_zero] at d0
        clear hcs
        go_wp2_with fail
        have hNe : N = L.getD (p.getD k 0) nd0 := by have := (n2 k hkl).1; rw [hr] at this; exact this
        have hpk : p.getD k 0 < L.length := ord_lt hR.wi _ (by rw [hp]; simp [List.getD, hkl])
        obtain ⟨⟨li, hli, hln⟩, ri, hri, hrn⟩ := hR.sides hpk
        rw [← hNe] at hli hri
        replace hNe : Hid _ := hNe
        obtain ⟨X, hX⟩ : ∃ X, (anF L.length p).getD li 0 = X := ⟨_, rfl⟩
        obtain ⟨Y, hY⟩ : ∃ Y, (anF L.length p).getD ri 0 = Y := ⟨_, rfl⟩
        have hsA : w2.heap.size + 5 ≤ wr.heap.size := by have := hC.sz; have := hI.sz; omega
        obtain ⟨W1, hW1⟩ : ∃ W1, (wr.alloc (Obj.cells #[Value.int IntKind.u8 N.kd, Value.int IntKind.i64 N.vl, Value.int IntKind.i64 N.ft, Value.float FloatKind.f64 N.th, Value.slice va N.cs.length cc, Value.int IntKind.u8 N.ms, Value.int IntKind.i64 N.lf, Value.int IntKind.i64 N.rt] 40)).drew = W1 := ⟨_, rfl⟩
        have kq : ∀ g, g < wr.heap.size → W1.heap[g]? = wr.heap[g]? := fun g hg => by rw [← hW1]; exact Below.heap_alloc _ _ _ hg
        have bq : W1.heap[wr.heap.size]? = some (Obj.cells #[Value.int IntKind.u8 N.kd, Value.int IntKind.i64 N.vl, Value.int IntKind.i64 N.ft, Value.float FloatKind.f64 N.th, Value.slice va N.cs.length cc, Value.int IntKind.u8 N.ms, Value.int IntKind.i64 N.lf, Value.int IntKind.i64 N.rt] 40 (0, 0)) := by rw [← hW1]; exact heap_alloc_new wr _
        have szq : W1.heap.size = wr.heap.size + 1 := by rw [← hW1]; show (wr.alloc _).heap.size = _; simp
        have rq : RowK W1 (w2.heap.size + 2) L.length (rnF (anF L.length p) K k) := hI.kr.same (kq _ (by omega))
        have rowq : RowI W1 w2.heap.size (anF L.length p) := by unfold RowI; rw [kq _ (by omega)]; exact hI.row
        have o1 : W1.cell? ⟨w2.heap.size + 1, 0, none⟩ = some (.slice (some ⟨w2.heap.size, 0, none⟩) L.length L.length) := by rw [cell_of_row W1 _ 0 _ 29 (0, 0) ((kq _ (by omega)).trans hI.bx)]; rfl
        have o3 : W1.cell? ⟨w2.heap.size + 3, 0, none⟩ = some (.slice (some ⟨w2.heap.size + 2, 0, none⟩) p.length L.length) := by rw [cell_of_row W1 _ 0 _ 22 (0, 0) ((kq _ (by omega)).trans hI.bl)]; rfl
        have o6 : W1.cell? ⟨wr.heap.size, 6, none⟩ = some (.int .i64 (li : Nat)) := by rw [cell_of_row W1 _ 6 _ 40 (0, 0) bq, ← hli]; rfl
        have o7 : W1.cell? ⟨wr.heap.size, 7, none⟩ = some (.int .i64 (ri : Nat)) := by rw [cell_of_row W1 _ 7 _ 40 (0, 0) bq, ← hri]; rfl
        have oX : W1.cell? ⟨w2.heap.size, li, none⟩ = some (.int .i64 (X : Nat)) := by rw [rowq.cell li (by rw [anF_len]; exact hln), hX]
        have oY : W1.cell? ⟨w2.heap.size, ri, none⟩ = some (.int .i64 (Y : Nat)) := by rw [rowq.cell ri (by rw [anF_len]; exact hrn), hY]
        replace hli : Hid _ := hli
        replace hri : Hid _ := hri
        have hlc : (li : Int) < (L.length : Int) := by omega
        have hrc : (ri : Int) < (L.length : Int) := by omega
        refine Code.wp_mono (Q := fun e a' w' => e = .normal ∧ (∃ xv : Nat → Value, a' = { tmps := #[Value.agg #[Value.int IntKind.i64 out, Value.slice a L.length cap], Value.pointer (some ⟨w.heap.size, 0, none⟩), Value.pointer (some ⟨w.heap.size + 1, 0, none⟩), Value.int IntKind.i64 0, Value.int IntKind.i64 0, Value.int IntKind.i64 (shI L : Nat), Value.pointer (some ⟨w2.heap.size + 1, 0, none⟩), Value.pointer (some ⟨w2.heap.size + 3, 0, none⟩), undef, Value.int IntKind.i64 (k : Nat), Value.pointer (some ⟨wr.heap.size, 0, none⟩), Value.tuple #[Value.int IntKind.i64 0, Value.int IntKind.i64 (shI L : Nat)], Value.agg #[Value.int IntKind.i64 out, Value.slice a L.length cap], Value.tuple #[Value.int IntKind.i64 0, Value.int IntKind.i64 (shI L : Nat)], Value.int IntKind.i64 0, Value.int IntKind.i64 (shI L : Nat), Value.int IntKind.i64 0, Value.bool false, undef, undef, Value.pointer (some ⟨w.heap.size, 1, none⟩), Value.slice a L.length cap, Value.int IntKind.i64 (L.length : Nat), Value.slice (some ⟨w2.heap.size, 0, none⟩) L.length L.length, Value.pointer (some ⟨w.heap.size, 1, none⟩), Value.slice a L.length cap, Value.int IntKind.i64 (L.length : Nat), Value.slice (some ⟨w2.heap.size + 2, 0, none⟩) 0 L.length, Value.pointer (some ⟨w.heap.size, 1, none⟩), Value.slice a L.length cap, Value.func (Fn.func 79) #[] #[Value.pointer (some ⟨w2.heap.size + 4, 0, none⟩)], undef, undef, undef, undef, undef, undef, undef, undef, undef, undef, undef, undef, undef, undef, undef, Value.slice (some ⟨w2.heap.size + 2, 0, none⟩) p.length L.length, Value.int IntKind.i64 (p.length : Nat), Value.int IntKind.i64 (k : Nat), Value.bool true, Value.int IntKind.i64 (k : Nat), Value.pointer (some ⟨w2.heap.size + 2, k * 8, none⟩), Value.agg #[Value.int IntKind.u8 N.kd, Value.int IntKind.i64 N.vl, Value.int IntKind.i64 N.ft, Value.float FloatKind.f64 N.th, Value.slice va N.cs.length cc, Value.int IntKind.u8 N.ms, Value.int IntKind.i64 N.lf, Value.int IntKind.i64 N.rt], xv 0, xv 1, xv 2, xv 3, xv 4, xv 5, xv 6, xv 7, xv 8, xv 9, xv 10, xv 11, xv 12, xv 13, xv 14, xv 15, xv 17, xv 18, u71, undef, undef, undef, undef], defers := [{ target := Target.collected (w2.heap.size + 5), args := #[] }] }) ∧ w' = (W1.setCell ⟨w2.heap.size + 2, k * 8 + 6, none⟩ (.int .i64 (X : Nat))).setCell ⟨w2.heap.size + 2, k * 8 + 7, none⟩ (.int .i64 (Y : Nat))) ?_ ?_
        rotate_left
        · refine wp_region_inv (c2I (c2V w2.heap.size wr.heap.size k p.length L.length li ri X Y) W1 (W1.setCell ⟨w2.heap.size + 2, k * 8 + 6, none⟩ (.int .i64 (X : Nat))) ((W1.setCell ⟨w2.heap.size + 2, k * 8 + 6, none⟩ (.int .i64 (X : Nat))).setCell ⟨w2.heap.size + 2, k * 8 + 7, none⟩ (.int .i64 (Y : Nat))) (fun xv => { tmps := #[Value.agg #[Value.int IntKind.i64 out, Value.slice a L.length cap], Value.pointer (some ⟨w.heap.size, 0, none⟩), Value.pointer (some ⟨w.heap.size + 1, 0, none⟩), Value.int IntKind.i64 0, Value.int IntKind.i64 0, Value.int IntKind.i64 (shI L : Nat), Value.pointer (some ⟨w2.heap.size + 1, 0, none⟩), Value.pointer (some ⟨w2.heap.size + 3, 0, none⟩), undef, Value.int IntKind.i64 (k : Nat), Value.pointer (some ⟨wr.heap.size, 0, none⟩), Value.tuple #[Value.int IntKind.i64 0, Value.int IntKind.i64 (shI L : Nat)], Value.agg #[Value.int IntKind.i64 out, Value.slice a L.length cap], Value.tuple #[Value.int IntKind.i64 0, Value.int IntKind.i64 (shI L : Nat)], Value.int IntKind.i64 0, Value.int IntKind.i64 (shI L : Nat), Value.int IntKind.i64 0, Value.bool false, undef, undef, Value.pointer (some ⟨w.heap.size, 1, none⟩), Value.slice a L.length cap, Value.int IntKind.i64 (L.length : Nat), Value.slice (some ⟨w2.heap.size, 0, none⟩) L.length L.length, Value.pointer (some ⟨w.heap.size, 1, none⟩), Value.slice a L.length cap, Value.int IntKind.i64 (L.length : Nat), Value.slice (some ⟨w2.heap.size + 2, 0, none⟩) 0 L.length, Value.pointer (some ⟨w.heap.size, 1, none⟩), Value.slice a L.length cap, Value.func (Fn.func 79) #[] #[Value.pointer (some ⟨w2.heap.size + 4, 0, none⟩)], undef, undef, undef, undef, undef, undef, undef, undef, undef, undef, undef, undef, undef, undef, undef, Value.slice (some ⟨w2.heap.size + 2, 0, none⟩) p.length L.length, Value.int IntKind.i64 (p.length : Nat), Value.int IntKind.i64 (k : Nat), Value.bool true, Value.int IntKind.i64 (k : Nat), Value.pointer (some ⟨w2.heap.size + 2, k * 8, none⟩), Value.agg #[Value.int IntKind.u8 N.kd, Value.int IntKind.i64 N.vl, Value.int IntKind.i64 N.ft, Value.float FloatKind.f64 N.th, Value.slice va N.cs.length cc, Value.int IntKind.u8 N.ms, Value.int IntKind.i64 N.lf, Value.int IntKind.i64 N.rt], xv 0, xv 1, xv 2, xv 3, xv 4, xv 5, xv 6, xv 7, xv 8, xv 9, xv 10, xv 11, xv 12, xv 13, xv 14, xv 15, xv 17, xv 18, u71, undef, undef, undef, undef], defers := [{ target := Target.collected (w2.heap.size + 5), args := #[] }] })) (by kernel_rfl) (fun l A w h => h.1) ⟨rfl, ⟨fun j => (#[u53, u54, u55, u56, u57, u58, u59, u60, u61, u62, u63, u64, u65, u66, u67, u68, undef, u69, u70] : Array Value).getD j undef, rfl, fun j _ _ hj => ?_⟩, ?_, fun h => ?_, fun h => ?_⟩ ?_ ?_
          · simp [Array.getD] at hj
          · rw [hW1]; simp [Array.getD]
          · simp [Array.getD] at h
          · simp [Array.getD] at h
          · rintro ls Ac wq ii ⟨hs, ⟨xv, rfl, hxv⟩, hw, h19, h18⟩ hi
            obtain ⟨hii, op, ho, hd⟩ := mem_ready.1 hi
            have hlt := (Array.getElem?_eq_some_iff.1 ho).1
            replace hii : ls.getD ii false = false := by
              have hl : ii < ls.size := by rw [hs]; exact hlt
              simpa [Array.getD, hl] using hii
            match ii, hlt with
            | 0, _ =>
              simp only [List.getElem?_toArray, List.getElem?_cons_succ, List.getElem?_cons_zero, Option.some.injEq] at ho
              subst ho
              have l19 : ls.getD 19 false = false := by
                cases h : ls.getD 19 false
                · rfl
                · have := h19 h 0 (by omega); rw [this] at hii; cases hii
              have cq : wq.cell? ⟨w2.heap.size + 3, 0, none⟩ = W1.cell? ⟨w2.heap.size + 3, 0, none⟩ := by
                refine World.cell?_of_block (a := ⟨w2.heap.size + 3, 0, none⟩) ?_
                rw [hw, l19]
                simp only [Bool.false_eq_true, if_false]
                split
                · exact neq_set W1 _ _ _ _ (by show w2.heap.size + 3 ≠ w2.heap.size + 2; omega)
                · rfl
              rw [o3] at cq
              have hx' : Hid _ := hxv
              have hw' : Hid _ := hw
              clear hxv hw
              refine wpOp_step rfl (fun K' hK => ?_)
              go_simp
              exact hK _ _ (c2I.pure hs hx'.out hw'.out h19 h18 (by omega) (by omega) (fun e => by omega) (by simp [updV, c2V]))
            | 1, _ =>
              simp only [List.getElem?_toArray, List.getElem?_cons_succ, List.getElem?_cons_zero, Option.some.injEq] at ho
              subst ho
              have l19 : ls.getD 19 false = false := by
                cases h : ls.getD 19 false
                · rfl
                · have := h19 h 1 (by omega); rw [this] at hii; cases hii
              have hx' : Hid _ := hxv
              have hw' : Hid _ := hw
              clear hxv hw
              refine wpOp_step rfl (fun K' hK => ?_)
              go_simp
              exact hK _ _ (c2I.pure hs hx'.out hw'.out h19 h18 (by omega) (by omega) (fun e => by omega) (by simp [updV, c2V]))
            | 2, _ =>
              simp only [List.getElem?_toArray, List.getElem?_cons_succ, List.getElem?_cons_zero, Option.some.injEq] at ho
              subst ho
              have l19 : ls.getD 19 false = false := by
                cases h : ls.getD 19 false
                · rfl
                · have := h19 h 2 (by omega); rw [this] at hii; cases hii
              have cq : wq.cell? ⟨w2.heap.size + 3, 0, none⟩ = W1.cell? ⟨w2.heap.size + 3, 0, none⟩ := by
                refine World.cell?_of_block (a := ⟨w2.heap.size + 3, 0, none⟩) ?_
                rw [hw, l19]
                simp only [Bool.false_eq_true, if_false]
                split
                · exact neq_set W1 _ _ _ _ (by show w2.heap.size + 3 ≠ w2.heap.size + 2; omega)
                · rfl
              rw [o3] at cq
              have hx' : Hid _ := hxv
              have hw' : Hid _ := hw
              clear hxv hw
              refine wpOp_step rfl (fun K' hK => ?_)
              go_simp
              exact hK _ _ (c2I.pure hs hx'.out hw'.out h19 h18 (by omega) (by omega) (fun e => by omega) (by simp [updV, c2V]))
            | 3, _ =>
              simp only [List.getElem?_toArray, List.getElem?_cons_succ, List.getElem?_cons_zero, Option.some.injEq] at ho
              subst ho
              have l19 : ls.getD 19 false = false := by
                cases h : ls.getD 19 false
                · rfl
                · have := h19 h 3 (by omega); rw [this] at hii; cases hii
              have hx' : Hid _ := hxv
              have hw' : Hid _ := hw
              clear hxv hw
              refine wpOp_step rfl (fun K' hK => ?_)
              go_simp
              exact hK _ _ (c2I.pure hs hx'.out hw'.out h19 h18 (by omega) (by omega) (fun e => by omega) (by simp [updV, c2V]))
            | 4, _ =>
              simp only [List.getElem?_toArray, List.getElem?_cons_succ, List.getElem?_cons_zero, Option.some.injEq] at ho
              subst ho
              have l19 : ls.getD 19 false = false := by
                cases h : ls.getD 19 false
                · rfl
                · have := h19 h 4 (by omega); rw [this] at hii; cases hii
              have cq : wq.cell? ⟨w2.heap.size + 1, 0, none⟩ = W1.cell? ⟨w2.heap.size + 1, 0, none⟩ := by
                refine World.cell?_of_block (a := ⟨w2.heap.size + 1, 0, none⟩) ?_
                rw [hw, l19]
                simp only [Bool.false_eq_true, if_false]
                split
                · exact neq_set W1 _ _ _ _ (by show w2.heap.size + 1 ≠ w2.heap.size + 2; omega)
                · rfl
              rw [o1] at cq
              have hx' : Hid _ := hxv
              have hw' : Hid _ := hw
              clear hxv hw
              refine wpOp_step rfl (fun K' hK => ?_)
              go_simp
              exact hK _ _ (c2I.pure hs hx'.out hw'.out h19 h18 (by omega) (by omega) (fun e => by omega) (by simp [updV, c2V]))
            | 5, _ =>
              simp only [List.getElem?_toArray, List.getElem?_cons_succ, List.getElem?_cons_zero, Option.some.injEq] at ho
              subst ho
              have l19 : ls.getD 19 false = false := by
                cases h : ls.getD 19 false
                · rfl
                · have := h19 h 5 (by omega); rw [this] at hii; cases hii
              have hx' : Hid _ := hxv
              have hw' : Hid _ := hw
              clear hxv hw
              refine wpOp_step rfl (fun K' hK => ?_)
              go_simp
              exact hK _ _ (c2I.pure hs hx'.out hw'.out h19 h18 (by omega) (by omega) (fun e => by omega) (by simp [updV, c2V]))
            | 6, _ =>
              simp only [List.getElem?_toArray, List.getElem?_cons_succ, List.getElem?_cons_zero, Option.some.injEq] at ho
              subst ho
              have x5 : xv 5 = (c2V w2.heap.size wr.heap.size k p.length L.length li ri X Y) 5 := hxv 5 (by omega) (by omega) (hd { on := 5, ground := .data } (by simp) rfl)
              simp only [c2V] at x5
              have l19 : ls.getD 19 false = false := by
                cases h : ls.getD 19 false
                · rfl
                · have := h19 h 6 (by omega); rw [this] at hii; cases hii
              have cq : wq.cell? ⟨wr.heap.size, 6, none⟩ = W1.cell? ⟨wr.heap.size, 6, none⟩ := by
                refine World.cell?_of_block (a := ⟨wr.heap.size, 6, none⟩) ?_
                rw [hw, l19]
                simp only [Bool.false_eq_true, if_false]
                split
                · exact neq_set W1 _ _ _ _ (by show wr.heap.size ≠ w2.heap.size + 2; omega)
                · rfl
              rw [o6] at cq
              have hx' : Hid _ := hxv
              have hw' : Hid _ := hw
              clear hxv hw
              refine wpOp_step rfl (fun K' hK => ?_)
              go_simp
              exact hK _ _ (c2I.pure hs hx'.out hw'.out h19 h18 (by omega) (by omega) (fun e => by omega) (by simp [updV, c2V, x5]))
            | 7, _ =>
              simp only [List.getElem?_toArray, List.getElem?_cons_succ, List.getElem?_cons_zero, Option.some.injEq] at ho
              subst ho
              have x4 : xv 4 = (c2V w2.heap.size wr.heap.size k p.length L.length li ri X Y) 4 := hxv 4 (by omega) (by omega) (hd { on := 4, ground := .data } (by simp) rfl)
              simp only [c2V] at x4
              have x6 : xv 6 = (c2V w2.heap.size wr.heap.size k p.length L.length li ri X Y) 6 := hxv 6 (by omega) (by omega) (hd { on := 6, ground := .data } (by simp) rfl)
              simp only [c2V] at x6
              have l19 : ls.getD 19 false = false := by
                cases h : ls.getD 19 false
                · rfl
                · have := h19 h 7 (by omega); rw [this] at hii; cases hii
              have hx' : Hid _ := hxv
              have hw' : Hid _ := hw
              clear hxv hw
              refine wpOp_step rfl (fun K' hK => ?_)
              go_simp
              exact hK _ _ (c2I.pure hs hx'.out hw'.out h19 h18 (by omega) (by omega) (fun e => by omega) (by simp [updV, c2V, x4, x6]))
            | 8, _ =>
              simp only [List.getElem?_toArray, List.getElem?_cons_succ, List.getElem?_cons_zero, Option.some.injEq] at ho
              subst ho
              have x7 : xv 7 = (c2V w2.heap.size wr.heap.size k p.length L.length li ri X Y) 7 := hxv 7 (by omega) (by omega) (hd { on := 7, ground := .data } (by simp) rfl)
              simp only [c2V] at x7
              have l19 : ls.getD 19 false = false := by
                cases h : ls.getD 19 false
                · rfl
                · have := h19 h 8 (by omega); rw [this] at hii; cases hii
              have cq : wq.cell? ⟨w2.heap.size, li, none⟩ = W1.cell? ⟨w2.heap.size, li, none⟩ := by
                refine World.cell?_of_block (a := ⟨w2.heap.size, li, none⟩) ?_
                rw [hw, l19]
                simp only [Bool.false_eq_true, if_false]
                split
                · exact neq_set W1 _ _ _ _ (by show w2.heap.size ≠ w2.heap.size + 2; omega)
                · rfl
              rw [oX] at cq
              have hx' : Hid _ := hxv
              have hw' : Hid _ := hw
              clear hxv hw
              refine wpOp_step rfl (fun K' hK => ?_)
              go_simp
              exact hK _ _ (c2I.pure hs hx'.out hw'.out h19 h18 (by omega) (by omega) (fun e => by omega) (by simp [updV, c2V, x7]))
            | 9, _ =>
              simp only [List.getElem?_toArray, List.getElem?_cons_succ, List.getElem?_cons_zero, Option.some.injEq] at ho
              subst ho
              have l19 : ls.getD 19 false = false := by
                cases h : ls.getD 19 false
                · rfl
                · have := h19 h 9 (by omega); rw [this] at hii; cases hii
              have cq : wq.cell? ⟨w2.heap.size + 1, 0, none⟩ = W1.cell? ⟨w2.heap.size + 1, 0, none⟩ := by
                refine World.cell?_of_block (a := ⟨w2.heap.size + 1, 0, none⟩) ?_
                rw [hw, l19]
                simp only [Bool.false_eq_true, if_false]
                split
                · exact neq_set W1 _ _ _ _ (by show w2.heap.size + 1 ≠ w2.heap.size + 2; omega)
                · rfl
              rw [o1] at cq
              have hx' : Hid _ := hxv
              have hw' : Hid _ := hw
              clear hxv hw
              refine wpOp_step rfl (fun K' hK => ?_)
              go_simp
              exact hK _ _ (c2I.pure hs hx'.out hw'.out h19 h18 (by omega) (by omega) (fun e => by omega) (by simp [updV, c2V]))
            | 10, _ =>
              simp only [List.getElem?_toArray, List.getElem?_cons_succ, List.getElem?_cons_zero, Option.some.injEq] at ho
              subst ho
              have l19 : ls.getD 19 false = false := by
                cases h : ls.getD 19 false
                · rfl
                · have := h19 h 10 (by omega); rw [this] at hii; cases hii
              have hx' : Hid _ := hxv
              have hw' : Hid _ := hw
              clear hxv hw
              refine wpOp_step rfl (fun K' hK => ?_)
              go_simp
              exact hK _ _ (c2I.pure hs hx'.out hw'.out h19 h18 (by omega) (by omega) (fun e => by omega) (by simp [updV, c2V]))
            | 11, _ =>
              simp only [List.getElem?_toArray, List.getElem?_cons_succ, List.getElem?_cons_zero, Option.some.injEq] at ho
              subst ho
              have x10 : xv 10 = (c2V w2.heap.size wr.heap.size k p.length L.length li ri X Y) 10 := hxv 10 (by omega) (by omega) (hd { on := 10, ground := .data } (by simp) rfl)
              simp only [c2V] at x10
              have l19 : ls.getD 19 false = false := by
                cases h : ls.getD 19 false
                · rfl
                · have := h19 h 11 (by omega); rw [this] at hii; cases hii
              have cq : wq.cell? ⟨wr.heap.size, 7, none⟩ = W1.cell? ⟨wr.heap.size, 7, none⟩ := by
                refine World.cell?_of_block (a := ⟨wr.heap.size, 7, none⟩) ?_
                rw [hw, l19]
                simp only [Bool.false_eq_true, if_false]
                split
                · exact neq_set W1 _ _ _ _ (by show wr.heap.size ≠ w2.heap.size + 2; omega)
                · rfl
              rw [o7] at cq
              have hx' : Hid _ := hxv
              have hw' : Hid _ := hw
              clear hxv hw
              refine wpOp_step rfl (fun K' hK => ?_)
              go_simp
              exact hK _ _ (c2I.pure hs hx'.out hw'.out h19 h18 (by omega) (by omega) (fun e => by omega) (by simp [updV, c2V, x10]))
            | 12, _ =>
              simp only [List.getElem?_toArray, List.getElem?_cons_succ, List.getElem?_cons_zero, Option.some.injEq] at ho
              subst ho
              have x9 : xv 9 = (c2V w2.heap.size wr.heap.size k p.length L.length li ri X Y) 9 := hxv 9 (by omega) (by omega) (hd { on := 9, ground := .data } (by simp) rfl)
              simp only [c2V] at x9
              have x11 : xv 11 = (c2V w2.heap.size wr.heap.size k p.length L.length li ri X Y) 11 := hxv 11 (by omega) (by omega) (hd { on := 11, ground := .data } (by simp) rfl)
              simp only [c2V] at x11
              have l19 : ls.getD 19 false = false := by
                cases h : ls.getD 19 false
                · rfl
                · have := h19 h 12 (by omega); rw [this] at hii; cases hii
              have hx' : Hid _ := hxv
              have hw' : Hid _ := hw
              clear hxv hw
              refine wpOp_step rfl (fun K' hK => ?_)
              go_simp
              exact hK _ _ (c2I.pure hs hx'.out hw'.out h19 h18 (by omega) (by omega) (fun e => by omega) (by simp [updV, c2V, x9, x11]))
            | 13, _ =>
              simp only [List.getElem?_toArray, List.getElem?_cons_succ, List.getElem?_cons_zero, Option.some.injEq] at ho
              subst ho
              have x12 : xv 12 = (c2V w2.heap.size wr.heap.size k p.length L.length li ri X Y) 12 := hxv 12 (by omega) (by omega) (hd { on := 12, ground := .data } (by simp) rfl)
              simp only [c2V] at x12
              have l19 : ls.getD 19 false = false := by
                cases h : ls.getD 19 false
                · rfl
                · have := h19 h 13 (by omega); rw [this] at hii; cases hii
              have cq : wq.cell? ⟨w2.heap.size, ri, none⟩ = W1.cell? ⟨w2.heap.size, ri, none⟩ := by
                refine World.cell?_of_block (a := ⟨w2.heap.size, ri, none⟩) ?_
                rw [hw, l19]
                simp only [Bool.false_eq_true, if_false]
                split
                · exact neq_set W1 _ _ _ _ (by show w2.heap.size ≠ w2.heap.size + 2; omega)
                · rfl
              rw [oY] at cq
              have hx' : Hid _ := hxv
              have hw' : Hid _ := hw
              clear hxv hw
              refine wpOp_step rfl (fun K' hK => ?_)
              go_simp
              exact hK _ _ (c2I.pure hs hx'.out hw'.out h19 h18 (by omega) (by omega) (fun e => by omega) (by simp [updV, c2V, x12]))
            | 14, _ =>
              simp only [List.getElem?_toArray, List.getElem?_cons_succ, List.getElem?_cons_zero, Option.some.injEq] at ho
              subst ho
              have x0 : xv 0 = (c2V w2.heap.size wr.heap.size k p.length L.length li ri X Y) 0 := hxv 0 (by omega) (by omega) (hd { on := 0, ground := .data } (by simp) rfl)
              simp only [c2V] at x0
              have x1 : xv 1 = (c2V w2.heap.size wr.heap.size k p.length L.length li ri X Y) 1 := hxv 1 (by omega) (by omega) (hd { on := 1, ground := .data } (by simp) rfl)
              simp only [c2V] at x1
              have l19 : ls.getD 19 false = false := by
                cases h : ls.getD 19 false
                · rfl
                · have := h19 h 14 (by omega); rw [this] at hii; cases hii
              have hx' : Hid _ := hxv
              have hw' : Hid _ := hw
              clear hxv hw
              refine wpOp_step rfl (fun K' hK => ?_)
              go_simp
              exact hK _ _ (c2I.pure hs hx'.out hw'.out h19 h18 (by omega) (by omega) (fun e => by omega) (by simp [updV, c2V, x0, x1]))
            | 15, _ =>
              simp only [List.getElem?_toArray, List.getElem?_cons_succ, List.getElem?_cons_zero, Option.some.injEq] at ho
              subst ho
              have x14 : xv 14 = (c2V w2.heap.size wr.heap.size k p.length L.length li ri X Y) 14 := hxv 14 (by omega) (by omega) (hd { on := 14, ground := .data } (by simp) rfl)
              simp only [c2V] at x14
              have l19 : ls.getD 19 false = false := by
                cases h : ls.getD 19 false
                · rfl
                · have := h19 h 15 (by omega); rw [this] at hii; cases hii
              have hx' : Hid _ := hxv
              have hw' : Hid _ := hw
              clear hxv hw
              refine wpOp_step rfl (fun K' hK => ?_)
              go_simp
              exact hK _ _ (c2I.pure hs hx'.out hw'.out h19 h18 (by omega) (by omega) (fun e => by omega) (by simp [updV, c2V, x14]))
            | 16, _ =>
              simp only [List.getElem?_toArray, List.getElem?_cons_succ, List.getElem?_cons_zero, Option.some.injEq] at ho
              subst ho
              have l19 : ls.getD 19 false = false := by
                cases h : ls.getD 19 false
                · rfl
                · have := h19 h 16 (by omega); rw [this] at hii; cases hii
              rw [l19, hii] at hw
              simp only [Bool.false_eq_true, if_false] at hw
              subst hw
              have x15 : xv 15 = .pointer (some ⟨w2.heap.size + 2, k * 8 + 6, none⟩) := hxv 15 (by omega) (by omega) (hd { on := 15, ground := .data } (by simp) rfl)
              have x8 : xv 8 = .int .i64 (X : Nat) := hxv 8 (by omega) (by omega) (hd { on := 8, ground := .data } (by simp) rfl)
              obtain ⟨⟨vv, cv⟩, fv⟩ := rq.ok (k := k) (i := 6) (by omega) (by omega)
              have hx' : Hid _ := hxv
              clear hxv
              refine wpOp_step rfl (fun K' hK => ?_)
              go_simp
              exact hK _ _ (c2I.st16 hs hx'.out l19 h18 (by simp [x15, x8]))
            | 17, _ =>
              simp only [List.getElem?_toArray, List.getElem?_cons_succ, List.getElem?_cons_zero, Option.some.injEq] at ho
              subst ho
              have x2 : xv 2 = (c2V w2.heap.size wr.heap.size k p.length L.length li ri X Y) 2 := hxv 2 (by omega) (by omega) (hd { on := 2, ground := .data } (by simp) rfl)
              simp only [c2V] at x2
              have x3 : xv 3 = (c2V w2.heap.size wr.heap.size k p.length L.length li ri X Y) 3 := hxv 3 (by omega) (by omega) (hd { on := 3, ground := .data } (by simp) rfl)
              simp only [c2V] at x3
              have l19 : ls.getD 19 false = false := by
                cases h : ls.getD 19 false
                · rfl
                · have := h19 h 17 (by omega); rw [this] at hii; cases hii
              have hx' : Hid _ := hxv
              have hw' : Hid _ := hw
              clear hxv hw
              refine wpOp_step rfl (fun K' hK => ?_)
              go_simp
              exact hK _ _ (c2I.pure hs hx'.out hw'.out h19 h18 (by omega) (by omega) (fun e => by omega) (by simp [updV, c2V, x2, x3]))
            | 18, _ =>
              simp only [List.getElem?_toArray, List.getElem?_cons_succ, List.getElem?_cons_zero, Option.some.injEq] at ho
              subst ho
              have x17 : xv 17 = (c2V w2.heap.size wr.heap.size k p.length L.length li ri X Y) 17 := hxv 17 (by omega) (by omega) (hd { on := 17, ground := .data } (by simp) rfl)
              simp only [c2V] at x17
              have l19 : ls.getD 19 false = false := by
                cases h : ls.getD 19 false
                · rfl
                · have := h19 h 18 (by omega); rw [this] at hii; cases hii
              have hx' : Hid _ := hxv
              have hw' : Hid _ := hw
              clear hxv hw
              refine wpOp_step rfl (fun K' hK => ?_)
              go_simp
              exact hK _ _ (c2I.pure hs hx'.out hw'.out h19 h18 (by omega) (by omega) (fun _ => hd { on := 17, ground := .data } (by simp) rfl) (by simp [updV, c2V, x17]))
            | 19, _ =>
              simp only [List.getElem?_toArray, List.getElem?_cons_succ, List.getElem?_cons_zero, Option.some.injEq] at ho
              subst ho
              have hall : ∀ j, j < 19 → ls.getD j false = true := by
                intro j hj
                match j, hj with
                | 0, _ => exact hd { on := 0, ground := .phase } (by simp) rfl
                | 1, _ => exact hd { on := 1, ground := .phase } (by simp) rfl
                | 2, _ => exact hd { on := 2, ground := .phase } (by simp) rfl
                | 3, _ => exact hd { on := 3, ground := .phase } (by simp) rfl
                | 4, _ => exact hd { on := 4, ground := .phase } (by simp) rfl
                | 5, _ => exact hd { on := 5, ground := .phase } (by simp) rfl
                | 6, _ => exact hd { on := 6, ground := .phase } (by simp) rfl
                | 7, _ => exact hd { on := 7, ground := .phase } (by simp) rfl
                | 8, _ => exact hd { on := 8, ground := .phase } (by simp) rfl
                | 9, _ => exact hd { on := 9, ground := .phase } (by simp) rfl
                | 10, _ => exact hd { on := 10, ground := .phase } (by simp) rfl
                | 11, _ => exact hd { on := 11, ground := .phase } (by simp) rfl
                | 12, _ => exact hd { on := 12, ground := .phase } (by simp) rfl
                | 13, _ => exact hd { on := 13, ground := .data } (by simp) rfl
                | 14, _ => exact hd { on := 14, ground := .phase } (by simp) rfl
                | 15, _ => exact hd { on := 15, ground := .phase } (by simp) rfl
                | 16, _ => exact hd { on := 16, ground := .phase } (by simp) rfl
                | 17, _ => exact h18 (hd { on := 18, ground := .data } (by simp) rfl)
                | 18, _ => exact hd { on := 18, ground := .data } (by simp) rfl
                | n + 19, hn => exact absurd hn (by omega)
              rw [hii, hall 16 (by omega)] at hw
              simp only [Bool.false_eq_true, if_false, if_true] at hw
              subst hw
              have x18 : xv 18 = .pointer (some ⟨w2.heap.size + 2, k * 8 + 7, none⟩) := hxv 18 (by omega) (by omega) (hall 18 (by omega))
              have x13 : xv 13 = .int .i64 (Y : Nat) := hxv 13 (by omega) (by omega) (hall 13 (by omega))
              obtain ⟨cur, y1, y2, y3⟩ := rq
              have y1' := heap_setCell_same W1 (w2.heap.size + 2) (k * 8 + 6) _ 40 (.int .i64 (X : Nat)) y1
              have fv := frozen_of_row _ _ (k * 8 + 7) _ 40 y1'
              obtain ⟨vv, cv⟩ : ∃ v, (W1.setCell ⟨w2.heap.size + 2, k * 8 + 6, none⟩ (.int .i64 (X : Nat))).cell? ⟨w2.heap.size + 2, k * 8 + 7, none⟩ = some v := by
                rw [cell_of_row _ _ (k * 8 + 7) _ 40 (0, 0) y1']
                exact ⟨_, Array.getElem?_eq_getElem (by simp [y2]; omega)⟩
              have hx' : Hid _ := hxv
              have ha' : Hid _ := hall
              clear hxv hall y1 y1'
              refine wpOp_step rfl (fun K' hK => ?_)
              go_simp
              exact hK _ _ (c2I.st19 hs hx'.out ha'.out (by simp [x18, x13]))
            | n + 20, hn => exact absurd hn (by show ¬ n + 20 < 20; omega)
          · rintro ls Ac wq ⟨hs, ⟨xv, rfl, hxv⟩, hw, h19, h18⟩ hr
            have g0 : ls.getD 0 false = true := ready_nil hr (i := 0) rfl hs (by intro e he hb; simp at he)
            have g1 : ls.getD 1 false = true := ready_nil hr (i := 1) rfl hs (by intro e he hb; simp at he)
            have g2 : ls.getD 2 false = true := ready_nil hr (i := 2) rfl hs (by intro e he hb; simp at he)
            have g4 : ls.getD 4 false = true := ready_nil hr (i := 4) rfl hs (by intro e he hb; simp at he)
            have g5 : ls.getD 5 false = true := ready_nil hr (i := 5) rfl hs (by intro e he hb; simp at he)
            have g6 : ls.getD 6 false = true := ready_nil hr (i := 6) rfl hs (by intro e he hb; simp at he; subst he; first | assumption | (exfalso; revert hb; decide))
            have g7 : ls.getD 7 false = true := ready_nil hr (i := 7) rfl hs (by intro e he hb; simp at he; rcases he with rfl | rfl <;> first | assumption | (exfalso; revert hb; decide))
            have g8 : ls.getD 8 false = true := ready_nil hr (i := 8) rfl hs (by intro e he hb; simp at he; subst he; first | assumption | (exfalso; revert hb; decide))
            have g9 : ls.getD 9 false = true := ready_nil hr (i := 9) rfl hs (by intro e he hb; simp at he)
            have g10 : ls.getD 10 false = true := ready_nil hr (i := 10) rfl hs (by intro e he hb; simp at he)
            have g11 : ls.getD 11 false = true := ready_nil hr (i := 11) rfl hs (by intro e he hb; simp at he; subst he; first | assumption | (exfalso; revert hb; decide))
            have g12 : ls.getD 12 false = true := ready_nil hr (i := 12) rfl hs (by intro e he hb; simp at he; rcases he with rfl | rfl <;> first | assumption | (exfalso; revert hb; decide))
            have g13 : ls.getD 13 false = true := ready_nil hr (i := 13) rfl hs (by intro e he hb; simp at he; subst he; first | assumption | (exfalso; revert hb; decide))
            have g14 : ls.getD 14 false = true := ready_nil hr (i := 14) rfl hs (by intro e he hb; simp at he; rcases he with rfl | rfl | rfl | rfl | rfl | rfl | rfl | rfl | rfl | rfl | rfl | rfl | rfl | rfl | rfl | rfl <;> first | assumption | (exfalso; revert hb; decide))
            have g15 : ls.getD 15 false = true := ready_nil hr (i := 15) rfl hs (by intro e he hb; simp at he; rcases he with rfl | rfl | rfl | rfl | rfl | rfl | rfl | rfl | rfl | rfl | rfl | rfl | rfl | rfl | rfl <;> first | assumption | (exfalso; revert hb; decide))
            have g16 : ls.getD 16 false = true := ready_nil hr (i := 16) rfl hs (by intro e he hb; simp at he; rcases he with rfl | rfl | rfl | rfl | rfl | rfl | rfl | rfl | rfl | rfl | rfl | rfl | rfl | rfl | rfl | rfl <;> first | assumption | (exfalso; revert hb; decide))
            have g3 : ls.getD 3 false = true := ready_nil hr (i := 3) rfl hs (by intro e he hb; simp at he; subst he; first | assumption | (exfalso; revert hb; decide))
            have g17 : ls.getD 17 false = true := ready_nil hr (i := 17) rfl hs (by intro e he hb; simp at he; rcases he with rfl | rfl | rfl | rfl | rfl | rfl | rfl | rfl | rfl | rfl | rfl | rfl | rfl | rfl | rfl | rfl | rfl | rfl | rfl <;> first | assumption | (exfalso; revert hb; decide))
            have g18 : ls.getD 18 false = true := ready_nil hr (i := 18) rfl hs (by intro e he hb; simp at he; rcases he with rfl | rfl | rfl | rfl | rfl | rfl | rfl | rfl | rfl | rfl | rfl | rfl | rfl | rfl | rfl | rfl | rfl | rfl <;> first | assumption | (exfalso; revert hb; decide))
            have g19 : ls.getD 19 false = true := ready_nil hr (i := 19) rfl hs (by intro e he hb; simp at he; rcases he with rfl | rfl | rfl | rfl | rfl | rfl | rfl | rfl | rfl | rfl | rfl | rfl | rfl | rfl | rfl | rfl | rfl | rfl | rfl | rfl <;> first | assumption | (exfalso; revert hb; decide))
            rw [g19] at hw
            exact ⟨rfl, ⟨xv, rfl⟩, by simpa using hw⟩
        · rintro e a' w' ⟨rfl, ⟨xv, rfl⟩, rfl⟩
          have kr2 := rq.set2 (k := k) (N := N) (va := va) (cc := cc) (by rw [rnF_len, n1]; exact hkl) (by rw [rnF_len, n1]; exact hpl) (by rw [rnF_at (by rw [n1]; exact hkl)]; exact hr) (X : Nat) (Y : Nat)
          have hrn2 : (rnF (anF L.length p) K k).set k ({ N with lf := ((X : Nat) : Int), rt := ((Y : Nat) : Int) }, va, cc) = rnF (anF L.length p) K (k + 1) := by
            rw [rnF_succ (by rw [n1]; exact hkl), hr]
            unfold rnK rnN
            simp only [hli.out, hri.out, Int.toNat_natCast, hX, hY]
          rw [hrn2] at kr2
          have kg : ∀ g, g < wr.heap.size → g ≠ w2.heap.size + 2 → ((W1.setCell ⟨w2.heap.size + 2, k * 8 + 6, none⟩ (.int .i64 (X : Nat))).setCell ⟨w2.heap.size + 2, k * 8 + 7, none⟩ (.int .i64 (Y : Nat))).heap[g]? = wr.heap[g]? := fun g h1 h2 => by
            rw [neq_set _ _ _ _ g h2, neq_set _ _ _ _ g h2]; exact kq g h1
          have hC2 : C2 L.length p.length w2.heap.size (anF L.length p) K W (k + 1) ((W1.setCell ⟨w2.heap.size + 2, k * 8 + 6, none⟩ (.int .i64 (X : Nat))).setCell ⟨w2.heap.size + 2, k * 8 + 7, none⟩ (.int .i64 (Y : Nat))) := by
            refine ⟨?_, (kg _ (by omega) (by omega)).trans hI.bx, (kg _ (by omega) (by omega)).trans hI.bl, kr2, fun g h1 h2 => (kg g (by have := hI.sz; omega) h2).trans (hI.oth g h1 h2), ?_, ?_, ?_, ?_⟩
            · unfold RowI; rw [kg _ (by omega) (by omega)]; exact hI.row
            · show W1.os = _; rw [← hW1]; exact hI.os
            · show W1.tape = _; rw [← hW1]; exact hI.tape
            · show W1.output = _; rw [← hW1]; exact hI.output
            · have := hI.sz; simp [szq]; omega
          generalize (W1.setCell ⟨w2.heap.size + 2, k * 8 + 6, none⟩ (.int .i64 (X : Nat))).setCell ⟨w2.heap.size + 2, k * 8 + 7, none⟩ (.int .i64 (Y : Nat)) = W4 at hC2 ⊢
          clear kg kr2 o1 o3 o6 o7 oX oY kq bq rq rowq hW1
          dsimp only
          go_simp
          go_wp2_with fail
          exact ⟨⟨k + 1, by omega, by go_num, hC2⟩, by simp [intOf]; omega⟩
      · have hkc : ¬ (k : Int) < (p.length : Int) := by omega
        obtain rfl : k = p.length := by omega
        have hsz := hC.sz
        have hlow : ∀ g, g < w2.heap.size → wr.heap[g]? = w2.heap[g]? := fun g hg => (hI.oth g (by omega) (by omega)).trans ((hC.be.block g hg).trans (D3.be.block g hg))
        have o3 : wr.cell? ⟨w2.heap.size + 3, 0, none⟩ = some (.slice (some ⟨w2.heap.size + 2, 0, none⟩) p.length L.length) := by rw [cell_of_row wr _ 0 _ 22 (0, 0) hI.bl]; rfl
        have m0 := (hlow _ (by omega)).trans q0.out
        have m1 := (hlow _ (by omega)).trans q1.out
        have c0 := cell_of_row wr _ 0 _ 24 (0, 0) m0
        have e0 := cell_of_row wr _ 0 _ 24 (0, 0) m1
        have e1 := cell_of_row wr _ 1 _ 24 (0, 0) m1
        have f0 := frozen_of_row wr _ 0 _ 24 m1
        have f1 := frozen_of_row wr _ 1 _ 24 m1
        simp at c0 e0 e1
        replace m1 : Hid _ := m1
        replace m0 : Hid _ := m0
        go_wp2_with fail
        gi_wp2_with fail
        obtain ⟨Wf, hWf⟩ : ∃ Wf, (wr.setCell ⟨w.heap.size + 1, 0, none⟩ (.int .i64 out)).setCell ⟨w.heap.size + 1, 1, none⟩ (.slice (some ⟨w2.heap.size + 2, 0, none⟩) p.length L.length) = Wf := ⟨_, rfl⟩
        have F2 : Wf.heap[w.heap.size + 1]? = some (.cells #[.int .i64 out, .slice (some ⟨w2.heap.size + 2, 0, none⟩) p.length L.length] 24 (0, 0)) := by
          have a1 := heap_setCell_same wr (w.heap.size + 1) 0 _ 24 (.int .i64 out) m1.out
          have a2 := heap_setCell_same _ (w.heap.size + 1) 1 _ 24 (.slice (some ⟨w2.heap.size + 2, 0, none⟩) p.length L.length) a1
          rw [← hWf]; simpa using a2
        have F1 : ∀ g, g ≠ w.heap.size + 1 → Wf.heap[g]? = wr.heap[g]? := fun g hg => by rw [← hWf, neq_set _ _ _ _ g hg, neq_set _ _ _ _ g hg]
        have Fs : Wf.os = wr.os ∧ Wf.tape = wr.tape ∧ Wf.output = wr.output ∧ Wf.heap.size = wr.heap.size := by rw [← hWf]; exact ⟨rfl, rfl, rfl, by simp⟩
        rw [hWf]
        clear hWf
        have hDl : w2.heap.size + 5 < W.heap.size := (Array.getElem?_eq_some_iff.1 hD).1
        have hDf : Wf.heap[w2.heap.size + 5]? = some (.deferred (some [])) := (F1 _ (by omega)).trans ((hI.oth _ hDl (by omega)).trans hD)
        refine ⟨by simp, .inl ⟨_, _, rfl, run_takeDeferred hDf, ?_⟩⟩
        have G1 : ∀ g o', g ≠ w2.heap.size + 5 → (Wf.putObj (w2.heap.size + 5) o').heap[g]? = Wf.heap[g]? := fun g o' hg => World.putObj_heap_other hg
        refine ⟨_, results_cell_tmp rfl _ _ (w.heap.size + 1) 24 _ (0, 0) _ rfl ((G1 _ _ (by omega)).trans F2) Try.underlying24 rfl (by kernel_rfl), some ⟨w2.heap.size + 2, 0, none⟩, L.length, ?_, ?_, ?_, ?_, ?_⟩
        · have : (cnoL L).length = p.length := by unfold cnoL; rw [List.length_map, hp]
          rw [this]; rfl
        · have : (cnoL L).length = p.length := by unfold cnoL; rw [List.length_map, hp]
          rw [this]; exact hpl
        · have hkr := hI.kr
          rw [← n1, rnF_all] at hkr
          have ecn : cnoL L = (K.map (rnK (anF L.length p))).map (fun r => r.1) := by
            unfold cnoL
            rw [hp, List.map_map]
            apply List.ext_getElem
            · simp [n1]
            · intro j h1 h2
              have hj : j < p.length := by simpa using h1
              have := (n2 j hj).1
              simp only [List.getD, hj, List.getElem?_eq_getElem, Option.getD_some, show j < K.length by omega] at this
              simp only [List.getElem_map, Function.comp, rnK]
              rw [this]
              rfl
          rw [ecn]
          refine RowK.rdN (hkr.same ((G1 _ _ (by omega)).trans (F1 _ (by omega)))) ?_
          intro j hj
          have hj : j < p.length := by simpa [n1] using hj
          have eK : (K.map (rnK (anF L.length p))).getD j nt0 = rnK (anF L.length p) (K.getD j nt0) := by simp [List.getD, n1, hj]
          rw [eK]
          obtain ⟨e1, e2⟩ := n2 j hj
          have hpj : p.getD j 0 < L.length := ord_lt hR.wi _ (by rw [hp]; simp [List.getD, hj])
          obtain ⟨b9, o9, ca9, cp9, e9, hnd⟩ := hrd _ hpj
          have hOz := (n4 j hj).same (w' := Wf.putObj (w2.heap.size + 5) (.deferred none)) (fun g hg => by
            obtain ⟨h1, c, h2⟩ := (n4 j hj).block hg
            rw [G1 g _ (by omega), F1 g (by omega)]
            exact hI.oth g (Array.getElem?_eq_some_iff.1 h2).1 (by omega))
          obtain ⟨a', c', es, hc', hri⟩ := hOz.shape
          simp only [Value.slice.injEq] at es
          obtain ⟨rfl, -, rfl⟩ := es
          have hle := anF_le L.length p
          refine ⟨hri, e2, ?_, ?_⟩
          · show (K.getD j nt0).1.cs.length ≤ _
            rw [e1]; exact hnd.sz
          · have hf := hnd.ok
            rw [← e1] at hf
            refine ⟨hf.kd, hf.vl, hf.ft, hf.th, hf.cs, hf.ms, ?_, ?_⟩
            · show -9223372036854775808 ≤ (((anF L.length p).getD (K.getD j nt0).1.lf.toNat 0 : Nat) : Int) ∧ (((anF L.length p).getD (K.getD j nt0).1.lf.toNat 0 : Nat) : Int) ≤ 9223372036854775807
              have := hle (K.getD j nt0).1.lf.toNat
              omega
            · show -9223372036854775808 ≤ (((anF L.length p).getD (K.getD j nt0).1.rt.toNat 0 : Nat) : Int) ∧ (((anF L.length p).getD (K.getD j nt0).1.rt.toNat 0 : Nat) : Int) ≤ 9223372036854775807
              have := hle (K.getD j nt0).1.rt.toNat
              omega
        · refine ⟨?_, ?_, ?_, ?_, fun g hg => ?_⟩
          · exact Fs.1.trans (hI.os.trans (hC.be.os.trans (D3.be.os.trans k02.os)))
          · exact Fs.2.1.trans (hI.tape.trans (hC.be.tape.trans (D3.be.tape.trans k02.tape)))
          · exact Fs.2.2.1.trans (hI.output.trans (hC.be.output.trans (D3.be.output.trans k02.output)))
          · have := Fs.2.2.2; have := hI.sz; simp; omega
          · rw [G1 g _ (by omega), F1 g (by omega), hlow g (by omega)]
            exact k02.block g hg
        · have hkr := hI.kr
          rw [← n1, rnF_all] at hkr
          have ecn : cnoL L = (K.map (rnK (anF L.length p))).map (fun r => r.1) := by
            unfold cnoL
            rw [hp, List.map_map]
            apply List.ext_getElem
            · simp [n1]
            · intro j h1 h2
              have hj : j < p.length := by simpa using h1
              have := (n2 j hj).1
              simp only [List.getD, hj, List.getElem?_eq_getElem, Option.getD_some, show j < K.length by omega] at this
              simp only [List.getElem_map, Function.comp, rnK]
              rw [this]
              rfl
          have hcl : (cnoL L).length = p.length := by rw [ecn]; simp [n1]
          obtain ⟨cur', y1, y2, y3⟩ := hkr.same ((G1 _ (.deferred none) (show w2.heap.size + 2 ≠ w2.heap.size + 5 by omega)).trans (F1 _ (by omega)))
          have hsw : Wf.heap.size = wr.heap.size := Fs.2.2.2
          have hsz' := hI.sz
          have hKl : (K.map (rnK (anF L.length p))).length = p.length := by simp [n1]
          refine ⟨K.map (rnK (anF L.length p)), by rw [hKl, hcl], ?_, ⟨by rw [UN_length], .inr ⟨w2.heap.size + 2, L.length, cur', by rw [hcl, hKl], Nat.zero_le _, y1, by rw [hKl]; exact hpl, by simp only [maxLen]; omega, y2, y3⟩⟩, ?_, ?_, ?_⟩
          · intro j hj
            rw [hcl] at hj
            rw [ecn]
            simp [List.getD, n1, hj]
          · intro j hj
            rw [hcl] at hj
            have eK : (K.map (rnK (anF L.length p))).getD j nt0 = rnK (anF L.length p) (K.getD j nt0) := by simp [List.getD, n1, hj]
            rw [eK]
            have hOz := (n4 j hj).same (w' := Wf.putObj (w2.heap.size + 5) (.deferred none)) (fun g hg => by
              obtain ⟨h1, c, h2⟩ := (n4 j hj).block hg
              rw [G1 g _ (by omega), F1 g (by omega)]
              exact hI.oth g (Array.getElem?_eq_some_iff.1 h2).1 (by omega))
            exact hOz.mono (Nat.zero_le _)
          · intro b hb
            have hb : some (w2.heap.size + 2) = some b := hb
            simp only [Option.some.injEq] at hb
            subst hb
            exact ⟨by omega, by simp; omega⟩
          · intro j hj b hb
            rw [hcl] at hj
            have eK : (K.map (rnK (anF L.length p))).getD j nt0 = rnK (anF L.length p) (K.getD j nt0) := by simp [List.getD, n1, hj]
            rw [eK] at hb
            obtain ⟨h1, c, h2⟩ := (n4 j hj).block hb
            have h3 := (Array.getElem?_eq_some_iff.1 h2).1
            exact ⟨by omega, by simp; omega⟩
end Go.Proofs.Ytbchinfmdioijaa
set_option linter.unusedVariables false
set_option linter.unusedSimpArgs false
namespace Go.Proofs.Ytbchinfmdioijaa
open Go.RowKit Go.Shelf
attribute [local go_sem] Oper.semAt_some
attribute [local go_sem] run_store_float
set_option maxRecDepth 100000 in
set_option maxHeartbeats 2000000 in
theorem Canon_err (n : Nat) (hn : 3 ≤ n) (a : Option Addr) (cap : Nat) (out : Int) (L : List Nd) (hLn : L.length ≤ 2199023255552) (hE : shE L ≠ 0) (w : World) (hrd : RdN w a L) :
    CallsIn Fence.wide n Try.prog 37 #[.agg #[.int .i64 out, .slice a L.length cap]] w fun e w' => e = .returned (.tuple #[.agg #[.int .i64 0, .slice none 0 0], .int .i64 (shE L)]) ∧ Keep w w' := by
  have h1 : 1 ≤ n := by omega
  have hS := fun (wx : World) (k : Keep w wx) => Shape_in (n - 1) wx a cap out L hLn (hrd.keep k)
  refine callsIn_of_wp_marks Try.func37 rfl trivial ?_ rfl
  simp only [Try.ntmps37, List.size_toArray, List.length_cons, List.length_nil, Nat.reduceAdd, Nat.reduceSub, Array.replicate_succ, Array.replicate_zero, List.push_toArray, List.append_toArray, List.nil_append, List.cons_append]
  obtain ⟨w1, hw1, k1, s1, r0, r1⟩ := boxes2n w #[Value.int .i64 out, Value.slice a L.length cap] #[Value.int .i64 0, Value.slice none 0 0] 24 24
  have hS1 := hS _ k1
  have hB : (shE L == 0) = false := by simpa using hE
  have hB2 : (shE L != 0) = true := by simpa using hE
  clear hE
  generalize shE L = E at hB hB2 hS1 ⊢
  replace hw1 : Hid _ := hw1
  gi_wp2_with fail
  rw [hw1.out]
  refine ⟨trivial, ?_⟩
  refine hS1.mono ?_
  rintro e w2 ⟨rfl, k2⟩
  have hz1 : w.heap.size + 1 < w1.heap.size := (Array.getElem?_eq_some_iff.1 r1).1
  have q1 := (k2.block _ hz1).trans r1
  have e0 := cell_of_row w2 _ 0 _ 24 (0, 0) q1
  have e1 := cell_of_row w2 _ 1 _ 24 (0, 0) q1
  have f0 := frozen_of_row w2 _ 0 _ 24 q1
  have f1 := frozen_of_row w2 _ 1 _ 24 q1
  simp at e0 e1
  replace q1 : Hid _ := q1
  gi_wp2_with fail
  have F2 : ((w2.setCell ⟨w.heap.size + 1, 0, none⟩ (.int .i64 0)).setCell ⟨w.heap.size + 1, 1, none⟩ (.slice none 0 0)).heap[w.heap.size + 1]? = some (.cells #[.int .i64 0, .slice none 0 0] 24 (0, 0)) := by
    have a1 := heap_setCell_same _ (w.heap.size + 1) 0 _ 24 (.int .i64 0) q1.out
    have a2 := heap_setCell_same _ (w.heap.size + 1) 1 _ 24 (.slice none 0 0) a1
    simpa using a2
  refine ⟨_, results_cell_tmp rfl _ _ (w.heap.size + 1) 24 _ (0, 0) _ rfl F2 Try.underlying24 rfl (by kernel_rfl), rfl, ?_⟩
  exact ((k1.trans k2).setCell (p := ⟨w.heap.size + 1, 0, none⟩) (by show w.heap.size ≤ w.heap.size + 1; omega) _).setCell (p := ⟨w.heap.size + 1, 1, none⟩) (by show w.heap.size ≤ w.heap.size + 1; omega) _
/-- What Canon answers. -/
def cnoO (L : List Nd) (out : Int) : Int := if shE L = 0 then out else 0
def cnoN (L : List Nd) : List Nd := if shE L = 0 then cnoL L else []
theorem cnoN_len (L : List Nd) (hLn : L.length ≤ 2199023255552) : (cnoN L).length ≤ 2199023255552 := by
  unfold cnoN
  split
  · rename_i h
    unfold cnoL
    have := ord_len (shE_rgt h).wi
    rw [List.length_map]
    omega
  · simp
theorem Canon_any (a : Option Addr) (cap : Nat) (out : Int) (L : List Nd) (hLn : L.length ≤ 2199023255552) (w : World) (hrd : RdN w a L) :
    Calls Try.prog 37 #[.agg #[.int .i64 out, .slice a L.length cap]] w fun e w' => ∃ a' c', e = .returned (.tuple #[.agg #[.int .i64 (cnoO L out), .slice a' (cnoN L).length c'], .int .i64 (shE L)]) ∧ (cnoN L).length ≤ c' ∧ RdN w' a' (cnoN L) ∧ Keep w w' ∧ CT w' (fun b => w.heap.size ≤ b ∧ b < w'.heap.size) a' c' (cnoN L) := by
  by_cases hE : shE L = 0
  · have e1 : cnoO L out = out := by unfold cnoO; rw [if_pos hE]
    have e2 : cnoN L = cnoL L := by unfold cnoN; rw [if_pos hE]
    rw [e1, e2, hE]
    exact (callsIn_wide (n := 3)).1 (Canon_in 3 (by omega) a cap out L hLn hE w hrd)
  · have e1 : cnoO L out = 0 := by unfold cnoO; rw [if_neg hE]
    have e2 : cnoN L = [] := by unfold cnoN; rw [if_neg hE]
    rw [e1, e2]
    refine ((callsIn_wide (n := 3)).1 (Canon_err 3 (by omega) a cap out L hLn hE w hrd)).mono ?_
    rintro e w' ⟨rfl, k⟩
    exact ⟨none, 0, rfl, by simp, fun j hj => by simp at hj, k, [], rfl, fun j hj => by simp at hj, OwnN.nil _ _, fun j hj => by simp at hj, fun b hb => (by cases hb), fun j hj => by simp at hj⟩
end Go.Proofs.Ytbchinfmdioijaa
