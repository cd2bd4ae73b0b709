import Derived.Test.YtbchinfmdioijaaS13
import Derived.Test.YtbchinfmdioijaaU5
import Derived.Test.YtbchinfmdioijaaRJ
set_option linter.unusedVariables false
set_option linter.unusedSimpArgs false
namespace Go.Proofs.Ytbchinfmdioijaa
open Go.RowKit Go.Shelf
attribute [local go_sem] Oper.semAt_some
attribute [local go_sem] run_store_float
/-- Where each stands among the first ones. -/
def anF (n : Nat) (p : List Nat) : List Nat := p.zipIdx.foldl (fun a y => a.set y.1 y.2) (List.replicate n 0)
theorem anF_snoc (n : Nat) (p : List Nat) (x : Nat) : anF n (p ++ [x]) = (anF n p).set x p.length := by
  unfold anF
  rw [List.zipIdx_append, List.foldl_append]
  simp
theorem anF_len (n : Nat) (p : List Nat) : (anF n p).length = n := by
  have h : ∀ (l : List (Nat × Nat)) (a : List Nat), (l.foldl (fun a y => a.set y.1 y.2) a).length = a.length := by
    intro l
    induction l with
    | nil => intro a; rfl
    | cons y l ih => intro a; rw [List.foldl_cons, ih, List.length_set]
  unfold anF
  rw [h, List.length_replicate]
/-- make([]Node, 0, n). -/
theorem wpListIn_makeN {F : Fence} {m : Nat} (w : World) {ops : Array Oper} {rest : List Oper} {o : Oper} {a : Act} {Q : Exit → Act → World → Prop} (hg : o.guard = none) (l c : Operand) (hop : o.op = Op.makeSlice 22 l c) (kl kc : IntKind) (X C : Int) (n : Nat) (hl : a.eval l = .int kl X) (hc : a.eval c = .int kc C) (hL : X = 0) (hC : C = (n : Int)) (hn : n ≤ 2199023255552)
    (hK : ∀ cur : Array Value, cur.size = n * 8 → wpListIn F m Try.prog ops Q rest (a.put o.dst (.slice (some ⟨w.heap.size, 0, none⟩) 0 n)) (w.alloc (.cells cur 40))) :
    wpListIn F m Try.prog ops Q (o :: rest) a w := by
  refine wpListIn_plain hg fun K hK' => ?_
  obtain ⟨i, hi, hz0, hz1, hz2⟩ := info_parts i40
  have hr := run_make (P := Try.prog) w 22 40 i _ Try.underlying22 hi hz0 kl kc 0 n (by omega) (by omega) (by rw [hz2]; omega) (by omega)
  subst hL
  subst hC
  rw [hz1] at hr
  simp only [Int.toNat_natCast, Int.toNat_zero] at hr
  unfold Oper.wpIn
  refine ⟨?_, ?_⟩
  · simp [Oper.about, hop]
  · rw [Oper.semAt_plain F _ _ (by rw [hop]; intro c hc'; cases hc')]
    simp only [execOp, hop, hl, hc, hr, Result.andThen, Sem.run_bind, Sem.run_pure, Result.andThen_ok]
    exact hK' _ _ (hK _ (by simp [madeCells]))
/-- A row of nodes, as far as it is filled. -/
def RowK (w : World) (g n : Nat) (K : List (Nd × Option Addr × Nat)) : Prop := ∃ cur : Array Value, w.heap[g]? = some (.cells cur 40 (0, 0)) ∧ cur.size = n * 8 ∧ cur.toList.take (K.length * 8) = UN K
theorem RowK.same {w w' : World} {g n : Nat} {K : List (Nd × Option Addr × Nat)} (h : RowK w g n K) (e : w'.heap[g]? = w.heap[g]?) : RowK w' g n K := by
  obtain ⟨cur, h1, h2⟩ := h
  exact ⟨cur, e.trans h1, h2⟩
/-- What Canon holds between two rounds. -/
structure CnI (L : List Nd) (A : Nat) (w2 : World) (pre : List Nat) (T : Nat → Prop) (W : World) : Prop where
  row : RowI W A (anF L.length pre)
  bx : W.heap[A + 1]? = some (.cells #[.slice (some ⟨A, 0, none⟩) L.length L.length] 29 (0, 0))
  bl : W.heap[A + 3]? = some (.cells #[.slice (some ⟨A + 2, 0, none⟩) pre.length L.length] 22 (0, 0))
  kn : ∃ K : List (Nd × Option Addr × Nat), K.length = pre.length ∧ (∀ j, j < pre.length → (K.getD j nt0).1 = L.getD (pre.getD j 0) nd0 ∧ (K.getD j nt0).1.cs.length ≤ (K.getD j nt0).2.2) ∧ RowK W (A + 2) L.length K ∧
    (∀ j, j < pre.length → OwnZ 3 (A + 7) W (.slice (K.getD j nt0).2.1 (K.getD j nt0).1.cs.length (K.getD j nt0).2.2) (K.getD j nt0).1.cs) ∧
    (∀ j, j < pre.length → ∀ b, (Value.slice (K.getD j nt0).2.1 (K.getD j nt0).1.cs.length (K.getD j nt0).2.2).ownBlock = some b → ¬ T b)
  tb : ∀ g, T g → A + 4 ≤ g ∧ g < W.heap.size
  be : Below A w2 W
  sz : A + 5 ≤ W.heap.size
theorem CnI.st {L : List Nd} {A : Nat} {w2 : World} {pre : List Nat} {T : Nat → Prop} {W B : World} (h : CnI L A w2 pre T W) (hst : Stp T W B) : CnI L A w2 pre (more T W B) B := by
  obtain ⟨q1, q2, q3, ⟨K, n1, n2, n3, n4, n5⟩, q4, q5, q6⟩ := h
  have kp : ∀ g, g < A + 4 → B.heap[g]? = W.heap[g]? := fun g hg => hst.block g (by omega) (fun h => by have := q4 g h; omega)
  refine ⟨by unfold RowI; rw [kp _ (by omega)]; exact q1, by rw [kp _ (by omega)]; exact q2, by rw [kp _ (by omega)]; exact q3, ⟨K, n1, n2, n3.same (kp _ (by omega)), ?_, ?_⟩, ?_, ?_, by have := hst.size; omega⟩
  · intro j hj
    refine (n4 j hj).same (fun b hb => ?_)
    obtain ⟨-, cur, hc⟩ := (n4 j hj).block hb
    exact hst.block b (Array.getElem?_eq_some_iff.1 hc).1 (n5 j hj b hb)
  · intro j hj b hb h
    obtain ⟨-, cur, hc⟩ := (n4 j hj).block hb
    have := (Array.getElem?_eq_some_iff.1 hc).1
    rcases h with h | h
    · exact n5 j hj b hb h
    · omega
  · rintro g (h | h)
    · have := q4 g h; have := hst.size; omega
    · omega
  · exact ⟨hst.os.trans q5.os, hst.tape.trans q5.tape, hst.output.trans q5.output, by have := hst.size; have := q5.size; omega, fun g hg => (kp g (by omega)).trans (q5.block g hg)⟩
theorem CnI.put {L : List Nd} {A : Nat} {w2 : World} {pre : List Nat} {T : Nat → Prop} {W : World} {r : Nat} {o' : Obj} (h : CnI L A w2 pre T W) (h1 : A + 5 ≤ r) (h2 : r < A + 7) : CnI L A w2 pre T (W.putObj r o') := by
  obtain ⟨q1, q2, q3, ⟨K, n1, n2, n3, n4, n5⟩, q4, q5, q6⟩ := h
  have kp : ∀ g, g ≠ r → (W.putObj r o').heap[g]? = W.heap[g]? := fun g hg => World.putObj_heap_other hg
  refine ⟨by unfold RowI; rw [kp _ (by omega)]; exact q1, by rw [kp _ (by omega)]; exact q2, by rw [kp _ (by omega)]; exact q3, ⟨K, n1, n2, n3.same (kp _ (by omega)), fun j hj => (n4 j hj).same (fun b hb => kp b (by have := ((n4 j hj).block hb).1; omega)), n5⟩, fun g hg => by simpa using q4 g hg, ?_, by simpa using q6⟩
  exact ⟨q5.os, q5.tape, q5.output, by simpa using q5.size, fun g hg => (kp g (by omega)).trans (q5.block g hg)⟩
end Go.Proofs.Ytbchinfmdioijaa
set_option linter.unusedVariables false
set_option linter.unusedSimpArgs false
namespace Go.Proofs.Ytbchinfmdioijaa
open Go.RowKit Go.Shelf
attribute [local go_sem] Oper.semAt_some
attribute [local go_sem] run_store_float
/-- append(l, node) where there is room, as one step of a region inside a fence. -/
theorem stepIn_appN {F : Fence} {m : Nat} {w : World} {ops : Array Oper} {o : Oper} {a : Act} {K : Act → World → Prop} {Q : Exit → Act → World → Prop} {E : Prop} (hgd : o.guard = none) (s x : Operand)
    (ho : o.op = .call { callee := .builtin .append, args := #[s, x], argTypes := #[22, 22] }) (g k n : Nat) (K0 : List (Nd × Option Addr × Nat)) (y : Nd × Option Addr × Nat) (hr : RowK w g n K0) (hk : K0.length = k) (hroom : k + 1 ≤ n)
    (hs : a.eval s = .slice (some ⟨g, 0, none⟩) k n) (ad : Addr) (c : Nat) (hx : a.eval x = .slice (some ad) 1 c) (hnews : ∀ j u, (UN [y])[j]? = some u → w.cell? (ad.add j) = some u)
    (hK : ∀ cur' : Array Value, cur'.size = n * 8 → cur'.toList.take ((k + 1) * 8) = UN (K0 ++ [y]) → K (a.put o.dst (.slice (some ⟨g, 0, none⟩) (k + 1) n)) (w.setRow g cur')) :
    if Region.wanted o (yielded ops a.tmps) = true then Oper.wpIn F m Try.prog o a w K Q else E := by
  have hw : Region.wanted o (yielded ops a.tmps) = true := by simp [Region.wanted, hgd]
  rw [if_pos hw]
  obtain ⟨cur, h1, h2, h3⟩ := hr
  obtain ⟨i0, hi, hz0, hz1, hz2⟩ := info_parts i40
  have hl : (UN [y]).length = 1 * 8 := by rw [UN_length]; rfl
  have e := run_append_room (P := Try.prog) w 22 o.type 40 i0 Try.underlying22 hi g k n cur h1 ad 1 c (UN [y]) (by rw [hz1]; exact hl) hnews (UN_one _) hroom (by rw [hz1, UN_length, h2]; simp; omega)
  rw [hz1, hl] at e
  unfold Oper.wpIn
  refine ⟨?_, ?_⟩
  · simp [Oper.about, ho, resolve, Target.leads, Sem.run_pure]
  · rw [Oper.semAt_plain F _ _ (by rw [ho]; intro c hc'; cases hc')]
    simp only [execOp, ho, resolve, invoke, builtin, Sem.run_bind, Sem.run_pure, Result.andThen_ok, List.map_toArray, List.map_cons, List.map_nil, hs, hx, e]
    have l1 : (cur.toList.take (k * 8)).length = k * 8 := by simp; omega
    refine hK _ ?_ ?_
    · simp [hl, UN_length]
      omega
    · simp only [List.append_assoc]
      rw [UN_append, ← hk] at *
      rw [← hk] at l1
      rw [h3]
      rw [List.take_append, UN_length]
      have e1 : List.take ((K0.length + 1) * 8) (UN K0) = UN K0 := List.take_of_length_le (by rw [UN_length]; omega)
      rw [e1, show (K0.length + 1) * 8 - K0.length * 8 = 8 by omega, List.take_append, show List.take 8 (UN [y]) = UN [y] from List.take_of_length_le (by rw [hl]; decide)]
      simp [hl]
theorem fl_set {l : Array Bool} {i j : Nat} (hs : i < l.size) : (l.setIfInBounds i true).getD j false = (if j = i then true else l.getD j false) := by
  by_cases e : j = i
  · subst e; rw [if_pos rfl]; exact set_same hs
  · rw [if_neg e, getD_set_ne false (Ne.symm e)]
/-- What the operations of Canon's appending yield. -/
def cnV (h A b o x k n cap : Nat) (N : Nd) (ca : Option Addr) (cp : Nat) : Nat → Value
  | 0 => .slice (some ⟨A + 2, 0, none⟩) k n
  | 1 => .pointer (some ⟨h, 1, none⟩)
  | 2 => .slice (some ⟨b, o, none⟩) n cap
  | 3 => .int .i64 (x : Nat)
  | 4 => .pointer (some ⟨b, o + x * 8, none⟩)
  | 5 => N.v ca cp
  | _ => undef
def cnP (w5 : World) (N : Nd) (va : Option Addr) (cc : Nat) (w6 : World) : Prop := OwnZ 3 w5.heap.size w6 (.slice va N.cs.length cc) N.cs ∧ N.cs.length ≤ cc ∧ Keep w5 w6
def cnB (N : Nd) (va : Option Addr) (cc : Nat) : Obj := .cells #[Value.int IntKind.u8 N.kd, Value.int IntKind.i64 N.vl, Value.int IntKind.i64 N.ft, Value.float FloatKind.f64 N.th, Value.slice va N.cs.length cc, Value.int IntKind.u8 N.ms, Value.int IntKind.i64 N.lf, Value.int IntKind.i64 N.rt] 40
def cnC (n : Nat) (K : List (Nd × Option Addr × Nat)) (N : Nd) (va : Option Addr) (cc : Nat) (cur : Array Value) : Prop := cur.size = n * 8 ∧ cur.toList.take ((K.length + 1) * 8) = UN (K ++ [(N, va, cc)])
/-- How far it has come. -/
def cnS (w5 : World) (A n : Nat) (K : List (Nd × Option Addr × Nat)) (N : Nd) (x : Nat → Value) (l : Array Bool) (w : World) : Prop :=
  ((∀ j, 6 ≤ j → l.getD j false = false) ∧ w = w5) ∨
  ((∀ j, 1 ≤ j → j ≤ 6 → l.getD j false = true) ∧ (∀ j, 7 ≤ j → l.getD j false = false) ∧ ∃ va cc, cnP w5 N va cc w ∧ x 6 = N.v va cc) ∨
  ((∀ j, 1 ≤ j → j ≤ 7 → l.getD j false = true) ∧ (∀ j, 8 ≤ j → l.getD j false = false) ∧ ∃ va cc w6, cnP w5 N va cc w6 ∧ w = w6.alloc (cnB N va cc) ∧ x 7 = .slice (some ⟨w6.heap.size, 0, none⟩) 1 1) ∨
  ((∀ j, j ≤ 8 → l.getD j false = true) ∧ (∀ j, 9 ≤ j → l.getD j false = false) ∧ ∃ va cc w6 cur, cnP w5 N va cc w6 ∧ cnC n K N va cc cur ∧ w = (w6.alloc (cnB N va cc)).setRow (A + 2) cur ∧ x 8 = .slice (some ⟨A + 2, 0, none⟩) (K.length + 1) n) ∨
  ((∀ j, j ≤ 9 → l.getD j false = true) ∧ ∃ va cc w6 cur, cnP w5 N va cc w6 ∧ cnC n K N va cc cur ∧ w = ((w6.alloc (cnB N va cc)).setRow (A + 2) cur).setCell ⟨A + 3, 0, none⟩ (.slice (some ⟨A + 2, 0, none⟩) (K.length + 1) n))
def cnL (l : Array Bool) : Prop := (l.getD 5 false = true → l.getD 4 false = true) ∧ (l.getD 4 false = true → l.getD 2 false = true ∧ l.getD 3 false = true) ∧ (l.getD 2 false = true → l.getD 1 false = true)
def cnI (V : Nat → Value) (w5 : World) (A n : Nat) (K : List (Nd × Option Addr × Nat)) (N : Nd) (FR : (Nat → Value) → Act) (l : Array Bool) (Ac : Act) (w : World) : Prop :=
  l.size = 10 ∧ ∃ x : Nat → Value, Ac = FR x ∧ (∀ j, j ≤ 5 → l.getD j false = true → x j = V j) ∧ cnL l ∧ cnS w5 A n K N x l w
theorem cnL.set {l : Array Bool} {i : Nat} (h : cnL l) (hs : i < l.size) (hi : (i = 5 → l.getD 4 false = true) ∧ (i = 4 → l.getD 2 false = true ∧ l.getD 3 false = true) ∧ (i = 2 → l.getD 1 false = true)) : cnL (l.setIfInBounds i true) := by
  have up : ∀ j, l.getD j false = true → (l.setIfInBounds i true).getD j false = true := fun j h => by rw [fl_set hs]; split; rfl; exact h
  have dn : ∀ j, (l.setIfInBounds i true).getD j false = true → j = i ∨ l.getD j false = true := fun j h => by rw [fl_set hs] at h; split at h; (left; assumption); exact .inr h
  refine ⟨fun h5 => ?_, fun h4 => ?_, fun h2 => ?_⟩
  · rcases dn 5 h5 with e | e
    · exact up 4 (hi.1 e.symm)
    · exact up 4 (h.1 e)
  · rcases dn 4 h4 with e | e
    · exact ⟨up 2 (hi.2.1 e.symm).1, up 3 (hi.2.1 e.symm).2⟩
    · exact ⟨up 2 (h.2.1 e).1, up 3 (h.2.1 e).2⟩
  · rcases dn 2 h2 with e | e
    · exact up 1 (hi.2.2 e.symm)
    · exact up 1 (h.2.2 e)
/-- Up to the call nothing but values is yielded. -/
theorem cnI.pure {V : Nat → Value} {w5 : World} {A n : Nat} {K : List (Nd × Option Addr × Nat)} {N : Nd} {FR : (Nat → Value) → Act} {l : Array Bool} {x : Nat → Value} {A' : Act} {w : World} {i : Nat} (hs : l.size = 10) (hx : ∀ j, j ≤ 5 → l.getD j false = true → x j = V j) (hL : cnL l) (hS : cnS w5 A n K N x l w) (hi : i ≤ 5) (hii : l.getD i false = false)
    (hd : (i = 5 → l.getD 4 false = true) ∧ (i = 4 → l.getD 2 false = true ∧ l.getD 3 false = true) ∧ (i = 2 → l.getD 1 false = true)) (hA : A' = FR (updV x i (V i))) : cnI V w5 A n K N FR (l.setIfInBounds i true) A' w := by
  refine ⟨by simpa using hs, _, hA, ?_, hL.set (by omega) hd, ?_⟩
  · intro j hj h
    rw [fl_set (by omega)] at h
    by_cases e : j = i
    · subst e; simp [updV]
    · rw [if_neg e] at h
      simp only [updV, if_neg e]; exact hx j hj h
  · have up : ∀ j, l.getD j false = true → (l.setIfInBounds i true).getD j false = true := fun j h => by rw [fl_set (by omega)]; split; rfl; exact h
    have dn : ∀ j, 6 ≤ j → l.getD j false = false → (l.setIfInBounds i true).getD j false = false := fun j h1 h => by rw [fl_set (by omega), if_neg (by omega)]; exact h
    have xe : ∀ j, 6 ≤ j → updV x i (V i) j = x j := fun j h => by simp only [updV]; rw [if_neg (by omega)]
    rcases hS with ⟨h1, h2⟩ | ⟨h1, h2, va, cc, h3, h4⟩ | ⟨h1, h2, va, cc, w6, h3, h4, h5⟩ | ⟨h1, h2, h3⟩ | ⟨h1, h2⟩
    · exact .inl ⟨fun j h => dn j h (h1 j h), h2⟩
    · exact .inr (.inl ⟨fun j a b => up j (h1 j a b), fun j h => dn j (by omega) (h2 j h), va, cc, h3, by rw [xe 6 (by omega)]; exact h4⟩)
    · exact .inr (.inr (.inl ⟨fun j a b => up j (h1 j a b), fun j h => dn j (by omega) (h2 j h), va, cc, w6, h3, h4, by rw [xe 7 (by omega)]; exact h5⟩))
    · have := h1 i (by omega); rw [this] at hii; cases hii
    · have := h1 i (by omega); rw [this] at hii; cases hii
/-- Its first six values stay. -/
theorem cn_vals {V : Nat → Value} {l : Array Bool} {x : Nat → Value} {i : Nat} {v : Value} (hs : i < l.size) (hi : 6 ≤ i) (hx : ∀ j, j ≤ 5 → l.getD j false = true → x j = V j) : ∀ j, j ≤ 5 → (l.setIfInBounds i true).getD j false = true → updV x i v j = V j := by
  intro j hj h
  rw [fl_set hs, if_neg (by omega)] at h
  simp only [updV]; rw [if_neg (by omega)]; exact hx j hj h
theorem cnL.later {l : Array Bool} {i : Nat} (h : cnL l) (hs : i < l.size) (hi : 6 ≤ i) : cnL (l.setIfInBounds i true) := h.set hs ⟨fun e => by omega, fun e => by omega, fun e => by omega⟩
theorem cnI.call {V : Nat → Value} {w5 : World} {A n : Nat} {K : List (Nd × Option Addr × Nat)} {N : Nd} {FR : (Nat → Value) → Act} {l : Array Bool} {x : Nat → Value} {A' : Act} {w6 : World} {va : Option Addr} {cc : Nat} (hs : l.size = 10) (hx : ∀ j, j ≤ 5 → l.getD j false = true → x j = V j) (hL : cnL l) (h1 : ∀ j, 6 ≤ j → l.getD j false = false) (h5 : l.getD 5 false = true)
    (hP : cnP w5 N va cc w6) (hA : A' = FR (updV x 6 (N.v va cc))) : cnI V w5 A n K N FR (l.setIfInBounds 6 true) A' w6 := by
  refine ⟨by simpa using hs, _, hA, cn_vals (by omega) (by omega) hx, hL.later (by omega) (by omega), .inr (.inl ⟨fun j a b => ?_, fun j h => ?_, va, cc, hP, by simp [updV]⟩)⟩
  · rw [fl_set (by omega)]
    split
    · rfl
    · have h4 := hL.1 h5
      obtain ⟨h2, h3⟩ := hL.2.1 h4
      have h1' := hL.2.2 h2
      match j, a, b with
      | 1, _, _ => exact h1'
      | 2, _, _ => exact h2
      | 3, _, _ => exact h3
      | 4, _, _ => exact h4
      | 5, _, _ => exact h5
      | 6, _, _ => contradiction
  · rw [fl_set (by omega), if_neg (by omega)]; exact h1 j (by omega)
theorem cnI.made {V : Nat → Value} {w5 : World} {A n : Nat} {K : List (Nd × Option Addr × Nat)} {N : Nd} {FR : (Nat → Value) → Act} {l : Array Bool} {x : Nat → Value} {A' : Act} {w6 : World} {va : Option Addr} {cc : Nat} (hs : l.size = 10) (hx : ∀ j, j ≤ 5 → l.getD j false = true → x j = V j) (hL : cnL l) (h1 : ∀ j, 1 ≤ j → j ≤ 6 → l.getD j false = true) (h2 : ∀ j, 7 ≤ j → l.getD j false = false)
    (hP : cnP w5 N va cc w6) (hA : A' = FR (updV x 7 (.slice (some ⟨w6.heap.size, 0, none⟩) 1 1))) : cnI V w5 A n K N FR (l.setIfInBounds 7 true) A' (w6.alloc (cnB N va cc)) := by
  refine ⟨by simpa using hs, _, hA, cn_vals (by omega) (by omega) hx, hL.later (by omega) (by omega), .inr (.inr (.inl ⟨fun j a b => ?_, fun j h => ?_, va, cc, w6, hP, rfl, by simp [updV]⟩))⟩
  · rw [fl_set (by omega)]
    split
    · rfl
    · exact h1 j a (by omega)
  · rw [fl_set (by omega), if_neg (by omega)]; exact h2 j (by omega)
theorem cnI.appd {V : Nat → Value} {w5 : World} {A n : Nat} {K : List (Nd × Option Addr × Nat)} {N : Nd} {FR : (Nat → Value) → Act} {l : Array Bool} {x : Nat → Value} {A' : Act} {w6 : World} {va : Option Addr} {cc : Nat} {cur : Array Value} (hs : l.size = 10) (hx : ∀ j, j ≤ 5 → l.getD j false = true → x j = V j) (hL : cnL l) (h0 : l.getD 0 false = true) (h1 : ∀ j, 1 ≤ j → j ≤ 7 → l.getD j false = true) (h2 : ∀ j, 8 ≤ j → l.getD j false = false)
    (hP : cnP w5 N va cc w6) (hc : cnC n K N va cc cur) (hA : A' = FR (updV x 8 (.slice (some ⟨A + 2, 0, none⟩) (K.length + 1) n))) : cnI V w5 A n K N FR (l.setIfInBounds 8 true) A' ((w6.alloc (cnB N va cc)).setRow (A + 2) cur) := by
  refine ⟨by simpa using hs, _, hA, cn_vals (by omega) (by omega) hx, hL.later (by omega) (by omega), .inr (.inr (.inr (.inl ⟨fun j b => ?_, fun j h => ?_, va, cc, w6, cur, hP, hc, rfl, by simp [updV]⟩)))⟩
  · rw [fl_set (by omega)]
    split
    · rfl
    · by_cases e : j = 0
      · subst e; exact h0
      · exact h1 j (by omega) (by omega)
  · rw [fl_set (by omega), if_neg (by omega)]; exact h2 j (by omega)
theorem cnI.last {V : Nat → Value} {w5 : World} {A n : Nat} {K : List (Nd × Option Addr × Nat)} {N : Nd} {FR : (Nat → Value) → Act} {l : Array Bool} {x : Nat → Value} {A' : Act} {w6 : World} {va : Option Addr} {cc : Nat} {cur : Array Value} (hs : l.size = 10) (hx : ∀ j, j ≤ 5 → l.getD j false = true → x j = V j) (hL : cnL l) (h1 : ∀ j, j ≤ 8 → l.getD j false = true)
    (hP : cnP w5 N va cc w6) (hc : cnC n K N va cc cur) (hA : A' = FR x) : cnI V w5 A n K N FR (l.setIfInBounds 9 true) A' (((w6.alloc (cnB N va cc)).setRow (A + 2) cur).setCell ⟨A + 3, 0, none⟩ (.slice (some ⟨A + 2, 0, none⟩) (K.length + 1) n)) := by
  refine ⟨by simpa using hs, x, hA, fun j hj h => ?_, hL.later (by omega) (by omega), .inr (.inr (.inr (.inr ⟨fun j b => ?_, va, cc, w6, cur, hP, hc, rfl⟩)))⟩
  · rw [fl_set (by omega), if_neg (by omega)] at h; exact hx j hj h
  · rw [fl_set (by omega)]
    split
    · rfl
    · exact h1 j (by omega)
theorem cnS.keep {w5 : World} {A n : Nat} {K : List (Nd × Option Addr × Nat)} {N : Nd} {x : Nat → Value} {l : Array Bool} {w : World} (hS : cnS w5 A n K N x l w) (h8 : l.getD 8 false = false) : Keep w5 w := by
  rcases hS with ⟨h1, rfl⟩ | ⟨h1, h2, va, cc, h3, h4⟩ | ⟨h1, h2, va, cc, w6, h3, rfl, h5⟩ | ⟨h1, h2, h3⟩ | ⟨h1, h2⟩
  · exact Keep.refl _
  · exact h3.2.2
  · exact h3.2.2.alloc _
  · have := h1 8 (by omega); rw [this] at h8; cases h8
  · have := h1 8 (by omega); rw [this] at h8; cases h8
theorem cn8 {w5 : World} {A n : Nat} {K : List (Nd × Option Addr × Nat)} {N : Nd} {x : Nat → Value} {l : Array Bool} {w : World} (hS : cnS w5 A n K N x l w) (i : Nat) (hi : i ≤ 5) (hii : l.getD i false = false) : l.getD 8 false = false := by
  rcases hS with ⟨h1, -⟩ | ⟨h1, h2, -⟩ | ⟨h1, h2, -⟩ | ⟨h1, h2, h3⟩ | ⟨h1, h2⟩
  · exact h1 8 (by omega)
  · exact h2 8 (by omega)
  · exact h2 8 (by omega)
  · have := h1 i (by omega); rw [this] at hii; cases hii
  · have := h1 i (by omega); rw [this] at hii; cases hii
end Go.Proofs.Ytbchinfmdioijaa
