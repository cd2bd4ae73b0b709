import Derived.Test.YtaogjiffnebnkaaXF
import Derived.Test.YtaogjiffnebnkaaP12
import Derived.Test.YtaogjiffnebnkaaODSD3
import Derived.Test.YtaogjiffnebnkaaV4
import Derived.Test.YtaogjiffnebnkaaKYT5
import Derived.Test.YtaogjiffnebnkaaKM3
import Derived.Test.YtaogjiffnebnkaaKYT6
import Derived.Sort.LoopGhostIn
import Derived.Stop.RegionWithIn
import Derived.Deep.QuietTactic
import Derived.BigQuiet
set_option linter.unusedVariables false
set_option linter.unusedSimpArgs false
namespace Go.Proofs.Ytaogjiffnebnkaa
open Go.RowKit Go.Shelf Go.Maps
/-- Numbers that are no NaN compare as their keys. -/
theorem gtB_key {x y : Nat} (x64 : x < 18446744073709551616) (y64 : y < 18446744073709551616) (hx : ¬ isNaN x) (hy : ¬ isNaN y) : gtB x y = decide (key y < key x) := by
  have h := order_ky x y hx hy
  have h1 := key_ky x64 hx
  have h2 := key_ky y64 hy
  show (Ieee.double.order x y == some .gt) = _
  rw [h]
  rcases Int.lt_trichotomy (ky x) (ky y) with q | q | q
  · rw [cmp_lt q, decide_eq_false (by omega)]; rfl
  · have e : compare (ky x) (ky y) = .eq := Int.compare_eq_eq.2 q
    rw [e, decide_eq_false (by omega)]; rfl
  · have e : compare (ky x) (ky y) = .gt := Int.compare_eq_gt.2 q
    rw [e, decide_eq_true (by omega)]; rfl
theorem gtB_nan {x y : Nat} (h : isNaN x) : gtB x y = false := by
  show (Ieee.double.order x y == some .gt) = _
  rw [order_nan x y (.inl h)]; rfl
theorem pw_of {α : Type} {R : α → α → Prop} : ∀ {L : List α}, (∀ a ∈ L, ∀ b ∈ L, R a b) → L.Pairwise R
  | [], _ => List.Pairwise.nil
  | a :: L, h => List.pairwise_cons.2 ⟨fun b hb => h a List.mem_cons_self b (List.mem_cons_of_mem _ hb), pw_of fun x hx y hy => h x (List.mem_cons_of_mem _ hx) y (List.mem_cons_of_mem _ hy)⟩
/-- What groups are, when so many cuts have been met. -/
structure Grp (L : List Ct) (k : Nat) (G : List (Nat × Nat × Nat)) : Prop where
  rise : G.Pairwise fun a b => key a.1 < key b.1
  mem : ∀ κ, (∃ g ∈ G, key g.1 = κ) ↔ ∃ j, j < k ∧ key (L.getD j cd0).th = κ
  ok : ∀ g ∈ G, g.1 < 18446744073709551616 ∧ ¬ isNaN g.1
  row : ∀ j, j < G.length → (G.getD j gt0).2.1 = (if j = 0 then 0 else (G.getD (j - 1) gt0).2.2) ∧ (G.getD j gt0).2.1 < (G.getD j gt0).2.2
  last : (if G.length = 0 then 0 else (G.getD (G.length - 1) gt0).2.2) = k
  lk : 0 < k → 0 < G.length ∧ key (G.getD (G.length - 1) gt0).1 = key (L.getD (k - 1) cd0).th
theorem Grp.nil (L : List Ct) : Grp L 0 [] := ⟨List.Pairwise.nil, fun κ => by simp, fun g hg => (by cases hg), fun j hj => (by simp at hj), rfl, fun h => (by omega)⟩
end Go.Proofs.Ytaogjiffnebnkaa
set_option linter.unusedVariables false
set_option linter.unusedSimpArgs false
namespace Go.Proofs.Ytaogjiffnebnkaa
open Go.RowKit Go.Shelf Go.Maps
/-- Each inner node has its mark. -/
theorem mk_all {L : List Nd} (h : trE L = 0) {i : Nat} (hi : i < L.length) (hk : (L.getD i nd0).kd = 2 ∨ (L.getD i nd0).kd = 3) : ∃ m ∈ mkl L, m.1 = i := by
  obtain ⟨-, hR, hT, b, hb, -, hn⟩ := Mk.lvE_ok h
  rw [mkl_of hb]
  have hi' : i < (L.map Nd.m).length := by rw [List.length_map]; exact hi
  have hm := (Mk.ord_mem hT.wi i).2 (hT.re i hi')
  rw [Mk.ord_bt hT hb] at hm
  have hK : (Mk.shp (L.map Nd.m)).K i = true := by
    simp only [Mk.shp, decide_eq_true_eq, getD_m]
    exact hk
  have h1 : i ∈ b.inn := by
    rw [← hb.pre_inn]
    exact List.mem_filter.2 ⟨hm, hK⟩
  rw [← b.mks_inn 0] at h1
  obtain ⟨m, hm, e⟩ := List.mem_map.1 h1
  exact ⟨m, hm, e⟩
theorem mem_gall {ts : List (Int × List Nd)} {s : Nd × Ct} : s ∈ gall ts ↔ ∃ k, k < ts.length ∧ s ∈ gat (ts.getD k (0, [])).2 (k : Nat) := by
  unfold gall
  rw [List.mem_flatMap]
  constructor
  · rintro ⟨⟨t, k⟩, hk, hs⟩
    obtain ⟨h1, h2⟩ := List.mem_zipIdx' hk
    refine ⟨k, h1, ?_⟩
    have : ts.getD k (0, []) = t := by simp only [List.getD]; rw [List.getElem?_eq_getElem h1, ← h2]; rfl
    rw [this]
    exact hs
  · rintro ⟨k, hk, hs⟩
    refine ⟨(ts.getD k (0, []), k), ?_, hs⟩
    rw [List.mem_zipIdx_iff_getElem?]
    simp [List.getD, hk]
end Go.Proofs.Ytaogjiffnebnkaa
set_option linter.unusedVariables false
set_option linter.unusedSimpArgs false
namespace Go.Proofs.Ytaogjiffnebnkaa
open Go.RowKit Go.Shelf Go.Maps
open Mk (SeqT more Kpt postT wp_rangeT)
attribute [local go_sem] Oper.semAt_some run_store_float
/-- A node as it lies: block, offset, categories' address, their cap, the node. -/
abbrev NdW (w0 : World) : Type := { x : Nat × Nat × Option Addr × Nat × Nd // NdAt w0 x.1 x.2.1 x.2.2.2.2 x.2.2.1 x.2.2.2.1 }
def ndV {w0 : World} (x : NdW w0) : Nd := x.1.2.2.2.2
theorem Keep.stp {T : Nat → Prop} {A B : World} (h : Keep A B) : Mk.Stp T A B := ⟨h.os, h.tape, h.output, h.size, fun g hg _ => h.block g hg⟩
/-- What the iterator holds. -/
structure NSt (kd : Nat) (f : Int) (w0 : World) (p1 p2 p3 : Nat) (a : Option Addr) (n cap : Nat) (J : List (NdW w0) → (Nat → Prop) → World → Prop) (wr : World) (out : List (NdW w0)) (T : Nat → Prop) (M : List Nd) : Prop where
  j : J out T wr
  lt : ∀ g, T g → w0.heap.size ≤ g ∧ g < wr.heap.size
  eq : out.map ndV = M
  be : Keep w0 wr
  t1 : T p1
  t2 : T p2
  t3 : T p3
  b1 : wr.cell? ⟨p1, 0, none⟩ = some (.slice a n cap)
  b2 : wr.cell? ⟨p2, 0, none⟩ = some (.int .u8 (kd : Nat))
  b3 : wr.cell? ⟨p3, 0, none⟩ = some (.int .i64 f)
theorem NSt.step {kd : Nat} {f : Int} {w0 : World} {p1 p2 p3 : Nat} {a : Option Addr} {n cap : Nat} {J : List (NdW w0) → (Nat → Prop) → World → Prop} {wr : World} {out : List (NdW w0)} {T : Nat → Prop} {M : List Nd} (h : NSt kd f w0 p1 p2 p3 a n cap J wr out T M)
    (hJ1 : ∀ pre T A B, J pre T A → Mk.Stp T A B → J pre (Mk.more T A B) B) {B : World} (k : Keep wr B) : NSt kd f w0 p1 p2 p3 a n cap J B out (Mk.more T wr B) M := by
  refine ⟨hJ1 _ _ _ _ h.j (Keep.stp k), ?_, h.eq, h.be.trans k, .inl h.t1, .inl h.t2, .inl h.t3, k.cell h.b1, k.cell h.b2, k.cell h.b3⟩
  rintro g (q | q)
  · have := h.lt g q; have := k.le; omega
  · have := h.be.le; omega
theorem Kpt.at {n0 : Nat} {T : Nat → Prop} {A B : World} (h : Mk.Kpt n0 T A B) {g o : Nat} (ht : T g) {v : Value} (hc : A.cell? ⟨g, o, none⟩ = some v) : B.cell? ⟨g, o, none⟩ = some v := by
  have := World.block_lt_of_cell? A _ hc
  rw [World.cell?_of_block (a := ⟨g, o, none⟩) (h.block g this (.inr ht))]
  exact hc
end Go.Proofs.Ytaogjiffnebnkaa
set_option linter.unusedVariables false
set_option linter.unusedSimpArgs false
namespace Go.Proofs.Ytaogjiffnebnkaa
open Go.RowKit Go.Shelf Go.Maps
open Mk (SeqT more Kpt postT wp_rangeT)
attribute [local go_sem] Oper.semAt_some run_store_float
theorem wrap_u1 {k n : Nat} (h : n ≤ 17592186044416) (h1 : k + 1 ≤ n) : wrap64 ((k : Int) + 1) = ((k + 1 : Nat) : Int) := by
  unfold wrap64; omega
end Go.Proofs.Ytaogjiffnebnkaa
set_option linter.unusedVariables false
set_option linter.unusedSimpArgs false
namespace Go.Proofs.Ytaogjiffnebnkaa
open Go.RowKit Go.Shelf Go.Maps
attribute [local go_sem] Oper.semAt_some
theorem UF_get (l : List Nat) (j : Nat) (h : j < l.length) : (UF l)[j]? = some (.float .f64 (l.getD j 0)) := by simp [UF, List.getD, h]
def OwnF (w : World) (v : Value) (l : List Nat) : Prop := w.ownsRow 0 34 1 v l.length (UF l)
theorem OwnF.same {w w' : World} {v : Value} {l : List Nat} (h : OwnF w v l) (k : ∀ b, v.ownBlock = some b → w'.heap[b]? = w.heap[b]?) : OwnF w' v l := by
  refine ⟨h.1, ?_⟩
  rcases h.2 with h2 | ⟨g, cap, cur, hv, hg, hh, r⟩
  · exact .inl h2
  · exact .inr ⟨g, cap, cur, hv, hg, by rw [k g (by rw [hv]; rfl)]; exact hh, r⟩
theorem OwnF.block {w : World} {v : Value} {l : List Nat} (h : OwnF w v l) {b : Nat} (hb : v.ownBlock = some b) : ∃ cur, w.heap[b]? = some (.cells cur 34 (0, 0)) := by
  rcases h.2 with ⟨h1, _⟩ | ⟨g, cap, cur, hv, hg, hh, r⟩
  · rw [h1] at hb; cases hb
  · rw [hv] at hb
    have hb : some g = some b := hb
    simp only [Option.some.injEq] at hb
    subst hb
    exact ⟨cur, hh⟩
theorem OwnF.nil (w : World) : OwnF w (.slice none 0 0) [] := ⟨rfl, .inl ⟨rfl, rfl⟩⟩
theorem OwnF.cells {w : World} {v : Value} {l : List Nat} (h : OwnF w v l) (h0 : 0 < l.length) : ∃ g cap, v = .slice (some ⟨g, 0, none⟩) l.length cap ∧ l.length ≤ cap ∧ g < w.heap.size ∧ ∀ j, j < l.length → w.cell? ⟨g, j, none⟩ = some (.float .f64 (l.getD j 0)) := by
  rcases h.2 with ⟨h1, h2⟩ | ⟨g, cap, cur, hv, hg, hh, h1, h2, h3, h4⟩
  · omega
  · refine ⟨g, cap, hv, h1, (Array.getElem?_eq_some_iff.1 hh).1, ?_⟩
    intro j hj
    rw [cell_of_row w g j cur 34 (0, 0) hh, ← UF_get l j hj, ← h4]
    simp [hj]
theorem OwnF.shape {w : World} {v : Value} {l : List Nat} (h : OwnF w v l) : ∃ a c, v = .slice a l.length c ∧ l.length ≤ c := by
  rcases h.2 with ⟨h1, h2⟩ | ⟨g, cap, cur, hv, hg, hh, h1, h2, h3, h4⟩
  · exact ⟨none, 0, by rw [h1, h2], by omega⟩
  · exact ⟨_, cap, hv, h1⟩
/-- The last one taken off. -/
theorem OwnF.pop {w : World} {g cap : Nat} {l : List Nat} {x : Nat} (h : OwnF w (.slice (some ⟨g, 0, none⟩) (l ++ [x]).length cap) (l ++ [x])) : OwnF w (.slice (some ⟨g, 0, none⟩) l.length cap) l := by
  rcases h.2 with ⟨h1, h2⟩ | ⟨g', cap', cur, hv, hg, hh, h1, h2, h3, h4⟩
  · cases h1
  · simp only [Value.slice.injEq, Option.some.injEq, Addr.mk.injEq, and_true, true_and] at hv
    obtain ⟨rfl, rfl⟩ := hv
    refine ⟨by simp [UF], .inr ⟨g, cap, cur, rfl, hg, hh, by simp at h1; omega, h2, h3, ?_⟩⟩
    have := congrArg (List.take l.length) h4
    rw [List.take_take, Nat.mul_one, Nat.min_eq_left (by simp)] at this
    rw [Nat.mul_one, this]
    simp [UF]
/-- A list that is gathered in a box while an iterator runs. -/
structure ColF (Bl Bs R : Nat) (w3 : World) (l : List Nat) (T : Nat → Prop) (W : World) : Prop where
  box : ∃ v, W.heap[Bl]? = some (.cells #[v] 46 (0, 0)) ∧ OwnF W v l ∧ ∀ b, v.ownBlock = some b → ¬ T b ∧ R + 2 ≤ b
  tb : ∀ g, T g → Bs ≤ g ∧ g < W.heap.size
  be : Below Bl w3 W
  sz : R ≤ W.heap.size
theorem ColF.st {Bl Bs R : Nat} {w3 : World} {l : List Nat} {T : Nat → Prop} {A B : World} (hB : Bl < Bs) (hBR : Bs ≤ R) (h : ColF Bl Bs R w3 l T A) (hst : Mk.Stp T A B) : ColF Bl Bs R w3 l (Mk.more T A B) B := by
  obtain ⟨⟨v, h1, h2, h3⟩, h4, h5, h6⟩ := h
  have kp : ∀ g, g < Bs → g < A.heap.size → B.heap[g]? = A.heap[g]? := fun g hg hz => hst.block g hz (fun h => by have := h4 g h; omega)
  refine ⟨⟨v, ?_, ?_, ?_⟩, ?_, ?_, by have := hst.size; omega⟩
  · rw [kp Bl hB (by omega)]; exact h1
  · refine h2.same (fun b hb => ?_)
    obtain ⟨cur, hc⟩ := h2.block hb
    exact hst.block b (Array.getElem?_eq_some_iff.1 hc).1 (h3 b hb).1
  · intro b hb
    obtain ⟨cur, hc⟩ := h2.block hb
    have hlt := (Array.getElem?_eq_some_iff.1 hc).1
    refine ⟨?_, (h3 b hb).2⟩
    rintro (h | h)
    · exact (h3 b hb).1 h
    · omega
  · rintro g (h | h)
    · have := h4 g h; have := hst.size; omega
    · omega
  · exact ⟨hst.os.trans h5.os, hst.tape.trans h5.tape, hst.output.trans h5.output, by have := hst.size; have := h5.size; omega, fun g hg => (kp g (by omega) (by omega)).trans (h5.block g hg)⟩
theorem ColF.put {Bl Bs R : Nat} {w3 : World} {l : List Nat} {T : Nat → Prop} {A : World} {r : Nat} {o' : Obj} (hB : Bl < Bs) (hBR : Bs ≤ R) (h : ColF Bl Bs R w3 l T A) (h1 : R ≤ r) (h2 : r < R + 2) : ColF Bl Bs R w3 l T (A.putObj r o') := by
  obtain ⟨⟨v, q1, q2, q3⟩, q4, q5, q6⟩ := h
  have kp : ∀ g, g ≠ r → (A.putObj r o').heap[g]? = A.heap[g]? := fun g hg => World.putObj_heap_other hg
  refine ⟨⟨v, ?_, ?_, q3⟩, by simpa using q4, ?_, by simpa using q6⟩
  · rw [kp _ (by omega)]; exact q1
  · exact q2.same (fun b hb => kp b (by have := (q3 b hb).2; omega))
  · exact ⟨q5.os, q5.tape, q5.output, by simpa using q5.size, fun g hg => (kp g (by omega)).trans (q5.block g hg)⟩
/-- One more. -/
theorem ColF.app {Bl Bs R : Nat} {w3 : World} {l : List Nat} {T : Nat → Prop} {A B : World} {o : Obj} {v v' : Value} {x : Nat} (hB : Bl < Bs) (hBR : Bs ≤ R) (h : ColF Bl Bs R w3 l T A) (hz : R + 2 ≤ A.heap.size) (hbox : A.heap[Bl]? = some (.cells #[v] 46 (0, 0))) (hv3 : ∀ b, v.ownBlock = some b → ¬ T b ∧ R + 2 ≤ b)
    (ho : OwnF B v' (l ++ [x])) (hgr : (A.alloc o).grownBy B v.ownBlock) (hsep : v'.ownBlock = v.ownBlock ∨ v'.ownBlock = some (A.heap.size + 1)) :
    ColF Bl Bs R w3 (l ++ [x]) T (B.setCell ⟨Bl, 0, none⟩ v') ∧ (∀ g, g < A.heap.size → g ≠ Bl → v.ownBlock ≠ some g → (B.setCell ⟨Bl, 0, none⟩ v').heap[g]? = A.heap[g]?) ∧ B.cell? ⟨Bl, 0, none⟩ = some v ∧ B.frozen? ⟨Bl, 0, none⟩ = false ∧ A.heap.size ≤ B.heap.size := by
  have hb : Below A.heap.size A (A.alloc o) := (Below.refl A.heap.size A).alloc (Nat.le_refl _) o
  have kB : ∀ g, g < A.heap.size → v.ownBlock ≠ some g → B.heap[g]? = A.heap[g]? := fun g hg hne => by rw [hgr.block g (Nat.lt_of_lt_of_le hg hb.size) (fun e => hne e.symm), hb.block g hg]
  have hBl : v.ownBlock ≠ some Bl := fun e => by have := (hv3 Bl e).2; omega
  have boxB : B.heap[Bl]? = some (.cells #[v] 46 (0, 0)) := by rw [kB Bl (by omega) hBl]; exact hbox
  have szB : A.heap.size ≤ B.heap.size := Nat.le_trans hb.size hgr.size
  have ne := neq_set B Bl 0 v'
  have vlt : ∀ b, v'.ownBlock = some b → ¬ T b ∧ R + 2 ≤ b := by
    intro b e
    rcases hsep with e2 | e2
    · rw [e2] at e; exact hv3 b e
    · rw [e2] at e
      simp only [Option.some.injEq] at e
      subst e
      exact ⟨fun h' => by have := h.tb _ h'; omega, by omega⟩
  refine ⟨⟨⟨v', ?_, ?_, vlt⟩, fun g hg => by have := h.tb g hg; simp; omega, ?_, by simp; omega⟩, ?_, ?_, ?_, szB⟩
  · exact heap_setCell_same B Bl 0 _ 46 v' boxB
  · exact ho.same (fun b e => ne b (by have := (vlt b e).2; omega))
  · have h5 := h.be
    exact ⟨hgr.os.trans (hb.os.trans h5.os), hgr.tape.trans (hb.tape.trans h5.tape), hgr.output.trans (hb.output.trans h5.output), by have := h5.size; simp; omega, fun g hg => by rw [ne g (by omega), kB g (by omega) (fun e => by have := (hv3 g e).2; omega)]; exact h5.block g hg⟩
  · intro g hg h1 h2; rw [ne g h1]; exact kB g hg h2
  · rw [cell_of_row B Bl 0 _ 46 (0, 0) boxB]; rfl
  · exact frozen_of_row B Bl 0 _ 46 boxB
end Go.Proofs.Ytaogjiffnebnkaa
set_option linter.unusedVariables false
set_option linter.unusedSimpArgs false
namespace Go.Proofs.Ytaogjiffnebnkaa
open Go.RowKit Go.Shelf Go.Maps
open Mk (SeqT postT wp_rangeT)
attribute [local go_sem] Oper.semAt_some run_store_float
theorem OwnF.rd {w : World} {v : Value} {l : List Nat} (h : OwnF w v l) : ∃ a c, v = .slice a l.length c ∧ RdV w a l := by
  by_cases h0 : 0 < l.length
  · obtain ⟨g, cap, e, -, -, hc⟩ := h.cells h0
    refine ⟨_, cap, e, fun i hi => ⟨g, 0, rfl, ?_⟩⟩
    rw [Nat.zero_add]; exact hc i hi
  · obtain ⟨a, c, e, -⟩ := h.shape
    exact ⟨a, c, e, fun i hi => by omega⟩
end Go.Proofs.Ytaogjiffnebnkaa
set_option linter.unusedVariables false
set_option linter.unusedSimpArgs false
namespace Go.Proofs.Ytaogjiffnebnkaa
open Go.RowKit Go.Shelf Go.Maps
theorem IsL.ns_ok {S : List (Nd × Ct)} {T : List Lst} (h : IsL S T) {R : Ct → Prop} (hR : ∀ s ∈ S, R s.2) {t : Lst} (ht : t ∈ T) : (∀ c ∈ t.ns, R c) ∧ t.ns.length ≤ S.length := by
  have hq := (h.ns t ht).2
  refine ⟨fun c hc => ?_, ?_⟩
  · have hm := hq.mem hc
    unfold sel at hm
    obtain ⟨s, hs, rfl⟩ := List.mem_map.1 hm
    exact hR s (List.mem_filter.1 hs).1
  · rw [eqv.len hq]
    unfold sel
    rw [List.length_map]
    exact List.length_filter_le _ _
/-- Where the group of that number begins. -/
def atG (G : List (Nat × Nat × Nat)) (j : Nat) : Nat := if j = 0 then 0 else (G.getD (j - 1) gt0).2.2
def leqF (x y : Nat) : Bool := FloatKind.f64.format.order x y == some .lt || FloatKind.f64.format.order x y == some .eq
theorem leqF_key {x y : Nat} (x64 : x < 18446744073709551616) (y64 : y < 18446744073709551616) (hx : ¬ isNaN x) (hy : ¬ isNaN y) : leqF x y = decide (key x ≤ key y) := by
  have := leq_key (x := ⟨x, [], 0, 0, 0⟩) (y := ⟨y, [], 0, 0, 0⟩) ⟨x64, hx⟩ ⟨y64, hy⟩
  unfold leqF
  rw [this]
  unfold kC
  rw [decide_eq_decide]
  simp only
  omega
/-- One group. -/
theorem Grp.at {L : List Ct} {G : List (Nat × Nat × Nat)} (h : Grp L L.length G) {j : Nat} (hj : j < G.length) : (G.getD j gt0).2.1 = atG G j ∧ atG G j < (G.getD j gt0).2.2 ∧ (0 < j → leqF (G.getD j gt0).1 (G.getD (j - 1) gt0).1 = false) := by
  obtain ⟨r1, r2⟩ := h.row j hj
  refine ⟨r1, by unfold atG; rw [← r1]; exact r2, fun h0 => ?_⟩
  have e1 : G.getD j gt0 = G[j] := by simp [List.getD, hj]
  have e2 : G.getD (j - 1) gt0 = G[j - 1] := by simp [List.getD, show j - 1 < G.length by omega]
  rw [e1, e2]
  obtain ⟨a1, a2⟩ := h.ok _ (List.getElem_mem hj)
  obtain ⟨b1, b2⟩ := h.ok _ (List.getElem_mem (show j - 1 < G.length by omega))
  rw [leqF_key a1 b1 a2 b2]
  have := List.pairwise_iff_getElem.1 h.rise (j - 1) j (by omega) hj (by omega)
  exact decide_eq_false (by omega)
theorem Grp.fin {L : List Ct} {G : List (Nat × Nat × Nat)} (h : Grp L L.length G) : atG G G.length = L.length := by
  have := h.last
  unfold atG
  exact this
end Go.Proofs.Ytaogjiffnebnkaa
