import Derived.Test.YtaogjiffnebnkaaWG
import Derived.Test.YtaogjiffnebnkaaFB
import Derived.Deep.QuietTactic
import Derived.BigQuiet
set_option linter.unusedVariables false
set_option linter.unusedSimpArgs false
namespace Go.Proofs.Ytaogjiffnebnkaa.Ow
open Go.RowKit Go.Shelf Go.Maps
attribute [local go_sem] run_store_float
theorem mkS {a0 a1 a2 a3 a4 : Prop} (h0 : a0) (h1 : a1) (h2 : a2) (h3 : a3) (h4 : a4) : a0 ∧ a1 ∧ a2 ∧ a3 ∧ a4 := ⟨h0, h1, h2, h3, h4⟩
theorem kp_new {w w' : World} {o : Obj} (k : Keep (w.alloc o) w') : w'.heap[w.heap.size]? = (w.alloc o).heap[w.heap.size]? := k.block _ (by simp)
theorem kp_newd {w w' : World} {o : Obj} (k : Keep (w.alloc o).drew w') : w'.heap[w.heap.size]? = (w.alloc o).heap[w.heap.size]? := k.block _ (by show _ < (w.alloc o).heap.size; simp)
theorem kp_old {w w' : World} {b : Nat} {o : Obj} (k : Keep w w') (h : w.heap[b]? = some o) : w'.heap[b]? = some o := (k.block b (Array.getElem?_eq_some_iff.1 h).1).trans h
theorem box4 {w5 : World} {P : Nat} {x0 x1 x2 x3 : Value} (hP : w5.heap[P]? = some (.cells #[x0, x1, x2, x3] 33 (0, 0))) (v0 v1 v2 v3 : Value) :
    ((((w5.setCell ⟨P, 0, none⟩ v0).setCell ⟨P, 1, none⟩ v1).setCell ⟨P, 2, none⟩ v2).setCell ⟨P, 3, none⟩ v3).heap[P]? = some (.cells #[v0, v1, v2, v3] 33 (0, 0)) ∧
    ∀ b, b ≠ P → ((((w5.setCell ⟨P, 0, none⟩ v0).setCell ⟨P, 1, none⟩ v1).setCell ⟨P, 2, none⟩ v2).setCell ⟨P, 3, none⟩ v3).heap[b]? = w5.heap[b]? := by
  have a0 := heap_setCell_same w5 P 0 _ 33 v0 hP
  have a1 := heap_setCell_same _ P 1 _ 33 v1 a0
  have a2 := heap_setCell_same _ P 2 _ 33 v2 a1
  have a3 := heap_setCell_same _ P 3 _ 33 v3 a2
  refine ⟨by simpa using a3, fun b hb => ?_⟩
  rw [neq_set _ _ _ _ b hb, neq_set _ _ _ _ b hb, neq_set _ _ _ _ b hb, neq_set _ _ _ _ b hb]
theorem box_keep {wr w5 : World} {P : Nat} (k : Keep wr w5) (hP : wr.heap.size ≤ P) (v0 v1 v2 v3 : Value) : Keep wr ((((w5.setCell ⟨P, 0, none⟩ v0).setCell ⟨P, 1, none⟩ v1).setCell ⟨P, 2, none⟩ v2).setCell ⟨P, 3, none⟩ v3) :=
  (((k.setCell (p := ⟨P, 0, none⟩) hP v0).setCell (p := ⟨P, 1, none⟩) hP v1).setCell (p := ⟨P, 2, none⟩) hP v2).setCell (p := ⟨P, 3, none⟩) hP v3
theorem box_S {wr w5 : World} {P gb o0 o1 o2 o3 : Nat} {u0 u1 u2 u3 : Value} (T : Keep wr w5 ∧ w5.cell? ⟨gb, o0, none⟩ = some u0 ∧ w5.cell? ⟨gb, o1, none⟩ = some u1 ∧ w5.cell? ⟨gb, o2, none⟩ = some u2 ∧ w5.cell? ⟨gb, o3, none⟩ = some u3) (hP : wr.heap.size ≤ P)
    (Y : wr.cell? ⟨gb, o0, none⟩ = some u0 ∧ wr.cell? ⟨gb, o1, none⟩ = some u1 ∧ wr.cell? ⟨gb, o2, none⟩ = some u2 ∧ wr.cell? ⟨gb, o3, none⟩ = some u3) (v0 v1 v2 v3 : Value) :
    Keep wr ((((w5.setCell ⟨P, 0, none⟩ v0).setCell ⟨P, 1, none⟩ v1).setCell ⟨P, 2, none⟩ v2).setCell ⟨P, 3, none⟩ v3) ∧ ((((w5.setCell ⟨P, 0, none⟩ v0).setCell ⟨P, 1, none⟩ v1).setCell ⟨P, 2, none⟩ v2).setCell ⟨P, 3, none⟩ v3).cell? ⟨gb, o0, none⟩ = some u0 ∧ ((((w5.setCell ⟨P, 0, none⟩ v0).setCell ⟨P, 1, none⟩ v1).setCell ⟨P, 2, none⟩ v2).setCell ⟨P, 3, none⟩ v3).cell? ⟨gb, o1, none⟩ = some u1 ∧
      ((((w5.setCell ⟨P, 0, none⟩ v0).setCell ⟨P, 1, none⟩ v1).setCell ⟨P, 2, none⟩ v2).setCell ⟨P, 3, none⟩ v3).cell? ⟨gb, o2, none⟩ = some u2 ∧ ((((w5.setCell ⟨P, 0, none⟩ v0).setCell ⟨P, 1, none⟩ v1).setCell ⟨P, 2, none⟩ v2).setCell ⟨P, 3, none⟩ v3).cell? ⟨gb, o3, none⟩ = some u3 := by
  have k := box_keep T.1 hP v0 v1 v2 v3
  exact ⟨k, k.cell Y.1, k.cell Y.2.1, k.cell Y.2.2.1, k.cell Y.2.2.2⟩
theorem Rw.box {B : Nat} {w5 : World} {P : Nat} {x0 x1 x2 x3 : Value} {v : Value} {K : List CI} (h : Rw B w5 v K) (hP : w5.heap[P]? = some (.cells #[x0, x1, x2, x3] 33 (0, 0))) (v0 v1 v2 v3 : Value) : Rw B ((((w5.setCell ⟨P, 0, none⟩ v0).setCell ⟨P, 1, none⟩ v1).setCell ⟨P, 2, none⟩ v2).setCell ⟨P, 3, none⟩ v3) v K := by
  refine h.same fun b hb => (box4 hP v0 v1 v2 v3).2 b fun e => ?_
  rcases hb with hb | ⟨r, hr, hb⟩
  · obtain ⟨-, c, hc⟩ := h.row.block hb
    rw [e, hP] at hc; simp at hc
  · rw [blk_any _ _ _ r.1.cs.length r.2.2] at hb
    obtain ⟨-, c, hc⟩ := (h.cat r hr).1.block hb
    rw [e, hP] at hc; simp at hc
/-- A list in a box, copied in all its depth. -/
structure Bx (wr wf : World) (P : Nat) (φ : Int) (aL : Option Addr) (nL cL : Nat) (aC : Option Addr) (nC cC : Nat) (aO : Option Addr) (nO cO : Nat) (KL KC KO : List CI) : Prop where
  kp : Keep wr wf
  ge : wr.heap.size ≤ P
  bx : wf.heap[P]? = some (.cells #[.int .i64 φ, .slice aL nL cL, .slice aC nC cC, .slice aO nO cO] 33 (0, 0))
  l : Rw wr.heap.size wf (.slice aL nL cL) KL
  c : Rw wr.heap.size wf (.slice aC nC cC) KC
  o : Rw wr.heap.size wf (.slice aO nO cO) KO
theorem Bx.alloc {wr w5 : World} {φ : Int} {aL : Option Addr} {nL cL : Nat} {aC : Option Addr} {nC cC : Nat} {aO : Option Addr} {nO cO : Nat} {KL KC KO : List CI} (k : Keep wr w5) (l : Rw wr.heap.size w5 (.slice aL nL cL) KL) (c : Rw wr.heap.size w5 (.slice aC nC cC) KC) (o : Rw wr.heap.size w5 (.slice aO nO cO) KO) :
    Bx wr (w5.alloc (Obj.cells #[.int .i64 φ, .slice aL nL cL, .slice aC nC cC, .slice aO nO cO] 33)) w5.heap.size φ aL nL cL aC nC cC aO nO cO KL KC KO :=
  ⟨k.alloc _, k.le, heap_alloc_new w5 _, l.keep ((Keep.refl _).alloc _), c.keep ((Keep.refl _).alloc _), o.keep ((Keep.refl _).alloc _)⟩
theorem Bx.box {wr w5 : World} {P : Nat} {x0 x1 x2 x3 : Value} {φ : Int} {aL : Option Addr} {nL cL : Nat} {aC : Option Addr} {nC cC : Nat} {aO : Option Addr} {nO cO : Nat} {KL KC KO : List CI} (k : Keep wr w5) (hP : wr.heap.size ≤ P) (hb : w5.heap[P]? = some (.cells #[x0, x1, x2, x3] 33 (0, 0))) (l : Rw wr.heap.size w5 (.slice aL nL cL) KL) (c : Rw wr.heap.size w5 (.slice aC nC cC) KC) (o : Rw wr.heap.size w5 (.slice aO nO cO) KO) :
    Bx wr ((((w5.setCell ⟨P, 0, none⟩ (.int .i64 φ)).setCell ⟨P, 1, none⟩ (.slice aL nL cL)).setCell ⟨P, 2, none⟩ (.slice aC nC cC)).setCell ⟨P, 3, none⟩ (.slice aO nO cO)) P φ aL nL cL aC nC cC aO nO cO KL KC KO :=
  ⟨box_keep k hP _ _ _ _, hP, (box4 hb _ _ _ _).1, l.box hb _ _ _ _, c.box hb _ _ _ _, o.box hb _ _ _ _⟩
theorem Bx.up {wr w w' : World} {P : Nat} {φ : Int} {aL : Option Addr} {nL cL : Nat} {aC : Option Addr} {nC cC : Nat} {aO : Option Addr} {nO cO : Nat} {KL KC KO : List CI} (h : Bx wr w P φ aL nL cL aC nC cC aO nO cO KL KC KO) (k : Keep wr w') (u : Up wr.heap.size w w') : Bx wr w' P φ aL nL cL aC nC cC aO nO cO KL KC KO :=
  ⟨k, h.ge, (u.kp P h.ge (Array.getElem?_eq_some_iff.1 h.bx).1).trans h.bx, h.l.up u, h.c.up u, h.o.up u⟩
/-- What a round has made, behind the first spoiling. -/
structure By (B : Nat) (w : World) (P : Nat) (φ : Int) (aL : Option Addr) (nL cL : Nat) (aC : Option Addr) (nC cC : Nat) (aO : Option Addr) (nO cO : Nat) (KL KC KO Kd Kk : List CI) (vd vk : Value) : Prop where
  ge : B ≤ P
  bx : w.heap[P]? = some (.cells #[.int .i64 φ, .slice aL nL cL, .slice aC nC cC, .slice aO nO cO] 33 (0, 0))
  l : Rw B w (.slice aL nL cL) KL
  c : Rw B w (.slice aC nC cC) KC
  o : Rw B w (.slice aO nO cO) KO
  d : Rw B w vd Kd
  k : Rw B w vk Kk
theorem By.up {B : Nat} {w w' : World} {P : Nat} {φ : Int} {aL : Option Addr} {nL cL : Nat} {aC : Option Addr} {nC cC : Nat} {aO : Option Addr} {nO cO : Nat} {KL KC KO Kd Kk : List CI} {vd vk : Value} (h : By B w P φ aL nL cL aC nC cC aO nO cO KL KC KO Kd Kk vd vk) (u : Up B w w') : By B w' P φ aL nL cL aC nC cC aO nO cO KL KC KO Kd Kk vd vk :=
  ⟨h.ge, (u.kp P h.ge (Array.getElem?_eq_some_iff.1 h.bx).1).trans h.bx, h.l.up u, h.c.up u, h.o.up u, h.d.up u, h.k.up u⟩
theorem By.cells {B : Nat} {w : World} {P : Nat} {φ : Int} {aL : Option Addr} {nL cL : Nat} {aC : Option Addr} {nC cC : Nat} {aO : Option Addr} {nO cO : Nat} {KL KC KO Kd Kk : List CI} {vd vk : Value} (h : By B w P φ aL nL cL aC nC cC aO nO cO KL KC KO Kd Kk vd vk) : w.cell? ⟨P, 0, none⟩ = some (.int .i64 φ) ∧ w.cell? ⟨P, 1, none⟩ = some (.slice aL nL cL) ∧ w.cell? ⟨P, 2, none⟩ = some (.slice aC nC cC) ∧ w.cell? ⟨P, 3, none⟩ = some (.slice aO nO cO) := by
  refine ⟨?_, ?_, ?_, ?_⟩
  all_goals (rw [cell_of_row w P _ _ 33 (0, 0) h.bx]; rfl)
theorem fls_le (L C O : List Ct) (x : Nat) : (fls L C O x).length ≤ L.length + C.length + O.length := by
  unfold fls
  split
  · omega
  · rw [List.length_append]
    have h2 : (chs C x).length ≤ C.length := List.length_filter_le _ _
    have h3 : (L.take (fst L x)).length ≤ L.length := by rw [List.length_take]; omega
    omega
theorem mk9' {a0 a1 a2 a3 a4 a5 a6 a7 a8 : Prop} (h0 : a0) (h1 : a1) (h2 : a2) (h3 : a3) (h4 : a4) (h5 : a5) (h6 : a6) (h7 : a7) (h8 : a8) : a0 ∧ a1 ∧ a2 ∧ a3 ∧ a4 ∧ a5 ∧ a6 ∧ a7 ∧ a8 := ⟨h0, h1, h2, h3, h4, h5, h6, h7, h8⟩
/-- Behind the first spoiling: the cuts that were spoilt are no one else's. -/
theorem after_c {wr wf w4 w5 w6 w7 : World} {P : Nat} {φ : Int} {aL : Option Addr} {nL cL : Nat} {aC : Option Addr} {nC cC : Nat} {aO : Option Addr} {nO cO : Nat} {KL KC KO Kc Kd Kk : List CI} {Fl : List Ct} {vc vd vk : Value} (hb : Bx wr wf P φ aL nL cL aC nC cC aO nO cO KL KC KO) (oc : OC Fl wf vc w4 Kc) (od : OC Fl w4 vd w5 Kd) (ok : OC Fl w5 vk w6 Kk) (E : Ext (bl vc Kc) w6 w7) :
    Keep wr w7 ∧ By wr.heap.size w7 P φ aL nL cL aC nC cC aO nO cO KL KC KO Kd Kk vd vk := by
  have hc := fun (b : Nat) (h : bl vc Kc b) => (Rw.of_oc oc).in h
  have k46 := od.kp.trans ok.kp
  have kf6 := oc.kp.trans k46
  have s1 := hb.kp.size
  have s2 := oc.kp.size
  have s3 := od.kp.size
  have s4 := ok.kp.size
  have kr6 := hb.kp.trans kf6
  have hlow : ∀ b, b < wf.heap.size → w7.heap[b]? = wf.heap[b]? := fun b hb' => (E.kp b (by omega) fun q => by have := (hc b q).1; omega).trans (kf6.block b hb')
  have hrow : ∀ {v : Value} {K : List CI}, Rw wr.heap.size wf v K → Rw wr.heap.size w7 v K := fun h => h.same fun b hb' => hlow b (h.in hb').2
  refine ⟨⟨E.os.trans kr6.os, E.tape.trans kr6.tape, E.output.trans kr6.output, Nat.le_trans kr6.size E.size, fun b hb' => (hlow b (by omega)).trans (hb.kp.block b hb')⟩, hb.ge, (hlow P (Array.getElem?_eq_some_iff.1 hb.bx).1).trans hb.bx, hrow hb.l, hrow hb.c, hrow hb.o, ?_, ?_⟩
  · have r := (Rw.of_oc od).keep ok.kp
    exact (r.ext E fun b h1 h2 => by have := (r.in h1).1; have := (hc b h2).2; omega).mono (by omega)
  · have r := Rw.of_oc ok
    exact (r.ext E fun b h1 h2 => by have := (r.in h1).1; have := (hc b h2).2; omega).mono (by omega)
/-- One list in a block of its own. -/
theorem rdl_one {w : World} {q : Nat} {φ : Int} {L C O : List Ct} {a0 : Option Addr} {c0 : Nat} {a1 : Option Addr} {c1 : Nat} {a2 : Option Addr} {c2 : Nat} (h : w.heap[q]? = some (.cells #[.int .i64 φ, .slice a0 L.length c0, .slice a1 C.length c1, .slice a2 O.length c2] 33 (0, 0))) (r : RdC w a0 L ∧ RdC w a1 C ∧ RdC w a2 O) (hl : L.length ≤ 268435456 ∧ C.length ≤ 268435456 ∧ O.length ≤ 268435456) (hc : L.length ≤ c0 ∧ C.length ≤ c1 ∧ O.length ≤ c2) : RdL w (some ⟨q, 0, none⟩) [⟨φ, L, C, O⟩] := by
  intro j hj
  obtain rfl : j = 0 := by simp at hj; exact hj
  refine ⟨q, 0, a0, c0, a1, c1, a2, c2, rfl, ?_, ?_, ?_, ?_, r.1, r.2.1, r.2.2, ?_⟩
  · rw [cell_of_row w q _ _ 33 (0, 0) h]; rfl
  · rw [cell_of_row w q _ _ 33 (0, 0) h]; rfl
  · rw [cell_of_row w q _ _ 33 (0, 0) h]; rfl
  · rw [cell_of_row w q _ _ 33 (0, 0) h]; rfl
  · simp only [List.getD_cons_zero]
    exact ⟨by omega, by omega, by omega, hc⟩
theorem two_new (w : World) (A B : Obj) : ((w.alloc A).alloc B).heap[w.heap.size]? = some A ∧ ((w.alloc A).alloc B).heap[w.heap.size + 1]? = some B ∧ ((w.alloc A).alloc B).heap[(w.alloc A).heap.size]? = some B := by
  refine ⟨kp_old ((Keep.refl _).alloc _) (heap_alloc_new w A), ?_, heap_alloc_new _ _⟩
  have := heap_alloc_new (w.alloc A) B
  rw [World.size_alloc] at this
  exact this
set_option maxRecDepth 100000 in
set_option maxHeartbeats 4000000 in
theorem law_own (a : Option Addr) (cap : Nat) (ts : List (Int × List Nd)) (F : Int) (x : Nat) (w : World) (ht : RdT w a ts) :
    Calls Try.prog 8 #[.slice a ts.length cap, .int .i64 F, .float .f64 x] w fun e w' => e = .returned (.bool true) ∧ Keep w w' := by
  obtain ⟨n, hn⟩ : ∃ n, ts.length = n := ⟨_, rfl⟩
  have hB := begins_any w
  have hO := fun (wx : World) (kx : Keep w wx) => Of_all a cap ts n hn F wx (RdT.keep ht kx)
  rw [hn]
  obtain ⟨E, hE⟩ : ∃ E, ofE ts F = E := ⟨_, rfl⟩
  rw [hE] at hO
  replace hO : Hid _ := hO
  clear hn hE ht
  go_enter Try.func8, Try.ntmps8
  go_upto_region 5 with (first
    | (go_at_call 25; refine hB.mono ?_; rintro e v1 ⟨rfl, k1⟩; clear hB)
    | (go_at_call 10; refine (hO.out v2 k02).mono ?_; rintro e v3 ⟨vb, Yb, Ab, rfl, k3, lB, nB, iB⟩)
    | (go_at_call 10; refine (hO.out v1 k1).mono ?_; rintro e v2 ⟨va, Y, A, rfl, k2, lA, nA, iA⟩; have k02 := Keep.trans k1 k2))
  have hT : lof Y A = lof Yb Ab := by
    by_cases q : E = 0
    · exact isL_one (iA q) (iB q)
    · rw [nA q, nB q]; rfl
  have hm : A.length = Ab.length := by rw [← lof_len Y A, hT, lof_len]
  have k03 := Keep.trans k02 k3
  obtain ⟨aa, ca, rfl, -⟩ := lA.rd
  obtain ⟨ab, cb, rfl, -⟩ := lB.rd
  obtain ⟨m, hmm⟩ : ∃ m, A.length = m := ⟨_, rfl⟩
  rw [← hm, hmm]
  rw [hmm] at lA
  rw [← hm, hmm] at lB
  have HM : Hid (A.length = m ∧ Ab.length = m) := ⟨hmm, hm.symm.trans hmm⟩
  have hU : Hid (∀ (Ye : GX) (Ae : List Nat), (E ≠ 0 → Ae = []) → (E = 0 → IsL (gall ts) (lof Ye Ae)) → lof Ye Ae = lof Yb Ab) := by
    intro Ye Ae n' i'
    by_cases q : E = 0
    · exact isL_one (i' q) (iB q)
    · rw [n' q, nB q]; rfl
  clear nA nB iA iB hm hmm
  have hmb : Hid (m ≤ 1099511627776) := by have := lA.ln; have := HM.out.1; show _ ≤ _; omega
  have k01 : Hid (Keep w v1) := k1
  replace lA : Hid (AL v1 v2 _ Y A) := lA
  replace lB : Hid (AL v2 v3 _ Yb Ab) := lB
  replace hT : Hid (lof Y A = lof Yb Ab) := hT
  replace k03 : Hid (Keep w v3) := k03
  replace k3 : Hid (Keep v2 v3) := k3
  go_wp2_with fail
  go_loopw [11] (fun iv wr => ∃ (k : Nat), iv = .int .i64 (k : Int) ∧ k ≤ m ∧ Hid (Ext (U Y A k fun _ => False) v3 wr)) (fun iv _ => m - (intOf iv).toNat)
  case atStart => exact ⟨0, rfl, Nat.zero_le _, stage_start v3⟩
  case round =>
    obtain ⟨k, rfl, hk, hE⟩ := hrel
    by_cases hkl : k < m
    · have hkc : (k : Int) < (m : Int) := by omega
      obtain ⟨ga, gb, φ, L, C, O, n0, n1, n2, b0, c0, b1, c1, b2, c2, a0, d0, a1, d1, a2, d2, K0, K1, K2, rfl, rfl, ⟨rfl, rfl, rfl⟩, H28, HC, HF, HN, HO, HK, HB⟩ := round_facts lA.out k3.out lB.out hT.out (by rw [HM.out.1]; exact hkl) (by rw [HM.out.2]; exact hkl)
      obtain ⟨⟨x1, x2, x3⟩, ⟨y0, y1, y2, y3⟩, ⟨r0, r1, r2⟩, -⟩ := HF _ wr hE.out
      have hcL := fun (wx : World) (kx : Keep wr wx) => cop_src b0 c0 L _ rfl wx H28.1 (r0.keep kx)
      have hcC := fun (wx : World) (kx : Keep wr wx) => cop_src b1 c1 C _ rfl wx H28.2.1 (r1.keep kx)
      have hcO := fun (wx : World) (kx : Keep wr wx) => cop_src b2 c2 O _ rfl wx H28.2.2 (r2.keep kx)
      replace HF : Hid _ := HF
      replace HN : Hid _ := HN
      replace HB : Hid _ := HB
      replace H28 : Hid _ := H28
      replace HC : Hid _ := HC
      replace HO : Hid _ := HO
      replace HK : Hid _ := HK
      replace hcL : Hid _ := hcL
      replace hcC : Hid _ := hcC
      replace hcO : Hid _ := hcO
      have hF20 := fun (wx : World) (kx : Keep wr wx) => False_big φ b0 L c0 b1 C c1 b2 O c2 x wx H28.out.1 H28.out.2.1 H28.out.2.2 HC.out.1 (r0.keep kx) (r1.keep kx) (r2.keep kx)
      unfold lst at hF20
      obtain ⟨Fl, hFl⟩ : ∃ Fl, fls L C O x = Fl := ⟨_, rfl⟩
      have hfl : Hid (Fl.length ≤ 1099511627775) := by show _ ≤ _; rw [← hFl]; have := fls_le L C O x; have := H28.out.1; have := H28.out.2.1; have := H28.out.2.2; omega
      rw [hFl] at hF20
      have hvw : Hid (v2.heap.size ≤ wr.heap.size) := Nat.le_trans k3.out.size hE.out.size
      clear hFl
      replace hF20 : Hid _ := hF20
      clear r0 r1 r2 k1 k2 k02 x1 x2 x3
      go_upto_region 10 with fail
      have KD := (Keep.refl wr).drew
      have HY := And.intro y0 (And.intro y1 (And.intro y2 y3))
      have TDA := fun (o : Obj) => mkS ((Keep.refl wr).alloc o).drew ((((Keep.refl wr).alloc o).drew).cell y0) ((((Keep.refl wr).alloc o).drew).cell y1) ((((Keep.refl wr).alloc o).drew).cell y2) ((((Keep.refl wr).alloc o).drew).cell y3)
      have T0 := mkS KD (KD.cell y0) (KD.cell y1) (KD.cell y2) (KD.cell y3)
      go_region_held3 (fun wx => Keep wr wx ∧ wx.cell? ⟨gb, k * 4, none⟩ = some (Value.int .i64 φ) ∧ wx.cell? ⟨gb, k * 4 + 1, none⟩ = some (Value.slice b0 L.length c0) ∧ wx.cell? ⟨gb, k * 4 + 2, none⟩ = some (Value.slice b1 C.length c1) ∧ wx.cell? ⟨gb, k * 4 + 3, none⟩ = some (Value.slice b2 O.length c2)) (first | with_reducible exact T0 | with_reducible exact T3 | with_reducible exact T2 | with_reducible exact T1 | with_reducible exact mkS (T3.1.alloc _) (((Keep.refl _).alloc _).cell T3.2.1) (((Keep.refl _).alloc _).cell T3.2.2.1) (((Keep.refl _).alloc _).cell T3.2.2.2.1) (((Keep.refl _).alloc _).cell T3.2.2.2.2) | (rename Keep wr _ ∧ _ => hHD; with_reducible exact mkS (hHD.1.alloc _) (((Keep.refl _).alloc _).cell hHD.2.1) (((Keep.refl _).alloc _).cell hHD.2.2.1) (((Keep.refl _).alloc _).cell hHD.2.2.2.1) (((Keep.refl _).alloc _).cell hHD.2.2.2.2)) | with_reducible exact TDA _ | with_reducible exact box_S T3 (Nat.le_refl _) HY _ _ _ _ | with_reducible exact box_S T3 T1.1.le HY _ _ _ _ | with_reducible exact box_S T3 T2.1.le HY _ _ _ _) (first
        | (have hq := oC.kp; clear hq; go_at_call 14; rename Keep wr _ ∧ _ => hHD; refine (hcO.out _ hHD.1).mono ?_; rintro e w5 ⟨vO, KO, rfl, oO⟩; have RO := (Rw.of_oc oO).mono hHD.1.size; obtain ⟨aO, cO, rfl, -, -⟩ := oO.rd; have T3 := mkS (hHD.1.trans oO.kp) (oO.kp.cell hHD.2.1) (oO.kp.cell hHD.2.2.1) (oO.kp.cell hHD.2.2.2.1) (oO.kp.cell hHD.2.2.2.2); have RL3 : Rw wr.heap.size w5 (.slice aL L.length cL) KL := (by first | exact RL2.keep oO.kp | exact (RL2.keep ((Keep.refl _).alloc _)).keep oO.kp); have RC3 : Rw wr.heap.size w5 (.slice aC C.length cC) KC := (by first | exact RC.keep oO.kp | exact (RC.keep ((Keep.refl _).alloc _)).keep oO.kp); (try first | (have hP := kp_old oO.kp hP) | (with_reducible have hP := (kp_new oO.kp).trans (heap_alloc_new _ _))); (try (have z0 := cell_of_row _ _ 0 _ 33 (0, 0) hP; have z1 := cell_of_row _ _ 1 _ 33 (0, 0) hP; have z2 := cell_of_row _ _ 2 _ 33 (0, 0) hP; have z3 := cell_of_row _ _ 3 _ 33 (0, 0) hP; have u0 := frozen_of_row _ _ 0 _ 33 hP; have u1 := frozen_of_row _ _ 1 _ 33 hP; have u2 := frozen_of_row _ _ 2 _ 33 hP; have u3 := frozen_of_row _ _ 3 _ 33 hP; simp only [List.getElem?_toArray, List.getElem?_cons_zero, List.getElem?_cons_succ] at z0 z1 z2 z3)))
        | (have hq := oL.kp; clear hq; go_at_call 14; rename Keep wr _ ∧ _ => hHD; refine (hcC.out _ hHD.1).mono ?_; rintro e w4 ⟨vC, KC, rfl, oC⟩; have RC := (Rw.of_oc oC).mono hHD.1.size; obtain ⟨aC, cC, rfl, -, -⟩ := oC.rd; have T2 := mkS (hHD.1.trans oC.kp) (oC.kp.cell hHD.2.1) (oC.kp.cell hHD.2.2.1) (oC.kp.cell hHD.2.2.2.1) (oC.kp.cell hHD.2.2.2.2); have RL2 : Rw wr.heap.size w4 (.slice aL L.length cL) KL := (by first | exact RL.keep oC.kp | exact (RL.keep ((Keep.refl _).alloc _)).keep oC.kp); (try first | (have hP := kp_old oC.kp hP) | (with_reducible have hP := (kp_new oC.kp).trans (heap_alloc_new _ _))))
        | (go_at_call 14; rename Keep wr _ ∧ _ => hHD; refine (hcL.out _ hHD.1).mono ?_; rintro e w3 ⟨vL, KL, rfl, oL⟩; have RL := (Rw.of_oc oL).mono hHD.1.size; obtain ⟨aL, cL, rfl, -, -⟩ := oL.rd; have T1 := mkS (hHD.1.trans oL.kp) (oL.kp.cell hHD.2.1) (oL.kp.cell hHD.2.2.1) (oL.kp.cell hHD.2.2.2.1) (oL.kp.cell hHD.2.2.2.2); (try (with_reducible have hP := (kp_newd oL.kp).trans (heap_alloc_new _ _)))))
      all_goals
        first
          | (have hb := Bx.box (φ := φ) T3.1 (Nat.le_refl wr.heap.size) hP RL3 RC3 RO; generalize (((w5.setCell _ _).setCell _ _).setCell _ _).setCell _ _ = wf at hb ⊢; generalize wr.heap.size = P at hb ⊢; skip)
          | (have hb := Bx.box (φ := φ) T3.1 T1.1.le hP RL3 RC3 RO; generalize (((w5.setCell _ _).setCell _ _).setCell _ _).setCell _ _ = wf at hb ⊢; generalize w3.heap.size = P at hb ⊢; skip)
          | (have hb := Bx.box (φ := φ) T3.1 T2.1.le hP RL3 RC3 RO; generalize (((w5.setCell _ _).setCell _ _).setCell _ _).setCell _ _ = wf at hb ⊢; generalize w4.heap.size = P at hb ⊢; skip)
          | (have hb := Bx.alloc (φ := φ) T3.1 RL3 RC3 RO; generalize w5.alloc _ = wf at hb ⊢; generalize w5.heap.size = P at hb ⊢; skip)
      all_goals
        have hKL := oL.eq
        have hKC := oC.eq
        have hKO := oO.eq
        have y0 := hb.kp.cell y0
        have y1 := hb.kp.cell y1
        have y2 := hb.kp.cell y2
        have y3 := hb.kp.cell y3
        replace hKL : Hid _ := hKL
        replace hKC : Hid _ := hKC
        replace hKO : Hid _ := hKO
        clear T0 T1 T2 T3 RL RL2 RL3 RC RC3 RO oL oC oO KD HY TDA hcL hcC hcO
        go_upto_region 14 with (first
          | (have hq := od.kp; clear hq; go_at_call 14; refine (CopiedB_any ad cd Fl w5 hfl.out rd).mono ?_; rintro e w6 ⟨vk, rfl, Kk, ok⟩; obtain ⟨ak, ck, rfl, -, -⟩ := ok.rd)
          | (have hq := oc.kp; clear hq; go_at_call 20; refine (hF20.out w4 (hb.kp.trans oc.kp)).mono ?_; rintro e w5 ⟨vd, rfl, Kd, od⟩; obtain ⟨ad, cd, rfl, -, rd⟩ := od.rd)
          | (go_at_call 20; refine (hF20.out wf hb.kp).mono ?_; rintro e w4 ⟨vc, rfl, Kc, oc⟩; obtain ⟨ac, cc, rfl, -, -⟩ := oc.rd; have y0 := oc.kp.cell y0; have y1 := oc.kp.cell y1; have y2 := oc.kp.cell y2; have y3 := oc.kp.cell y3))
        clear hF20 y0 y1 y2 y3
        go_upto_region 17 with (first
          | (have hq := S8; clear hq; go_at_call 14; refine (CopiedB_any a2 d2 O w8 (by have := H28.out.2.2; omega) ((g2 (by simp)).rdc HO.out).1).mono ?_; rintro e w9 ⟨vl, rfl, Kl, ol⟩; obtain ⟨al, cl, rfl, -, rl⟩ := ol.rd; have S9 := stage_keep S8 ol.kp; have by9 := by8.up (Up.of_keep ol.kp _); have z3 := by9.cells.2.2.2)
          | (have hq := S7; clear hq; go_at_call 31; refine (spoil_any _ w7 _ K1 (g1 (by simp)) (by have := HK.out.2.1; have := H28.out.2.1; omega)).mono ?_; rintro e w8 ⟨rfl, E8⟩; have S8 := (HN.out _ w7 w8 S7).2.1 E8; have by8 := by7.up (Up.of_ext E8 fun b h => Nat.lt_of_lt_of_le (HB.out b (.inr (.inl h))) hvw.out); obtain ⟨⟨x1, x2, x3⟩, -, -, -, -, g2⟩ := HF.out _ w8 S8)
          | (go_at_call 31; refine (spoil_any _ w6 _ Kc ((Rw.of_oc oc).keep (od.kp.trans ok.kp)) (by have := oc.len; have := hfl.out; omega)).mono ?_; rintro e w7 ⟨rfl, E7⟩; obtain ⟨k7, by7⟩ := after_c hb oc od ok E7; have S7 := stage_keep hE.out k7; obtain ⟨⟨x1, x2, x3⟩, -, -, -, g1, -⟩ := HF.out _ w7 S7))
        have hKd : Hid (Kd.map (fun r => r.1) = Fl) := od.eq
        have hKk : Hid (Kk.map (fun r => r.1) = Fl) := ok.eq
        clear x1 x2 x3 g1 g2 E7 E8 oc od ok
        go_upto_region 21 with (first
          | (have hq := S11; clear hq; go_at_call 31; refine (spoil_any _ w11 _ K2 (g2 (by simp)) (by have := HK.out.2.2; have := H28.out.2.2; omega)).mono ?_; rintro e w12 ⟨rfl, E12⟩; have S12 := (HN.out _ w11 w12 S11).2.2 E12; have by12 := by11.up (Up.of_ext E12 fun b h => Nat.lt_of_lt_of_le (HB.out b (.inr (.inr h))) hvw.out))
          | (have hq := S10; clear hq; go_at_call 31; refine (spoil_any _ w10 _ K0 (g0 (by simp)) (by have := HK.out.1; have := H28.out.1; omega)).mono ?_; rintro e w11 ⟨rfl, E11⟩; have S11 := (HN.out _ w10 w11 S10).1 E11; have by11 := by10.up (Up.of_ext E11 fun b h => Nat.lt_of_lt_of_le (HB.out b (.inl h)) hvw.out); obtain ⟨⟨x1, x2, x3⟩, -, -, -, -, g2⟩ := HF.out _ w11 S11)
          | (go_at_call 19; refine (Same_big al aO cl cO O O.length rfl w9 (by have := H28.out.2.2; omega) rl (by9.o.rdc hKO.out).1).mono ?_; rintro e w10 ⟨rfl, j10⟩; have S10 := stage_keep S9 j10; have by10 := by9.up (Up.of_keep j10 _); obtain ⟨⟨x1, x2, x3⟩, -, -, g0, -, -⟩ := HF.out _ w10 S10))
        clear x1 x2 x3 g0 g2 E11 E12 z3
        obtain ⟨-, ⟨y0, y1, y2, y3⟩, ⟨r0, r1, r2⟩, -⟩ := HF.out _ w12 S12
        obtain ⟨z0, z1, z2, z3⟩ := by12.cells
        have rd := (by12.d.rdc hKd.out).1
        have rk := (by12.k.rdc hKk.out).1
        have rL := (by12.l.rdc hKL.out)
        have rC := (by12.c.rdc hKC.out)
        have rO := (by12.o.rdc hKO.out)
        have hcq : Hid (L.length ≤ cL ∧ C.length ≤ cC ∧ O.length ≤ cO) := ⟨rL.2.2, rC.2.2, rO.2.2⟩
        have rW : Hid (RdC w12 aL L ∧ RdC w12 aC C ∧ RdC w12 aO O) := ⟨rL.1, rC.1, rO.1⟩
        have rB : Hid (RdC w12 b0 L ∧ RdC w12 b1 C ∧ RdC w12 b2 O) := ⟨r0, r1, r2⟩
        replace rd : Hid _ := rd
        replace rk : Hid _ := rk
        replace S12 : Hid _ := S12
        clear rL rC rO r0 r1 r2 by12 by11 by10 by9 by8 by7 S11 S10 S9 S8 S7 hb HF HN HB HK rl j10
        go_upto_region 21 with fail
        have KD := (Keep.refl w12).drew
        have T0 := mk9' KD (KD.cell y0) (KD.cell y1) (KD.cell y2) (KD.cell y3) (KD.cell z0) (KD.cell z1) (KD.cell z2) (KD.cell z3)
        go_region_held3 (fun wx => Keep w12 wx ∧ wx.cell? ⟨gb, k * 4, none⟩ = some (Value.int .i64 φ) ∧ wx.cell? ⟨gb, k * 4 + 1, none⟩ = some (Value.slice b0 L.length c0) ∧ wx.cell? ⟨gb, k * 4 + 2, none⟩ = some (Value.slice b1 C.length c1) ∧ wx.cell? ⟨gb, k * 4 + 3, none⟩ = some (Value.slice b2 O.length c2) ∧ wx.cell? ⟨P, 0, none⟩ = some (Value.int .i64 φ) ∧ wx.cell? ⟨P, 1, none⟩ = some (Value.slice aL L.length cL) ∧ wx.cell? ⟨P, 2, none⟩ = some (Value.slice aC C.length cC) ∧ wx.cell? ⟨P, 3, none⟩ = some (Value.slice aO O.length cO)) (first | with_reducible exact T0 | with_reducible exact T4 | with_reducible exact T1 | (rename Keep w12 _ ∧ _ => hHD; with_reducible exact mk9' (hHD.1.alloc _) (((Keep.refl _).alloc _).cell hHD.2.1) (((Keep.refl _).alloc _).cell hHD.2.2.1) (((Keep.refl _).alloc _).cell hHD.2.2.2.1) (((Keep.refl _).alloc _).cell hHD.2.2.2.2.1) (((Keep.refl _).alloc _).cell hHD.2.2.2.2.2.1) (((Keep.refl _).alloc _).cell hHD.2.2.2.2.2.2.1) (((Keep.refl _).alloc _).cell hHD.2.2.2.2.2.2.2.1) (((Keep.refl _).alloc _).cell hHD.2.2.2.2.2.2.2.2))) (first
          | (have hq := j13; clear hq; go_at_call 12; rename Keep w12 _ ∧ _ => hHD; refine (Alike_eq _ _ _ _ [⟨φ, L, C, O⟩] 1 rfl _ (by omega) (rdl_one (by first | exact (two_new _ _ _).1 | exact (two_new _ _ _).2.1 | exact (two_new _ _ _).2.2) ⟨rB.out.1.keep hHD.1, rB.out.2.1.keep hHD.1, rB.out.2.2.keep hHD.1⟩ H28.out HC.out) (rdl_one (by first | exact (two_new _ _ _).1 | exact (two_new _ _ _).2.1 | exact (two_new _ _ _).2.2) ⟨rW.out.1.keep hHD.1, rW.out.2.1.keep hHD.1, rW.out.2.2.keep hHD.1⟩ H28.out hcq.out)).mono ?_; rintro e w14 ⟨rfl, j14⟩; have K14 := hHD.1.trans j14; have T4 := mk9' K14 (K14.cell y0) (K14.cell y1) (K14.cell y2) (K14.cell y3) (K14.cell z0) (K14.cell z1) (K14.cell z2) (K14.cell z3))
          | (go_at_call 19; rename Keep w12 _ ∧ _ => hHD; refine (Same_big ad ak cd ck Fl Fl.length rfl _ (by have := hfl.out; omega) (RdC.keep rd.out hHD.1) (RdC.keep rk.out hHD.1)).mono ?_; rintro e w13 ⟨rfl, j13⟩; have K13 := hHD.1.trans j13; have T1 := mk9' K13 (K13.cell y0) (K13.cell y1) (K13.cell y2) (K13.cell y3) (K13.cell z0) (K13.cell z1) (K13.cell z2) (K13.cell z3)))
        all_goals
          go_simp
          go_wp2_with fail
          have hw4 : wrap64 ((k : Int) + 1) = ((k + 1 : Nat) : Int) := wrap_up4 hmb.out hkl
          rw [hw4]
          exact ⟨⟨k + 1, rfl, hkl, stage_end (stage_keep S12.out K14)⟩, left_down hkl⟩
    · have hkc : ¬ (k : Int) < (m : Int) := by omega
      obtain rfl : k = m := by omega
      have kw := stage_base k01.out lA.out k03.out hE.out
      have lBx := lB.out.up (Up.of_ext hE.out fun y hy => (lA.out.Ult hy).2)
      have hab := HM.out.2
      go_wp2_with (first
        | (go_at_call 12; refine (Alike_eq ae ab ce cb (lof Yb Ab) _ hlb w4 hmb.out rE rb).mono ?_; rintro e w5 ⟨rfl, k5⟩)
        | (go_at_call 10; refine (hO.out wr kw).mono ?_; rintro e w4 ⟨ve, Ye, Ae, rfl, k4, lE, nE, iE⟩; have hLE := hU.out Ye Ae nE iE; have hlb := (lof_len Yb Ab).trans hab; have hEl := (lof_len Ye Ae).symm.trans ((congrArg List.length hLE).trans hlb); obtain ⟨ae, ce, rfl, rE⟩ := lE.rd; rw [hEl]; rw [hLE] at rE; obtain ⟨a', c', e', rb⟩ := (lBx.up (Up.of_keep k4 _)).rd; simp only [Value.slice.injEq] at e'; obtain ⟨rfl, -, rfl⟩ := e'))
      try simp only [Exit.inBlock, Exit.then]
      go_ret
      exact ⟨rfl, kw.trans (k4.trans k5)⟩
end Go.Proofs.Ytaogjiffnebnkaa.Ow
