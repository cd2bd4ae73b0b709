import Derived.Test.YtcdcheecaphmgaaDoorM34
import Derived.Test.YtcdcheecaphmgaaDoorM20
import Derived.Deep.Cut
set_option linter.unusedVariables false
set_option linter.unusedSimpArgs false
namespace Go.Proofs.YtcdcheecaphmgaaDoor
open Go.RowKit Go.Shelf
theorem Wt.mem {t : Sh} : ∀ {bs : List BT} {l : List Nat}, Wt t bs l → ∀ x ∈ l, x ∈ bs.flatMap BT.pre
  | [], [], _, x, hx => by simp at hx
  | b :: bs, i :: l, h, x, hx => by
    rw [List.flatMap_cons, List.mem_append]
    rcases List.mem_cons.1 hx with rfl | hx
    · exact .inl h.1.topM
    · exact .inr (Wt.mem h.2 x hx)
theorem Bf.mem {t : Sh} {b : BT} {i : Nat} {l : List Nat} (h : Bf t b i l) : ∀ x ∈ l, x ∈ b.pre := by
  obtain ⟨h1, bs, h2, h3⟩ := h
  intro x hx
  refine h3.mem_iff.1 (List.mem_append.2 ?_)
  rw [← List.take_append_drop i l] at hx
  rcases List.mem_append.1 hx with hx | hx
  · exact .inl hx
  · exact .inr (h2.mem x hx)
/-- append(l, ys...). -/
theorem wpList_appI2 (w : World) {ops : Array Oper} {rest : List Oper} {o : Oper} {a : Act} {Q : Exit → Act → World → Prop} (hgd : o.guard = none) (s x : Operand)
    (hop : o.op = .call { callee := .builtin .append, args := #[s, x], argTypes := #[47, 47] }) (l ys : List Nat) (v : Value) (hs : a.eval s = v) (hown : OwnI w v l) (ad : Addr) (k c : Nat) (hx : a.eval x = .slice (some ad) k c) (hk : k = ys.length) (hm : 0 < ys.length)
    (hnews : ∀ j u, (UI ys)[j]? = some u → w.cell? (ad.add j) = some u) (hlen : l.length + ys.length ≤ 17592186044416)
    (hK : ∀ v' w', OwnI w' v' (l ++ ys) → w.grownBy w' v.ownBlock → (v'.ownBlock = v.ownBlock ∨ v'.ownBlock = some w.heap.size) → wpList Tryd.prog ops Q rest (a.put o.dst v') w') :
    wpList Tryd.prog ops Q (o :: rest) a w := by
  subst hk
  refine wpList_plain hgd fun K hK' => ?_
  obtain ⟨v', w', hrun, r1, r2, r3⟩ := appI_sep w o.type v l ys hown ad c hm hnews hlen
  unfold Oper.wp
  simp [execOp, hop, resolve, invoke, builtin, hs, hx, hrun, Result.andThen]
  exact hK' _ _ (hK v' w' r1 r2 r3)
/-- make([]int, n). -/
theorem wpList_makeI2 (w : World) {ops : Array Oper} {rest : List Oper} {o : Oper} {a : Act} {Q : Exit → Act → World → Prop}
    (hg : o.guard = none) (l c : Operand) (hop : o.op = Op.makeSlice 47 l c) (kl kc : IntKind) (L C : Int) (n : Nat) (hl : a.eval l = .int kl L) (hc : a.eval c = .int kc C) (hL : L = (n : Int)) (hC : C = (n : Int)) (hn : n ≤ 17592186044416)
    (hK : ∀ w', RowI w' w.heap.size (List.replicate n 0) → Keep w w' → w'.heap.size = w.heap.size + 1 → wpList Tryd.prog ops Q rest (a.put o.dst (.slice (some ⟨w.heap.size, 0, none⟩) n n)) w') :
    wpList Tryd.prog ops Q (o :: rest) a w := by
  refine wpList_plain hg fun K hK' => ?_
  obtain ⟨i, hi, hz0, hz1, hz2⟩ := info_parts i3
  have hr := run_make (P := Tryd.prog) w 47 3 i _ Tryd.underlying47 hi hz0 kl kc n n (by omega) (by omega) (by rw [hz2]; omega) (by omega)
  subst hL
  subst hC
  rw [hz1] at hr
  unfold Oper.wp
  simp only [Int.toNat_natCast, Nat.mul_one, made3] at hr
  simp [execOp, hop, hl, hc, hr, Result.andThen]
  exact hK' _ _ (hK _ (heap_alloc_new w _) ((Keep.refl w).alloc _) (by simp))
end Go.Proofs.YtcdcheecaphmgaaDoor
set_option linter.unusedVariables false
set_option linter.unusedSimpArgs false
namespace Go.Proofs.YtcdcheecaphmgaaDoor
open Go.RowKit Go.Shelf
/-- What the gathering of nodes holds between two rounds. -/
structure UIt (t : Sh) (b : BT) (r : Nat) (w : World) (i : Nat) (l : List Nat) (v : Value) (wr : World) : Prop where
  own : OwnI wr v l
  bl : ∀ y, v.ownBlock = some y → w.heap.size ≤ y
  bf : Bf t b i l
  hd : l.getD 0 0 = r
  kp : Keep w wr
theorem UIt.move {t : Sh} {b : BT} {r : Nat} {w : World} {i : Nat} {l : List Nat} {v : Value} {wr W : World} (h : UIt t b r w i l v wr) (hi : i < l.length) (hK : t.K (l.getD i 0) = false) (k : Keep wr W) : UIt t b r w (i + 1) l v W := by
  have h1 := h.bf.next hi
  rw [if_neg (by rw [hK]; simp)] at h1
  exact ⟨own_keep h.own k, h.bl, h1, h.hd, h.kp.trans k⟩
theorem UIt.grow {t : Sh} {b : BT} {r : Nat} {w : World} {i : Nat} {l : List Nat} {v v' : Value} {wr W w' : World} (h : UIt t b r w i l v wr) (hi : i < l.length) (hK : t.K (l.getD i 0) = true) (k : Keep wr W) (hO : OwnI w' v' (l ++ [t.A (l.getD i 0), t.B (l.getD i 0)])) (g : W.grownBy w' v.ownBlock) (hv : v'.ownBlock = v.ownBlock ∨ v'.ownBlock = some W.heap.size) : UIt t b r w (i + 1) (l ++ [t.A (l.getD i 0), t.B (l.getD i 0)]) v' w' := by
  have h1 := h.bf.next hi
  rw [if_pos hK] at h1
  have hle := (h.kp.trans k).le
  refine ⟨hO, ?_, h1, ?_, Below.grown (h.kp.trans k) g hle h.bl⟩
  · intro y hy
    rcases hv with e | e
    · exact h.bl y (by rw [← e]; exact hy)
    · rw [e] at hy; cases hy; exact hle
  · have := h.hd
    cases l with
    | nil => simp at hi
    | cons x l => simpa [List.getD] using this
end Go.Proofs.YtcdcheecaphmgaaDoor
set_option linter.unusedVariables false
set_option linter.unusedSimpArgs false
namespace Go.Proofs.YtcdcheecaphmgaaDoor
open Go.RowKit Go.Shelf
attribute [local go_sem] run_store_float
theorem news2I (W : World) (n : Nat) (hn : W.heap.size = n) (x y : Nat) : ∀ j u, (UI [x, y])[j]? = some u → (W.alloc (Obj.cells #[Value.int .i64 (x : Nat), Value.int .i64 (y : Nat)] 3)).cell? ((⟨n, 0, none⟩ : Addr).add j) = some u := by
  subst hn
  intro j u hj
  rw [Go.WideShapes.add_plain, Nat.zero_add, cell_of_row _ _ _ _ 3 (0, 0) (heap_alloc_new W _)]
  simpa [UI] using hj
/-- The places of the first k of l, in a row of N. -/
def plF (l : List Nat) (N k : Nat) : List Nat := (List.range k).foldl (fun P j => P.set (l.getD j 0) j) (List.replicate N 0)
theorem plF_zero (l : List Nat) (N : Nat) : plF l N 0 = List.replicate N 0 := rfl
theorem plF_succ (l : List Nat) (N k : Nat) : plF l N (k + 1) = (plF l N k).set (l.getD k 0) k := by simp [plF, List.range_succ]
theorem plF_len (l : List Nat) (N : Nat) : ∀ k, (plF l N k).length = N
  | 0 => by simp [plF]
  | k + 1 => by rw [plF_succ, List.length_set, plF_len l N k]
theorem plF_get {l : List Nat} {N : Nat} (hnd : l.Nodup) (hin : ∀ x ∈ l, x < N) : ∀ k, k ≤ l.length → ∀ j, j < k → (plF l N k).getD (l.getD j 0) 0 = j
  | 0, _, j, hj => by omega
  | k + 1, hk, j, hj => by
    have hjl : j < l.length := by omega
    have hkl : k < l.length := by omega
    have ej : l.getD j 0 = l[j] := by simp [List.getD, hjl]
    have ek : l.getD k 0 = l[k] := by simp [List.getD, hkl]
    have hlt : l[j] < N := hin _ (List.getElem_mem hjl)
    rw [plF_succ, ej, ek]
    by_cases e : j = k
    · subst e
      simp [List.getD, plF_len, hlt]
    · have hne : l[k] ≠ l[j] := fun h => by
        have hp := List.pairwise_iff_getElem.1 hnd j k hjl hkl (by omega)
        exact hp h.symm
      have ih := plF_get hnd hin k (by omega) j (by omega)
      rw [ej] at ih
      simp only [List.getD, List.getElem?_set, if_neg hne] at ih ⊢
      exact ih
theorem plF_le (l : List Nat) (N : Nat) : ∀ k i, (plF l N k).getD i 0 ≤ k
  | 0, i => by
    simp only [plF_zero, List.getD, List.getElem?_replicate]
    split <;> simp
  | k + 1, i => by
    have ih := plF_le l N k i
    rw [plF_succ]
    simp only [List.getD, List.getElem?_set] at ih ⊢
    split
    · split <;> simp
    · omega
/-- What the laying of the nodes below one holds between two rounds. -/
structure UOt (L : List Nd) (l : List Nat) (f : Nat → Nat) (w w4 : World) (k : Nat) (K : List (Nd × Option Addr × Nat)) (v : Value) (wr : World) : Prop where
  own : OwnN w4.heap.size wr v K
  kl : K.length = k
  kp : Keep w4 wr
  it : ∀ j, j < k → (K.getD j nt0).1 = unN f (L.getD (l.getD j 0) nd0) ∧ RdI w (K.getD j nt0).2.1 (L.getD (l.getD j 0) nd0).cs ∧ (L.getD (l.getD j 0) nd0).cs.length ≤ (K.getD j nt0).2.2
theorem UOt.next {L : List Nd} {l : List Nat} {f : Nat → Nat} {w w4 : World} {k : Nat} {K : List (Nd × Option Addr × Nat)} {v v7 : Value} {wr W w7 : World} (h : UOt L l f w w4 k K v wr) (kW : Keep wr W) {N : Nd} {ca : Option Addr} {cp : Nat} (hN : N = unN f (L.getD (l.getD k 0) nd0)) (hr : RdI w ca (L.getD (l.getD k 0) nd0).cs) (hc : (L.getD (l.getD k 0) nd0).cs.length ≤ cp) (o7 : OwnN w4.heap.size w7 v7 (K ++ [(N, ca, cp)])) (g7 : W.grownBy w7 v.ownBlock) : UOt L l f w w4 (k + 1) (K ++ [(N, ca, cp)]) v7 w7 := by
  have hle := (h.kp.trans kW).le
  refine ⟨o7, by rw [List.length_append, h.kl]; rfl, Below.grown (h.kp.trans kW) g7 hle (fun b hb => (h.own.block hb).1), ?_⟩
  intro j hj
  rw [getD_snocN, h.kl]
  by_cases e : j = k
  · subst e
    rw [if_pos rfl]
    exact ⟨hN, hr, hc⟩
  · rw [if_neg e]
    exact h.it j (by omega)
theorem unN_cs (f : Nat → Nat) (n : Nd) : (unN f n).cs = n.cs := by unfold unN; split <;> rfl
theorem unN_fit {f : Nat → Nat} {n : Nd} (h : n.Fit) (hf : ∀ i, f i ≤ 9223372036854775807) : (unN f n).Fit := by
  unfold unN
  split
  · exact h
  · exact ⟨h.kd, h.vl, h.ft, h.th, h.cs, h.ms, ⟨by have := hf n.lf.toNat; simp only; omega, by have := hf n.lf.toNat; simp only; omega⟩, ⟨by have := hf n.rt.toNat; simp only; omega, by have := hf n.rt.toNat; simp only; omega⟩⟩
theorem UOt.rd {L : List Nd} {l : List Nat} {f : Nat → Nat} {w w4 : World} {K : List (Nd × Option Addr × Nat)} {v : Value} {wr : World} (h : UOt L l f w w4 l.length K v wr) (kw : Keep w wr) {a : Option Addr} (ha : RdN w a L) (hin : ∀ x ∈ l, x < L.length) (hf : ∀ i, f i ≤ 9223372036854775807) : ∃ av cv, v = .slice av l.length cv ∧ l.length ≤ cv ∧ RdN wr av (unL L l f) := by
  obtain ⟨av, cv, hv, hc, hcell⟩ := h.own.shape
  rw [h.kl] at hv hc hcell
  refine ⟨av, cv, hv, hc, ?_⟩
  intro j hj
  rw [unL_len] at hj
  obtain ⟨b, e, hu⟩ := hcell j hj
  obtain ⟨h1, h2, h3⟩ := h.it j hj
  have hpj : l.getD j 0 < L.length := hin _ (by rw [List.getD_eq_getElem?_getD, List.getElem?_eq_getElem hj]; exact List.getElem_mem hj)
  obtain ⟨b0, o0, ca0, cp0, -, hn0⟩ := ha (l.getD j 0) hpj
  rw [unL_get L l f hj]
  generalize L.getD (l.getD j 0) nd0 = N at *
  generalize K.getD j nt0 = R at *
  obtain ⟨M, ca, cp⟩ := R
  simp only at h1 h2 h3
  subst h1
  refine ⟨b, 0, ca, cp, e, ?_⟩
  rw [Nat.zero_add]
  exact ⟨hu 0 _ (by omega) rfl, hu 1 _ (by omega) rfl, hu 2 _ (by omega) rfl, hu 3 _ (by omega) rfl, hu 4 _ (by omega) rfl, hu 5 _ (by omega) rfl, hu 6 _ (by omega) rfl, hu 7 _ (by omega) rfl, by rw [unN_cs]; exact h2.keep kw, by rw [unN_cs]; exact h3, by rw [unN_cs]; exact hn0.sz, unN_fit hn0.ok hf⟩
end Go.Proofs.YtcdcheecaphmgaaDoor
