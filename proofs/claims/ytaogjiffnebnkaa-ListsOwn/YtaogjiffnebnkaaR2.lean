import Derived.Test.YtaogjiffnebnkaaR1
import Derived.Deep.RegionHeld3
set_option linter.unusedVariables false
set_option linter.unusedSimpArgs false
namespace Go.Proofs.Ytaogjiffnebnkaa
open Go.RowKit Go.Shelf Go.Maps
/-- Rows of other types are as they were. -/
structure KT (w w' : World) : Prop where
  le : w.heap.size ≤ w'.heap.size
  kp : ∀ (b : Nat) (cur : Array Value) (ty : TypeId), w.heap[b]? = some (Obj.cells cur ty (0, 0)) → ty ≠ 33 → ty ≠ 57 → w'.heap[b]? = some (Obj.cells cur ty (0, 0))
theorem KT.refl (w : World) : KT w w := ⟨Nat.le_refl _, fun _ _ _ h _ _ => h⟩
theorem KT.trans {a b c : World} (h : KT a b) (h' : KT b c) : KT a c := ⟨Nat.le_trans h.le h'.le, fun x cur ty hx h1 h2 => h'.kp x cur ty (h.kp x cur ty hx h1 h2) h1 h2⟩
theorem KT.of_keep {a b : World} (k : Keep a b) : KT a b := ⟨k.le, fun x cur ty hx _ _ => (k.block x (Array.getElem?_eq_some_iff.1 hx).1).trans hx⟩
theorem KT.map {a b : World} {mb : Nat} (g : a.grownBy b (some mb)) (hm : ∃ es clock, a.heap[mb]? = some (.map es clock)) : KT a b :=
  ⟨g.size, fun x cur ty hx _ _ => (g.block x (Array.getElem?_eq_some_iff.1 hx).1 (by intro e; cases e; obtain ⟨es, clock, hm⟩ := hm; rw [hm] at hx; cases hx)).trans hx⟩
theorem KT.row {a b : World} {B : Nat} {v : Value} {K : List (Ct × Option Addr × Nat)} (g : a.grownBy b v.ownBlock) (h : OwnC B a v K) : KT a b :=
  ⟨g.size, fun x cur ty hx _ h57 => (g.block x (Array.getElem?_eq_some_iff.1 hx).1 (by
    intro e
    obtain ⟨-, c2, hc⟩ := h.block e.symm
    rw [hx] at hc
    simp at hc
    exact h57 hc.2)).trans hx⟩
theorem KT.set {a : World} {g q : Nat} {u : Value} {cur : Array Value} (hb : a.heap[g]? = some (Obj.cells cur 33 (0, 0))) : KT a (a.setCell ⟨g, q, none⟩ u) :=
  ⟨by simp, fun x cur' ty hx h33 _ => by
    rw [neq_set a g q u x ?_]
    · exact hx
    · intro e
      rw [e, hb] at hx
      simp at hx
      exact h33 hx.2.symm⟩
/-- Which of the cuts stand in a feature's rows. -/
def cnd (d : Nd) : Nat → Bool
  | 0 => d.kd == 2
  | 1 => !(d.kd == 2)
  | _ => d.ms == 2
def sel (S : List (Nd × Ct)) (φ : Int) (j : Nat) : List Ct := (S.filter fun s => s.1.ft == φ && cnd s.1 j).map (·.2)
theorem sel_snoc (S : List (Nd × Ct)) (d : Nd) (N : Ct) (φ : Int) (j : Nat) : sel (S ++ [(d, N)]) φ j = sel S φ j ++ (if d.ft = φ ∧ cnd d j = true then [N] else []) := by
  unfold sel
  rw [List.filter_append, List.map_append]
  congr 1
  by_cases h : d.ft = φ ∧ cnd d j = true
  · rw [if_pos h]; simp [h.1, h.2]
  · rw [if_neg h]
    simp only [List.filter_cons, List.filter_nil]
    rw [if_neg (by simpa using h)]
    rfl
theorem sel_none {S : List (Nd × Ct)} {φ : Int} (h : ∀ s ∈ S, s.1.ft ≠ φ) (j : Nat) : sel S φ j = [] := by
  unfold sel
  rw [List.filter_eq_nil_iff.2 (fun s hs => by simp [h s hs])]
  rfl
/-- What was gathered stands in the rows. -/
structure Con (X : GX) (S : List (Nd × Ct)) : Prop where
  con : ∀ i, i < X.n → ∀ j, j < 3 → (X.K i j).map (fun r => r.1) = sel S (X.f i) j
  mem : ∀ φ, (∃ s ∈ S, s.1.ft = φ) ↔ ∃ i, i < X.n ∧ X.f i = φ
theorem Con.nil : Con GX.nil [] := ⟨fun i hi => by simp [GX.nil] at hi, fun φ => by simp [GX.nil]⟩
theorem Con.len {X : GX} {S : List (Nd × Ct)} (h : Con X S) {i j : Nat} (hi : i < X.n) (hj : j < 3) : (X.K i j).length ≤ S.length := by
  have := congrArg List.length (h.con i hi j hj)
  rw [List.length_map] at this
  rw [this]; unfold sel
  rw [List.length_map]
  exact List.length_filter_le _ _
theorem Con.add {X X3 : GX} {S : List (Nd × Ct)} {d : Nd} {N : Ct} {i : Nat} (h : Con X S) (hi : i < X.n) (hf : X.f i = d.ft) (hu : ∀ i', i' < X.n → X.f i' = X.f i → i' = i) (e1 : X3.n = X.n) (e2 : X3.f = X.f)
    (e3 : ∀ i' j', i' < X.n → j' < 3 → (X3.K i' j').map (fun r => r.1) = (X.K i' j').map (fun r => r.1) ++ (if i' = i ∧ cnd d j' = true then [N] else [])) : Con X3 (S ++ [(d, N)]) := by
  refine ⟨?_, ?_⟩
  · intro i' hi' j hj
    rw [e1] at hi'
    rw [e3 i' j hi' hj, h.con i' hi' j hj, e2, sel_snoc]
    congr 1
    by_cases q : i' = i
    · subst q; simp [hf]
    · rw [if_neg (fun r => q r.1), if_neg (fun r => q (hu i' hi' (by rw [hf]; exact r.1.symm)))]
  · intro φ
    rw [e1, e2]
    constructor
    · rintro ⟨s, hs, r⟩
      rcases List.mem_append.1 hs with hs | hs
      · exact (h.mem φ).1 ⟨s, hs, r⟩
      · obtain rfl := List.mem_singleton.1 hs
        exact ⟨i, hi, by rw [hf]; exact r⟩
    · rintro ⟨i', hi', r⟩
      obtain ⟨s, hs, q⟩ := (h.mem φ).2 ⟨i', hi', r⟩
      exact ⟨s, by simp [hs], q⟩
/-- As above, where the feature is new. -/
theorem Con.new {X X3 : GX} {S : List (Nd × Ct)} {d : Nd} {N : Ct} (h : Con X S) (hn : ∀ i, i < X.n → X.f i ≠ d.ft) (e1 : X3.n = X.n + 1) (e2 : ∀ i, X3.f i = if i = X.n then d.ft else X.f i)
    (e3 : ∀ i' j', i' < X.n + 1 → j' < 3 → (X3.K i' j').map (fun r => r.1) = if i' = X.n then (if cnd d j' = true then [N] else []) else (X.K i' j').map (fun r => r.1)) : Con X3 (S ++ [(d, N)]) := by
  have hs : ∀ s ∈ S, s.1.ft ≠ d.ft := by
    intro s hs e
    obtain ⟨i, hi, r⟩ := (h.mem d.ft).1 ⟨s, hs, e⟩
    exact hn i hi r
  refine ⟨?_, ?_⟩
  · intro i' hi' j hj
    rw [e1] at hi'
    rw [e3 i' j hi' hj, e2, sel_snoc]
    by_cases q : i' = X.n
    · rw [if_pos q, if_pos q, sel_none hs]
      by_cases c : cnd d j = true <;> simp [c]
    · rw [if_neg q, if_neg q, h.con i' (by omega) j hj, if_neg (fun r => hn i' (by omega) r.1.symm)]
      simp
  · intro φ
    rw [e1]
    constructor
    · rintro ⟨s, hs', r⟩
      rcases List.mem_append.1 hs' with hs' | hs'
      · obtain ⟨i, hi, q⟩ := (h.mem φ).1 ⟨s, hs', r⟩
        exact ⟨i, by omega, by rw [e2, if_neg (by omega)]; exact q⟩
      · obtain rfl := List.mem_singleton.1 hs'
        exact ⟨X.n, by omega, by rw [e2, if_pos rfl]; exact r⟩
    · rintro ⟨i', hi', r⟩
      rw [e2] at r
      by_cases q : i' = X.n
      · rw [if_pos q] at r
        exact ⟨(d, N), by simp, r⟩
      · rw [if_neg q] at r
        obtain ⟨s, hs', q⟩ := (h.mem φ).2 ⟨i', by omega, r⟩
        exact ⟨s, by simp [hs'], q⟩
/-- A call as a step of a region. -/
theorem step_call {ops : Array Oper} {o : Oper} {a : Act} {K : Act → World → Prop} {Q : Exit → Act → World → Prop} {X : Prop} {w : World} (hgd : o.guard = none) {f : Nat} {vs : Array Value} (hrun : (execOp a.eval o).run Try.prog w = .ok (.enter f vs) w)
    {R : Ending → World → Prop} (hC : Calls Try.prog f vs w R) (hK : ∀ e w', R e w' → ∃ v, e = .returned v ∧ K (a.put o.dst v) w') :
    if Region.wanted o (yielded ops a.tmps) = true then Oper.wp Try.prog o a w K Q else X := by
  have hw : Region.wanted o (yielded ops a.tmps) = true := by simp [Region.wanted, hgd]
  rw [if_pos hw]
  unfold Oper.wp
  rw [hrun, Oper.upon_enter]
  refine hC.mono fun e w' hh => ?_
  obtain ⟨v, rfl, h⟩ := hK e w' hh
  exact h
/-- append(l, cut) as a step of a region. -/
theorem step_appC {ops : Array Oper} {o : Oper} {a : Act} {K : Act → World → Prop} {Q : Exit → Act → World → Prop} {X : Prop} {w : World} (B : Nat) (hgd : o.guard = none) (s x : Operand)
    (hop : o.op = .call { callee := .builtin .append, args := #[s, x], argTypes := #[31, 31] }) (l : List (Ct × Option Addr × Nat)) (y : Ct × Option Addr × Nat) (v : Value) (hs : a.eval s = v) (hown : OwnC B w v l) (hB : B ≤ w.heap.size) (ad : Addr) (c : Nat) (hx : a.eval x = .slice (some ad) 1 c)
    (hnews : ∀ j u, (UC [y])[j]? = some u → w.cell? (ad.add j) = some u) (hlen : l.length + 1 ≤ 1099511627776)
    (hK : ∀ v' w', OwnC B w' v' (l ++ [y]) → w.grownBy w' v.ownBlock → (v'.ownBlock = v.ownBlock ∨ v'.ownBlock = some w.heap.size) → K (a.put o.dst v') w') :
    if Region.wanted o (yielded ops a.tmps) = true then Oper.wp Try.prog o a w K Q else X := by
  have hw : Region.wanted o (yielded ops a.tmps) = true := by simp [Region.wanted, hgd]
  rw [if_pos hw]
  obtain ⟨v', w', hrun, r1, r2, r3⟩ := appC_sep B w o.type v l y hown hB ad c hnews hlen
  unfold Oper.wp
  simp [execOp, hop, resolve, invoke, builtin, hs, hx, hrun, Result.andThen]
  exact hK v' w' r1 r2 r3
theorem wpList_look {w : World} {ops : Array Oper} {rest : List Oper} {o : Oper} {a : Act} {Q : Exit → Act → World → Prop} (hg : o.guard = none) (m x : Operand) (hop : o.op = Op.lookup 74 m x false) (mb : Nat) (φ : Int) (hm : a.eval m = .map (some mb)) (hx : a.eval x = .int .i64 φ) (u : Value)
    (hrun : (Instr.lookup 74 (.map (some mb)) (.int .i64 φ) false).run Try.prog w = .ok u w) (hK : wpList Try.prog ops Q rest (a.put o.dst u) w) : wpList Try.prog ops Q (o :: rest) a w := by
  refine wpList_plain hg fun K' hK' => ?_
  unfold Oper.wp
  simp [execOp, hop, hm, hx, hrun, Result.andThen]
  exact hK' _ _ hK
/-- A cut as a row. -/
def Ct.cells (N : Ct) (ca : Option Addr) (cp : Nat) : Array Value := #[.float .f64 N.th, .slice ca N.cs.length cp, .int .i64 N.tr, .int .i64 N.fr, .int .i64 N.to]
/-- What stands while a cut is put where it belongs. -/
structure St (w0 w : World) (mb cb i : Nat) (N : Ct) (ca : Option Addr) (cp : Nat) (X : GX) (W : World) : Prop where
  G : GI w0.heap.size W mb X
  hi : i < X.n
  k0 : Keep w0 W
  kt : KT w W
  c : W.heap[cb]? = some (Obj.cells (N.cells ca cp) 57 (0, 0))
  ne : ∀ j, j < 3 → (X.v i j).ownBlock ≠ some cb
theorem St.keep {w0 w W W2 : World} {mb cb i : Nat} {N : Ct} {ca : Option Addr} {cp : Nat} {X : GX} (h : St w0 w mb cb i N ca cp X W) (k : Keep W W2) : St w0 w mb cb i N ca cp X W2 :=
  ⟨h.G.keep k, h.hi, Keep.trans h.k0 k, h.kt.trans (KT.of_keep k), (k.block _ (Array.getElem?_eq_some_iff.1 h.c).1).trans h.c, h.ne⟩
theorem St.cells {w0 w W : World} {mb cb i : Nat} {N : Ct} {ca : Option Addr} {cp : Nat} {X : GX} (h : St w0 w mb cb i N ca cp X W) :
    W.cell? ⟨cb, 0, none⟩ = some (.float .f64 N.th) ∧ W.cell? ⟨cb, 1, none⟩ = some (.slice ca N.cs.length cp) ∧ W.cell? ⟨cb, 2, none⟩ = some (.int .i64 N.tr) ∧ W.cell? ⟨cb, 3, none⟩ = some (.int .i64 N.fr) ∧ W.cell? ⟨cb, 4, none⟩ = some (.int .i64 N.to) :=
  ⟨by rw [cell_of_row W cb 0 _ 57 (0, 0) h.c]; rfl, by rw [cell_of_row W cb 1 _ 57 (0, 0) h.c]; rfl, by rw [cell_of_row W cb 2 _ 57 (0, 0) h.c]; rfl, by rw [cell_of_row W cb 3 _ 57 (0, 0) h.c]; rfl, by rw [cell_of_row W cb 4 _ 57 (0, 0) h.c]; rfl⟩
theorem St.at {w0 w W : World} {mb cb i : Nat} {N : Ct} {ca : Option Addr} {cp : Nat} {X : GX} (h : St w0 w mb cb i N ca cp X W) (j : Nat) (hj : j < 3) : W.cell? ⟨X.bx i, j + 1, none⟩ = some (X.v i j) ∧ W.frozen? ⟨X.bx i, j + 1, none⟩ = false := by
  have hb := (h.G.box i h.hi).2
  refine ⟨?_, frozen_of_row W _ (j + 1) _ 33 hb⟩
  rw [cell_of_row W _ (j + 1) _ 33 (0, 0) hb]
  rcases (by omega : j = 0 ∨ j = 1 ∨ j = 2) with rfl | rfl | rfl <;> rfl
theorem St.app {w0 w W W2 : World} {mb cb i : Nat} {M : Ct} {ma : Option Addr} {mp : Nat} {X : GX} (h : St w0 w mb cb i M ma mp X W) {j : Nat} (hj : j < 3) (kW : Keep W W2) {N : Ct} {va : Option Addr} {cc : Nat} (hs : N.cs.length ≤ 17592186044416)
    (hO : OwnZ 3 w0.heap.size W2 (.slice va N.cs.length cc) N.cs) {v' : Value} {w5 : World} (hO5 : OwnC w0.heap.size w5 v' (X.K i j ++ [(N, va, cc)])) (g5 : W2.grownBy w5 (X.v i j).ownBlock) (hv : v'.ownBlock = (X.v i j).ownBlock ∨ v'.ownBlock = some W2.heap.size) :
    St w0 w mb cb i M ma mp (X.app i j v' (N, va, cc)) (w5.setCell ⟨X.bx i, j + 1, none⟩ v') := by
  have h2 := h.keep kW
  have hbx := (h2.G.box i h2.hi)
  have hrow := h2.G.row i h2.hi j hj
  have hne : ∀ b cur, W2.heap[b]? = some (Obj.cells cur 33 (0, 0)) → some b ≠ (X.v i j).ownBlock := by
    intro b cur hb e
    obtain ⟨-, c2, hc⟩ := hrow.block e.symm
    rw [hb] at hc
    simp at hc
  have hb5 : w5.heap[X.bx i]? = some (Obj.cells #[.int .i64 (X.f i), X.v i 0, X.v i 1, X.v i 2] 33 (0, 0)) := by
    rw [g5.block _ (Array.getElem?_eq_some_iff.1 hbx.2).1 (hne _ _ hbx.2), hbx.2]
  have hcl := (Array.getElem?_eq_some_iff.1 h2.c).1
  refine ⟨h.G.app h.hi hj kW hs hO hO5 g5 hv, h.hi, ?_, (h2.kt.trans (KT.row g5 hrow)).trans (KT.set hb5), ?_, ?_⟩
  · have k5 : Keep w0 w5 := Below.grown h2.k0 g5 h2.k0.le (fun b hb => (hrow.block hb).1)
    exact k5.setCell hbx.1 _
  · rw [neq_set w5 _ _ _ cb (fun e => by rw [e] at h2; have := h2.c; rw [hbx.2] at this; simp at this), g5.block cb hcl (fun e => h.ne j hj e.symm), h2.c]
  · intro j' hj'
    simp only [GX.app]
    by_cases e : j' = j
    · subst e
      rw [if_pos ⟨trivial, rfl⟩]
      rcases hv with hv | hv
      · rw [hv]; exact h.ne j' hj
      · rw [hv]; intro q; cases q; omega
    · rw [if_neg (fun q => e q.2)]; exact h.ne j' hj'
end Go.Proofs.Ytaogjiffnebnkaa
