import Derived.Test.YtaogjiffnebnkaaWA
import Derived.Test.YtaogjiffnebnkaaR2
set_option linter.unusedVariables false
set_option linter.unusedSimpArgs false
namespace Go.Proofs.Ytaogjiffnebnkaa.Ow
open Go.RowKit Go.Shelf Go.Maps
attribute [local go_sem] run_store_float
set_option maxRecDepth 100000 in
set_option maxHeartbeats 2000000 in
theorem region6 {w0 w W : World} {mb cb i : Nat} {N : Ct} {ca : Option Addr} {cp : Nat} {X : GX} (hSt : St w0 w mb cb i N ca cp X W) (hr : RdI w0 ca N.cs) (hl : N.cs.length ≤ 17592186044416) (hc : N.cs.length ≤ cp) (hS : (X.K i 0).length + 1 ≤ 1099511627776) {Q : Exit → Act → World → Prop} (hP : ∀ (c : List PanicEntry) (a : Act) (d : Option Tmp) (v : Value) (w : World), Q (.panic c) (a.put d v) w → Q (.panic c) a w) (x0 x1 x2 x3 x4 x7 x8 x9 x10 x11 x12 x13 x14 x15 x16 x17 x18 x19 x20 x21 x22 x23 x24 x25 x26 x27 x28 x29 x30 x31 x32 x33 x34 x35 x36 x37 x38 x39 x40 x41 x42 x43 x44 x45 x46 x47 x48 x49 x50 x51 x52 x53 x54 x55 x56 x57 x58 x59 : Value) (ds : List Deferred)
    (hK : ∀ (u24 u25 u26 u27 u28 u29 u30 u31 u32 u33 u34 v' : Value) (va : Option Addr) (cc : Nat) (W2 : World), St w0 w mb cb i N ca cp (X.app i 0 v' (N, va, cc)) W2 → (CD X → CD (X.app i 0 v' (N, va, cc))) → Q .normal ⟨#[x0, x1, x2, x3, x4, (.pointer (some ⟨cb, 0, none⟩)), (.pointer (some ⟨X.bx i, 0, none⟩)), x7, x8, x9, x10, x11, x12, x13, x14, x15, x16, x17, x18, x19, x20, x21, x22, x23, u24, u25, u26, u27, u28, u29, u30, u31, u32, u33, u34, x35, x36, x37, x38, x39, x40, x41, x42, x43, x44, x45, x46, x47, x48, x49, x50, x51, x52, x53, x54, x55, x56, x57, x58, x59], ds⟩ W2) :
    (Code.region 6 #[{ dst := some 24, op := Op.move (Operand.tmp 6), type := 101, pos := "cuts.go:40", after := #[], guard := none }, { dst := some 25, op := Op.move (Operand.tmp 6), type := 101, pos := "cuts.go:40", after := #[], guard := none }, { dst := some 26, op := Op.nilCheck (Operand.tmp 25), type := 0, pos := "cuts.go:40", after := #[{ on := 1, ground := Ground.data }], guard := none }, { dst := some 27, op := Op.fieldAddr 33 (Operand.tmp 26) 1, type := 0, pos := "cuts.go:40", after := #[{ on := 2, ground := Ground.data }], guard := none }, { dst := some 28, op := Op.load 31 (Operand.tmp 27), type := 31, pos := "cuts.go:40", after := #[{ on := 3, ground := Ground.data }], guard := none }, { dst := some 29, op := Op.load 57 (Operand.tmp 5), type := 57, pos := "cuts.go:40", after := #[], guard := none }, { dst := some 30, op := Op.call { callee := Callee.value (Operand.func 43), args := #[Operand.tmp 29], argTypes := #[57] }, type := 57, pos := "cuts.go:40", after := #[{ on := 5, ground := Ground.data }], guard := none }, { dst := some 31, op := Op.buildSlice 31 1 #[(0, Operand.tmp 30)], type := 31, pos := "cuts.go:40", after := #[{ on := 6, ground := Ground.data }], guard := none }, { dst := some 32, op := Op.call { callee := Callee.builtin Builtin.append, args := #[Operand.tmp 28, Operand.tmp 31], argTypes := #[31, 31] }, type := 31, pos := "cuts.go:40", after := #[{ on := 4, ground := Ground.data }, { on := 7, ground := Ground.data }, { on := 6, ground := Ground.chain }], guard := none }, { dst := some 33, op := Op.nilCheck (Operand.tmp 24), type := 0, pos := "cuts.go:40", after := #[{ on := 0, ground := Ground.data }, { on := 0, ground := Ground.phase }, { on := 1, ground := Ground.phase }, { on := 2, ground := Ground.phase }, { on := 3, ground := Ground.phase }, { on := 4, ground := Ground.phase }, { on := 5, ground := Ground.phase }, { on := 6, ground := Ground.phase }, { on := 7, ground := Ground.phase }, { on := 8, ground := Ground.phase }], guard := none }, { dst := some 34, op := Op.fieldAddr 33 (Operand.tmp 33) 1, type := 0, pos := "cuts.go:40", after := #[{ on := 9, ground := Ground.data }, { on := 0, ground := Ground.phase }, { on := 1, ground := Ground.phase }, { on := 2, ground := Ground.phase }, { on := 3, ground := Ground.phase }, { on := 4, ground := Ground.phase }, { on := 5, ground := Ground.phase }, { on := 6, ground := Ground.phase }, { on := 7, ground := Ground.phase }, { on := 8, ground := Ground.phase }], guard := none }, { dst := none, op := Op.store 31 (Operand.tmp 34) (Operand.tmp 32), type := 0, pos := "cuts.go:40", after := #[{ on := 10, ground := Ground.data }, { on := 8, ground := Ground.data }, { on := 8, ground := Ground.chain }, { on := 0, ground := Ground.phase }, { on := 1, ground := Ground.phase }, { on := 2, ground := Ground.phase }, { on := 3, ground := Ground.phase }, { on := 4, ground := Ground.phase }, { on := 5, ground := Ground.phase }, { on := 6, ground := Ground.phase }, { on := 7, ground := Ground.phase }, { on := 8, ground := Ground.phase }], guard := none }] true).wp Try.prog Q ⟨#[x0, x1, x2, x3, x4, (.pointer (some ⟨cb, 0, none⟩)), (.pointer (some ⟨X.bx i, 0, none⟩)), x7, x8, x9, x10, x11, x12, x13, x14, x15, x16, x17, x18, x19, x20, x21, x22, x23, x24, x25, x26, x27, x28, x29, x30, x31, x32, x33, x34, x35, x36, x37, x38, x39, x40, x41, x42, x43, x44, x45, x46, x47, x48, x49, x50, x51, x52, x53, x54, x55, x56, x57, x58, x59], ds⟩ W := by
  have hd := hSt.keep ((Keep.refl W).drew)
  refine wp_region_held_drew (S := (fun wx => wx.cell? ⟨cb, 0, none⟩ = some (.float .f64 N.th) ∧ wx.cell? ⟨cb, 1, none⟩ = some (.slice ca N.cs.length cp) ∧ wx.cell? ⟨cb, 2, none⟩ = some (.int .i64 N.tr) ∧ wx.cell? ⟨cb, 3, none⟩ = some (.int .i64 N.fr) ∧ wx.cell? ⟨cb, 4, none⟩ = some (.int .i64 N.to))) (by kernel_rfl) hd.cells (fun hHeld => ?_)
  refine wpAnyH_take (i := 0) (oi := { dst := some 24, op := Op.move (Operand.tmp 6), type := 101, pos := "cuts.go:40", after := #[], guard := none }) (v := .pointer (some ⟨X.bx i, 0, none⟩)) rfl (by kernel_rfl) (by kernel_rfl) (by kernel_rfl) (fun _ _ _ h => hP _ _ _ _ _ h) (Or.inl ⟨by rfl, by (intro w hSw; (try dsimp only at hSw); go_simp; try with_reducible rfl)⟩) (by assumption) ?_
  try simp only [Act.put, List.setIfInBounds_toArray, List.set_cons_zero, List.set_cons_succ]
  refine wpAnyH_take (i := 1) (oi := { dst := some 25, op := Op.move (Operand.tmp 6), type := 101, pos := "cuts.go:40", after := #[], guard := none }) (v := .pointer (some ⟨X.bx i, 0, none⟩)) rfl (by kernel_rfl) (by kernel_rfl) (by kernel_rfl) (fun _ _ _ h => hP _ _ _ _ _ h) (Or.inl ⟨by rfl, by (intro w hSw; (try dsimp only at hSw); go_simp; try with_reducible rfl)⟩) (by assumption) ?_
  try simp only [Act.put, List.setIfInBounds_toArray, List.set_cons_zero, List.set_cons_succ]
  refine wpAnyH_take (i := 2) (oi := { dst := some 26, op := Op.nilCheck (Operand.tmp 25), type := 0, pos := "cuts.go:40", after := #[{ on := 1, ground := Ground.data }], guard := none }) (v := .pointer (some ⟨X.bx i, 0, none⟩)) rfl (by kernel_rfl) (by kernel_rfl) (by kernel_rfl) (fun _ _ _ h => hP _ _ _ _ _ h) (Or.inl ⟨by rfl, by (intro w hSw; (try dsimp only at hSw); go_simp; try with_reducible rfl)⟩) (by assumption) ?_
  try simp only [Act.put, List.setIfInBounds_toArray, List.set_cons_zero, List.set_cons_succ]
  refine wpAnyH_take (i := 3) (oi := { dst := some 27, op := Op.fieldAddr 33 (Operand.tmp 26) 1, type := 0, pos := "cuts.go:40", after := #[{ on := 2, ground := Ground.data }], guard := none }) (v := .pointer (some ⟨X.bx i, 1, none⟩)) rfl (by kernel_rfl) (by kernel_rfl) (by kernel_rfl) (fun _ _ _ h => hP _ _ _ _ _ h) (Or.inl ⟨by rfl, by (intro w hSw; (try dsimp only at hSw); go_simp; try with_reducible rfl)⟩) (by assumption) ?_
  try simp only [Act.put, List.setIfInBounds_toArray, List.set_cons_zero, List.set_cons_succ]
  refine wpAnyH_take (i := 5) (oi := { dst := some 29, op := Op.load 57 (Operand.tmp 5), type := 57, pos := "cuts.go:40", after := #[], guard := none }) (v := .agg #[.float .f64 N.th, .slice ca N.cs.length cp, .int .i64 N.tr, .int .i64 N.fr, .int .i64 N.to]) rfl (by kernel_rfl) (by kernel_rfl) (by kernel_rfl) (fun _ _ _ h => hP _ _ _ _ _ h) (Or.inl ⟨by rfl, by (intro w hSw; (try dsimp only at hSw); go_simp; try with_reducible rfl)⟩) (by assumption) ?_
  try simp only [Act.put, List.setIfInBounds_toArray, List.set_cons_zero, List.set_cons_succ]
  refine wpAnyH_ready (rs := [4, 6]) (by kernel_rfl) (by simp) ?_
  refine AllReadyH.cons (o := { dst := some 28, op := Op.load 31 (Operand.tmp 27), type := 31, pos := "cuts.go:40", after := #[{ on := 3, ground := Ground.data }], guard := none }) rfl (fun K hK => ?_) (AllReadyH.cons (o := { dst := some 30, op := Op.call { callee := Callee.value (Operand.func 43), args := #[Operand.tmp 29], argTypes := #[57] }, type := 57, pos := "cuts.go:40", after := #[{ on := 5, ground := Ground.data }], guard := none }) rfl (fun K hK => ?_) AllReadyH.nil)
  · have ld := (hd.at 0 (by omega)).1
    go_simp
    refine hK.out _ _ hd.cells (fun hHeld => ?_)
    clear hK K
    try simp only [Act.put, List.setIfInBounds_toArray, List.set_cons_zero, List.set_cons_succ]
    refine wpAnyH_ready (rs := [6]) (by kernel_rfl) (by simp) ?_
    refine AllReadyH.cons (o := { dst := some 30, op := Op.call { callee := Callee.value (Operand.func 43), args := #[Operand.tmp 29], argTypes := #[57] }, type := 57, pos := "cuts.go:40", after := #[{ on := 5, ground := Ground.data }], guard := none }) rfl (fun K hK => ?_) AllReadyH.nil
    refine step_call (vs := #[N.v ca cp]) rfl (by kernel_rfl) (copyOf_any N ca cp _ (hr.keep hd.k0) hl hc) ?_
    rintro e w2 ⟨va, cc, rfl, hO, hcc, k2⟩
    refine ⟨_, rfl, ?_⟩
    have h2 := hd.keep k2
    refine hK.out _ _ h2.cells (fun hHeld => ?_)
    clear hK K
    try simp only [Act.put, List.setIfInBounds_toArray, List.set_cons_zero, List.set_cons_succ]
    refine wpAnyH_ready (rs := [7]) (by kernel_rfl) (by simp) ?_
    refine AllReadyH.cons (o := { dst := some 31, op := Op.buildSlice 31 1 #[(0, Operand.tmp 30)], type := 31, pos := "cuts.go:40", after := #[{ on := 6, ground := Ground.data }], guard := none }) rfl (fun K hK => ?_) AllReadyH.nil
    unfold Ct.v
    go_simp
    have k3 : Keep w2 (w2.alloc (Obj.cells #[.float .f64 N.th, .slice va N.cs.length cc, .int .i64 N.tr, .int .i64 N.fr, .int .i64 N.to] 57)) := (Keep.refl w2).alloc _
    have h3 := h2.keep k3
    refine hK.out _ _ h3.cells (fun hHeld => ?_)
    clear hK K
    try simp only [Act.put, List.setIfInBounds_toArray, List.set_cons_zero, List.set_cons_succ]
    refine wpAnyH_ready (rs := [8]) (by kernel_rfl) (by simp) ?_
    refine AllReadyH.cons (o := { dst := some 32, op := Op.call { callee := Callee.builtin Builtin.append, args := #[Operand.tmp 28, Operand.tmp 31], argTypes := #[31, 31] }, type := 31, pos := "cuts.go:40", after := #[{ on := 4, ground := Ground.data }, { on := 7, ground := Ground.data }, { on := 6, ground := Ground.chain }], guard := none }) rfl (fun K hK => ?_) AllReadyH.nil
    refine step_appC w0.heap.size rfl _ _ rfl (X.K i 0) (N, va, cc) (X.v i 0) rfl (h3.G.row i h3.hi 0 (by omega)) h3.k0.le ⟨w2.heap.size, 0, none⟩ 1 rfl (newsC _ _ rfl N va cc) hS ?_
    intro v5 w5 hO5 g5 hv5
    obtain ⟨a5, cc5, e5v, -, -⟩ := hO5.shape
    generalize (X.K i 0 ++ [(N, va, cc)]).length = m5 at e5v
    subst e5v
    have h6 := hd.app (j := 0) (by omega) (k2.trans k3) hl ((hO.mono hd.k0.le).keep k3) hO5 g5 hv5
    have h6c := fun (hcd : CD X) (v9 : Value) => CD.app hd hcd (j := 0) (by omega) hO v9
    have hb5 : w5.heap[X.bx i]? = some (Obj.cells #[.int .i64 (X.f i), X.v i 0, X.v i 1, X.v i 2] 33 (0, 0)) := by rw [g5.block _ (Array.getElem?_eq_some_iff.1 (h3.G.box i h3.hi).2).1 ?_, (h3.G.box i h3.hi).2]; intro e; obtain ⟨-, c2, hc2⟩ := (h3.G.row i h3.hi 0 (by omega)).block e.symm; rw [(h3.G.box i h3.hi).2] at hc2; simp at hc2
    have h5 : w5.heap[cb]? = some (Obj.cells (N.cells ca cp) 57 (0, 0)) := by rw [g5.block cb (Array.getElem?_eq_some_iff.1 h3.c).1 (fun e => h3.ne 0 (by omega) e.symm), h3.c]
    refine hK.out _ _ ⟨by rw [cell_of_row w5 cb 0 _ 57 (0, 0) h5]; rfl, by rw [cell_of_row w5 cb 1 _ 57 (0, 0) h5]; rfl, by rw [cell_of_row w5 cb 2 _ 57 (0, 0) h5]; rfl, by rw [cell_of_row w5 cb 3 _ 57 (0, 0) h5]; rfl, by rw [cell_of_row w5 cb 4 _ 57 (0, 0) h5]; rfl⟩ (fun hHeld => ?_)
    clear hK K
    try simp only [Act.put, List.setIfInBounds_toArray, List.set_cons_zero, List.set_cons_succ]
    refine wpAnyH_take (i := 9) (oi := { dst := some 33, op := Op.nilCheck (Operand.tmp 24), type := 0, pos := "cuts.go:40", after := #[{ on := 0, ground := Ground.data }, { on := 0, ground := Ground.phase }, { on := 1, ground := Ground.phase }, { on := 2, ground := Ground.phase }, { on := 3, ground := Ground.phase }, { on := 4, ground := Ground.phase }, { on := 5, ground := Ground.phase }, { on := 6, ground := Ground.phase }, { on := 7, ground := Ground.phase }, { on := 8, ground := Ground.phase }], guard := none }) (v := .pointer (some ⟨X.bx i, 0, none⟩)) rfl (by kernel_rfl) (by kernel_rfl) (by kernel_rfl) (fun _ _ _ h => hP _ _ _ _ _ h) (Or.inl ⟨by rfl, by (intro w hSw; (try dsimp only at hSw); go_simp; try with_reducible rfl)⟩) (by assumption) ?_
    try simp only [Act.put, List.setIfInBounds_toArray, List.set_cons_zero, List.set_cons_succ]
    refine wpAnyH_take (i := 10) (oi := { dst := some 34, op := Op.fieldAddr 33 (Operand.tmp 33) 1, type := 0, pos := "cuts.go:40", after := #[{ on := 9, ground := Ground.data }, { on := 0, ground := Ground.phase }, { on := 1, ground := Ground.phase }, { on := 2, ground := Ground.phase }, { on := 3, ground := Ground.phase }, { on := 4, ground := Ground.phase }, { on := 5, ground := Ground.phase }, { on := 6, ground := Ground.phase }, { on := 7, ground := Ground.phase }, { on := 8, ground := Ground.phase }], guard := none }) (v := .pointer (some ⟨X.bx i, 1, none⟩)) rfl (by kernel_rfl) (by kernel_rfl) (by kernel_rfl) (fun _ _ _ h => hP _ _ _ _ _ h) (Or.inl ⟨by rfl, by (intro w hSw; (try dsimp only at hSw); go_simp; try with_reducible rfl)⟩) (by assumption) ?_
    try simp only [Act.put, List.setIfInBounds_toArray, List.set_cons_zero, List.set_cons_succ]
    refine wpAnyH_ready (rs := [11]) (by kernel_rfl) (by simp) ?_
    refine AllReadyH.cons (o := { dst := none, op := Op.store 31 (Operand.tmp 34) (Operand.tmp 32), type := 0, pos := "cuts.go:40", after := #[{ on := 10, ground := Ground.data }, { on := 8, ground := Ground.data }, { on := 8, ground := Ground.chain }, { on := 0, ground := Ground.phase }, { on := 1, ground := Ground.phase }, { on := 2, ground := Ground.phase }, { on := 3, ground := Ground.phase }, { on := 4, ground := Ground.phase }, { on := 5, ground := Ground.phase }, { on := 6, ground := Ground.phase }, { on := 7, ground := Ground.phase }, { on := 8, ground := Ground.phase }], guard := none }) rfl (fun K hK => ?_) AllReadyH.nil
    have e5 := cell_of_row w5 _ 1 _ 33 (0, 0) hb5
    have f5 := frozen_of_row w5 _ 1 _ 33 hb5
    simp at e5
    go_simp
    refine hK.out _ _ h6.cells (fun hHeld => ?_)
    clear hK K
    try simp only [Act.put, List.setIfInBounds_toArray, List.set_cons_zero, List.set_cons_succ]
    refine wpAnyH_done (by kernel_rfl) ?_ _
    exact hK _ _ _ _ _ _ _ _ _ _ _ _ _ _ _ h6 (fun hcd => h6c hcd _)
  · refine step_call (vs := #[N.v ca cp]) rfl (by kernel_rfl) (copyOf_any N ca cp _ (hr.keep hd.k0) hl hc) ?_
    rintro e w2 ⟨va, cc, rfl, hO, hcc, k2⟩
    refine ⟨_, rfl, ?_⟩
    have h2 := hd.keep k2
    refine hK.out _ _ h2.cells (fun hHeld => ?_)
    clear hK K
    try simp only [Act.put, List.setIfInBounds_toArray, List.set_cons_zero, List.set_cons_succ]
    refine wpAnyH_ready (rs := [4, 7]) (by kernel_rfl) (by simp) ?_
    refine AllReadyH.cons (o := { dst := some 28, op := Op.load 31 (Operand.tmp 27), type := 31, pos := "cuts.go:40", after := #[{ on := 3, ground := Ground.data }], guard := none }) rfl (fun K hK => ?_) (AllReadyH.cons (o := { dst := some 31, op := Op.buildSlice 31 1 #[(0, Operand.tmp 30)], type := 31, pos := "cuts.go:40", after := #[{ on := 6, ground := Ground.data }], guard := none }) rfl (fun K hK => ?_) AllReadyH.nil)
    · have ld := (h2.at 0 (by omega)).1
      go_simp
      refine hK.out _ _ h2.cells (fun hHeld => ?_)
      clear hK K
      try simp only [Act.put, List.setIfInBounds_toArray, List.set_cons_zero, List.set_cons_succ]
      refine wpAnyH_ready (rs := [7]) (by kernel_rfl) (by simp) ?_
      refine AllReadyH.cons (o := { dst := some 31, op := Op.buildSlice 31 1 #[(0, Operand.tmp 30)], type := 31, pos := "cuts.go:40", after := #[{ on := 6, ground := Ground.data }], guard := none }) rfl (fun K hK => ?_) AllReadyH.nil
      unfold Ct.v
      go_simp
      have k3 : Keep w2 (w2.alloc (Obj.cells #[.float .f64 N.th, .slice va N.cs.length cc, .int .i64 N.tr, .int .i64 N.fr, .int .i64 N.to] 57)) := (Keep.refl w2).alloc _
      have h3 := h2.keep k3
      refine hK.out _ _ h3.cells (fun hHeld => ?_)
      clear hK K
      try simp only [Act.put, List.setIfInBounds_toArray, List.set_cons_zero, List.set_cons_succ]
      refine wpAnyH_ready (rs := [8]) (by kernel_rfl) (by simp) ?_
      refine AllReadyH.cons (o := { dst := some 32, op := Op.call { callee := Callee.builtin Builtin.append, args := #[Operand.tmp 28, Operand.tmp 31], argTypes := #[31, 31] }, type := 31, pos := "cuts.go:40", after := #[{ on := 4, ground := Ground.data }, { on := 7, ground := Ground.data }, { on := 6, ground := Ground.chain }], guard := none }) rfl (fun K hK => ?_) AllReadyH.nil
      refine step_appC w0.heap.size rfl _ _ rfl (X.K i 0) (N, va, cc) (X.v i 0) rfl (h3.G.row i h3.hi 0 (by omega)) h3.k0.le ⟨w2.heap.size, 0, none⟩ 1 rfl (newsC _ _ rfl N va cc) hS ?_
      intro v5 w5 hO5 g5 hv5
      obtain ⟨a5, cc5, e5v, -, -⟩ := hO5.shape
      generalize (X.K i 0 ++ [(N, va, cc)]).length = m5 at e5v
      subst e5v
      have h6 := hd.app (j := 0) (by omega) (k2.trans k3) hl ((hO.mono hd.k0.le).keep k3) hO5 g5 hv5
      have h6c := fun (hcd : CD X) (v9 : Value) => CD.app hd hcd (j := 0) (by omega) hO v9
      have hb5 : w5.heap[X.bx i]? = some (Obj.cells #[.int .i64 (X.f i), X.v i 0, X.v i 1, X.v i 2] 33 (0, 0)) := by rw [g5.block _ (Array.getElem?_eq_some_iff.1 (h3.G.box i h3.hi).2).1 ?_, (h3.G.box i h3.hi).2]; intro e; obtain ⟨-, c2, hc2⟩ := (h3.G.row i h3.hi 0 (by omega)).block e.symm; rw [(h3.G.box i h3.hi).2] at hc2; simp at hc2
      have h5 : w5.heap[cb]? = some (Obj.cells (N.cells ca cp) 57 (0, 0)) := by rw [g5.block cb (Array.getElem?_eq_some_iff.1 h3.c).1 (fun e => h3.ne 0 (by omega) e.symm), h3.c]
      refine hK.out _ _ ⟨by rw [cell_of_row w5 cb 0 _ 57 (0, 0) h5]; rfl, by rw [cell_of_row w5 cb 1 _ 57 (0, 0) h5]; rfl, by rw [cell_of_row w5 cb 2 _ 57 (0, 0) h5]; rfl, by rw [cell_of_row w5 cb 3 _ 57 (0, 0) h5]; rfl, by rw [cell_of_row w5 cb 4 _ 57 (0, 0) h5]; rfl⟩ (fun hHeld => ?_)
      clear hK K
      try simp only [Act.put, List.setIfInBounds_toArray, List.set_cons_zero, List.set_cons_succ]
      refine wpAnyH_take (i := 9) (oi := { dst := some 33, op := Op.nilCheck (Operand.tmp 24), type := 0, pos := "cuts.go:40", after := #[{ on := 0, ground := Ground.data }, { on := 0, ground := Ground.phase }, { on := 1, ground := Ground.phase }, { on := 2, ground := Ground.phase }, { on := 3, ground := Ground.phase }, { on := 4, ground := Ground.phase }, { on := 5, ground := Ground.phase }, { on := 6, ground := Ground.phase }, { on := 7, ground := Ground.phase }, { on := 8, ground := Ground.phase }], guard := none }) (v := .pointer (some ⟨X.bx i, 0, none⟩)) rfl (by kernel_rfl) (by kernel_rfl) (by kernel_rfl) (fun _ _ _ h => hP _ _ _ _ _ h) (Or.inl ⟨by rfl, by (intro w hSw; (try dsimp only at hSw); go_simp; try with_reducible rfl)⟩) (by assumption) ?_
      try simp only [Act.put, List.setIfInBounds_toArray, List.set_cons_zero, List.set_cons_succ]
      refine wpAnyH_take (i := 10) (oi := { dst := some 34, op := Op.fieldAddr 33 (Operand.tmp 33) 1, type := 0, pos := "cuts.go:40", after := #[{ on := 9, ground := Ground.data }, { on := 0, ground := Ground.phase }, { on := 1, ground := Ground.phase }, { on := 2, ground := Ground.phase }, { on := 3, ground := Ground.phase }, { on := 4, ground := Ground.phase }, { on := 5, ground := Ground.phase }, { on := 6, ground := Ground.phase }, { on := 7, ground := Ground.phase }, { on := 8, ground := Ground.phase }], guard := none }) (v := .pointer (some ⟨X.bx i, 1, none⟩)) rfl (by kernel_rfl) (by kernel_rfl) (by kernel_rfl) (fun _ _ _ h => hP _ _ _ _ _ h) (Or.inl ⟨by rfl, by (intro w hSw; (try dsimp only at hSw); go_simp; try with_reducible rfl)⟩) (by assumption) ?_
      try simp only [Act.put, List.setIfInBounds_toArray, List.set_cons_zero, List.set_cons_succ]
      refine wpAnyH_ready (rs := [11]) (by kernel_rfl) (by simp) ?_
      refine AllReadyH.cons (o := { dst := none, op := Op.store 31 (Operand.tmp 34) (Operand.tmp 32), type := 0, pos := "cuts.go:40", after := #[{ on := 10, ground := Ground.data }, { on := 8, ground := Ground.data }, { on := 8, ground := Ground.chain }, { on := 0, ground := Ground.phase }, { on := 1, ground := Ground.phase }, { on := 2, ground := Ground.phase }, { on := 3, ground := Ground.phase }, { on := 4, ground := Ground.phase }, { on := 5, ground := Ground.phase }, { on := 6, ground := Ground.phase }, { on := 7, ground := Ground.phase }, { on := 8, ground := Ground.phase }], guard := none }) rfl (fun K hK => ?_) AllReadyH.nil
      have e5 := cell_of_row w5 _ 1 _ 33 (0, 0) hb5
      have f5 := frozen_of_row w5 _ 1 _ 33 hb5
      simp at e5
      go_simp
      refine hK.out _ _ h6.cells (fun hHeld => ?_)
      clear hK K
      try simp only [Act.put, List.setIfInBounds_toArray, List.set_cons_zero, List.set_cons_succ]
      refine wpAnyH_done (by kernel_rfl) ?_ _
      exact hK _ _ _ _ _ _ _ _ _ _ _ _ _ _ _ h6 (fun hcd => h6c hcd _)
    · unfold Ct.v
      go_simp
      have k3 : Keep w2 (w2.alloc (Obj.cells #[.float .f64 N.th, .slice va N.cs.length cc, .int .i64 N.tr, .int .i64 N.fr, .int .i64 N.to] 57)) := (Keep.refl w2).alloc _
      have h3 := h2.keep k3
      refine hK.out _ _ h3.cells (fun hHeld => ?_)
      clear hK K
      try simp only [Act.put, List.setIfInBounds_toArray, List.set_cons_zero, List.set_cons_succ]
      refine wpAnyH_ready (rs := [4]) (by kernel_rfl) (by simp) ?_
      refine AllReadyH.cons (o := { dst := some 28, op := Op.load 31 (Operand.tmp 27), type := 31, pos := "cuts.go:40", after := #[{ on := 3, ground := Ground.data }], guard := none }) rfl (fun K hK => ?_) AllReadyH.nil
      have ld := (h3.at 0 (by omega)).1
      go_simp
      refine hK.out _ _ h3.cells (fun hHeld => ?_)
      clear hK K
      try simp only [Act.put, List.setIfInBounds_toArray, List.set_cons_zero, List.set_cons_succ]
      refine wpAnyH_ready (rs := [8]) (by kernel_rfl) (by simp) ?_
      refine AllReadyH.cons (o := { dst := some 32, op := Op.call { callee := Callee.builtin Builtin.append, args := #[Operand.tmp 28, Operand.tmp 31], argTypes := #[31, 31] }, type := 31, pos := "cuts.go:40", after := #[{ on := 4, ground := Ground.data }, { on := 7, ground := Ground.data }, { on := 6, ground := Ground.chain }], guard := none }) rfl (fun K hK => ?_) AllReadyH.nil
      refine step_appC w0.heap.size rfl _ _ rfl (X.K i 0) (N, va, cc) (X.v i 0) rfl (h3.G.row i h3.hi 0 (by omega)) h3.k0.le ⟨w2.heap.size, 0, none⟩ 1 rfl (newsC _ _ rfl N va cc) hS ?_
      intro v5 w5 hO5 g5 hv5
      obtain ⟨a5, cc5, e5v, -, -⟩ := hO5.shape
      generalize (X.K i 0 ++ [(N, va, cc)]).length = m5 at e5v
      subst e5v
      have h6 := hd.app (j := 0) (by omega) (k2.trans k3) hl ((hO.mono hd.k0.le).keep k3) hO5 g5 hv5
      have h6c := fun (hcd : CD X) (v9 : Value) => CD.app hd hcd (j := 0) (by omega) hO v9
      have hb5 : w5.heap[X.bx i]? = some (Obj.cells #[.int .i64 (X.f i), X.v i 0, X.v i 1, X.v i 2] 33 (0, 0)) := by rw [g5.block _ (Array.getElem?_eq_some_iff.1 (h3.G.box i h3.hi).2).1 ?_, (h3.G.box i h3.hi).2]; intro e; obtain ⟨-, c2, hc2⟩ := (h3.G.row i h3.hi 0 (by omega)).block e.symm; rw [(h3.G.box i h3.hi).2] at hc2; simp at hc2
      have h5 : w5.heap[cb]? = some (Obj.cells (N.cells ca cp) 57 (0, 0)) := by rw [g5.block cb (Array.getElem?_eq_some_iff.1 h3.c).1 (fun e => h3.ne 0 (by omega) e.symm), h3.c]
      refine hK.out _ _ ⟨by rw [cell_of_row w5 cb 0 _ 57 (0, 0) h5]; rfl, by rw [cell_of_row w5 cb 1 _ 57 (0, 0) h5]; rfl, by rw [cell_of_row w5 cb 2 _ 57 (0, 0) h5]; rfl, by rw [cell_of_row w5 cb 3 _ 57 (0, 0) h5]; rfl, by rw [cell_of_row w5 cb 4 _ 57 (0, 0) h5]; rfl⟩ (fun hHeld => ?_)
      clear hK K
      try simp only [Act.put, List.setIfInBounds_toArray, List.set_cons_zero, List.set_cons_succ]
      refine wpAnyH_take (i := 9) (oi := { dst := some 33, op := Op.nilCheck (Operand.tmp 24), type := 0, pos := "cuts.go:40", after := #[{ on := 0, ground := Ground.data }, { on := 0, ground := Ground.phase }, { on := 1, ground := Ground.phase }, { on := 2, ground := Ground.phase }, { on := 3, ground := Ground.phase }, { on := 4, ground := Ground.phase }, { on := 5, ground := Ground.phase }, { on := 6, ground := Ground.phase }, { on := 7, ground := Ground.phase }, { on := 8, ground := Ground.phase }], guard := none }) (v := .pointer (some ⟨X.bx i, 0, none⟩)) rfl (by kernel_rfl) (by kernel_rfl) (by kernel_rfl) (fun _ _ _ h => hP _ _ _ _ _ h) (Or.inl ⟨by rfl, by (intro w hSw; (try dsimp only at hSw); go_simp; try with_reducible rfl)⟩) (by assumption) ?_
      try simp only [Act.put, List.setIfInBounds_toArray, List.set_cons_zero, List.set_cons_succ]
      refine wpAnyH_take (i := 10) (oi := { dst := some 34, op := Op.fieldAddr 33 (Operand.tmp 33) 1, type := 0, pos := "cuts.go:40", after := #[{ on := 9, ground := Ground.data }, { on := 0, ground := Ground.phase }, { on := 1, ground := Ground.phase }, { on := 2, ground := Ground.phase }, { on := 3, ground := Ground.phase }, { on := 4, ground := Ground.phase }, { on := 5, ground := Ground.phase }, { on := 6, ground := Ground.phase }, { on := 7, ground := Ground.phase }, { on := 8, ground := Ground.phase }], guard := none }) (v := .pointer (some ⟨X.bx i, 1, none⟩)) rfl (by kernel_rfl) (by kernel_rfl) (by kernel_rfl) (fun _ _ _ h => hP _ _ _ _ _ h) (Or.inl ⟨by rfl, by (intro w hSw; (try dsimp only at hSw); go_simp; try with_reducible rfl)⟩) (by assumption) ?_
      try simp only [Act.put, List.setIfInBounds_toArray, List.set_cons_zero, List.set_cons_succ]
      refine wpAnyH_ready (rs := [11]) (by kernel_rfl) (by simp) ?_
      refine AllReadyH.cons (o := { dst := none, op := Op.store 31 (Operand.tmp 34) (Operand.tmp 32), type := 0, pos := "cuts.go:40", after := #[{ on := 10, ground := Ground.data }, { on := 8, ground := Ground.data }, { on := 8, ground := Ground.chain }, { on := 0, ground := Ground.phase }, { on := 1, ground := Ground.phase }, { on := 2, ground := Ground.phase }, { on := 3, ground := Ground.phase }, { on := 4, ground := Ground.phase }, { on := 5, ground := Ground.phase }, { on := 6, ground := Ground.phase }, { on := 7, ground := Ground.phase }, { on := 8, ground := Ground.phase }], guard := none }) rfl (fun K hK => ?_) AllReadyH.nil
      have e5 := cell_of_row w5 _ 1 _ 33 (0, 0) hb5
      have f5 := frozen_of_row w5 _ 1 _ 33 hb5
      simp at e5
      go_simp
      refine hK.out _ _ h6.cells (fun hHeld => ?_)
      clear hK K
      try simp only [Act.put, List.setIfInBounds_toArray, List.set_cons_zero, List.set_cons_succ]
      refine wpAnyH_done (by kernel_rfl) ?_ _
      exact hK _ _ _ _ _ _ _ _ _ _ _ _ _ _ _ h6 (fun hcd => h6c hcd _)
end Go.Proofs.Ytaogjiffnebnkaa.Ow
set_option linter.unusedVariables false
set_option linter.unusedSimpArgs false
namespace Go.Proofs.Ytaogjiffnebnkaa.Ow
open Go.RowKit Go.Shelf Go.Maps
attribute [local go_sem] run_store_float
set_option maxRecDepth 100000 in
set_option maxHeartbeats 2000000 in
theorem region7 {w0 w W : World} {mb cb i : Nat} {N : Ct} {ca : Option Addr} {cp : Nat} {X : GX} (hSt : St w0 w mb cb i N ca cp X W) (hr : RdI w0 ca N.cs) (hl : N.cs.length ≤ 17592186044416) (hc : N.cs.length ≤ cp) (hS : (X.K i 1).length + 1 ≤ 1099511627776) {Q : Exit → Act → World → Prop} (hP : ∀ (c : List PanicEntry) (a : Act) (d : Option Tmp) (v : Value) (w : World), Q (.panic c) (a.put d v) w → Q (.panic c) a w) (x0 x1 x2 x3 x4 x7 x8 x9 x10 x11 x12 x13 x14 x15 x16 x17 x18 x19 x20 x21 x22 x23 x24 x25 x26 x27 x28 x29 x30 x31 x32 x33 x34 x35 x36 x37 x38 x39 x40 x41 x42 x43 x44 x45 x46 x47 x48 x49 x50 x51 x52 x53 x54 x55 x56 x57 x58 x59 : Value) (ds : List Deferred)
    (hK : ∀ (u35 u36 u37 u38 u39 u40 u41 u42 u43 u44 u45 v' : Value) (va : Option Addr) (cc : Nat) (W2 : World), St w0 w mb cb i N ca cp (X.app i 1 v' (N, va, cc)) W2 → (CD X → CD (X.app i 1 v' (N, va, cc))) → Q .normal ⟨#[x0, x1, x2, x3, x4, (.pointer (some ⟨cb, 0, none⟩)), (.pointer (some ⟨X.bx i, 0, none⟩)), x7, x8, x9, x10, x11, x12, x13, x14, x15, x16, x17, x18, x19, x20, x21, x22, x23, x24, x25, x26, x27, x28, x29, x30, x31, x32, x33, x34, u35, u36, u37, u38, u39, u40, u41, u42, u43, u44, u45, x46, x47, x48, x49, x50, x51, x52, x53, x54, x55, x56, x57, x58, x59], ds⟩ W2) :
    (Code.region 7 #[{ dst := some 35, op := Op.move (Operand.tmp 6), type := 101, pos := "cuts.go:42", after := #[], guard := none }, { dst := some 36, op := Op.move (Operand.tmp 6), type := 101, pos := "cuts.go:42", after := #[], guard := none }, { dst := some 37, op := Op.nilCheck (Operand.tmp 36), type := 0, pos := "cuts.go:42", after := #[{ on := 1, ground := Ground.data }], guard := none }, { dst := some 38, op := Op.fieldAddr 33 (Operand.tmp 37) 2, type := 0, pos := "cuts.go:42", after := #[{ on := 2, ground := Ground.data }], guard := none }, { dst := some 39, op := Op.load 31 (Operand.tmp 38), type := 31, pos := "cuts.go:42", after := #[{ on := 3, ground := Ground.data }], guard := none }, { dst := some 40, op := Op.load 57 (Operand.tmp 5), type := 57, pos := "cuts.go:42", after := #[], guard := none }, { dst := some 41, op := Op.call { callee := Callee.value (Operand.func 43), args := #[Operand.tmp 40], argTypes := #[57] }, type := 57, pos := "cuts.go:42", after := #[{ on := 5, ground := Ground.data }], guard := none }, { dst := some 42, op := Op.buildSlice 31 1 #[(0, Operand.tmp 41)], type := 31, pos := "cuts.go:42", after := #[{ on := 6, ground := Ground.data }], guard := none }, { dst := some 43, op := Op.call { callee := Callee.builtin Builtin.append, args := #[Operand.tmp 39, Operand.tmp 42], argTypes := #[31, 31] }, type := 31, pos := "cuts.go:42", after := #[{ on := 4, ground := Ground.data }, { on := 7, ground := Ground.data }, { on := 6, ground := Ground.chain }], guard := none }, { dst := some 44, op := Op.nilCheck (Operand.tmp 35), type := 0, pos := "cuts.go:42", after := #[{ on := 0, ground := Ground.data }, { on := 0, ground := Ground.phase }, { on := 1, ground := Ground.phase }, { on := 2, ground := Ground.phase }, { on := 3, ground := Ground.phase }, { on := 4, ground := Ground.phase }, { on := 5, ground := Ground.phase }, { on := 6, ground := Ground.phase }, { on := 7, ground := Ground.phase }, { on := 8, ground := Ground.phase }], guard := none }, { dst := some 45, op := Op.fieldAddr 33 (Operand.tmp 44) 2, type := 0, pos := "cuts.go:42", after := #[{ on := 9, ground := Ground.data }, { on := 0, ground := Ground.phase }, { on := 1, ground := Ground.phase }, { on := 2, ground := Ground.phase }, { on := 3, ground := Ground.phase }, { on := 4, ground := Ground.phase }, { on := 5, ground := Ground.phase }, { on := 6, ground := Ground.phase }, { on := 7, ground := Ground.phase }, { on := 8, ground := Ground.phase }], guard := none }, { dst := none, op := Op.store 31 (Operand.tmp 45) (Operand.tmp 43), type := 0, pos := "cuts.go:42", after := #[{ on := 10, ground := Ground.data }, { on := 8, ground := Ground.data }, { on := 8, ground := Ground.chain }, { on := 0, ground := Ground.phase }, { on := 1, ground := Ground.phase }, { on := 2, ground := Ground.phase }, { on := 3, ground := Ground.phase }, { on := 4, ground := Ground.phase }, { on := 5, ground := Ground.phase }, { on := 6, ground := Ground.phase }, { on := 7, ground := Ground.phase }, { on := 8, ground := Ground.phase }], guard := none }] true).wp Try.prog Q ⟨#[x0, x1, x2, x3, x4, (.pointer (some ⟨cb, 0, none⟩)), (.pointer (some ⟨X.bx i, 0, none⟩)), x7, x8, x9, x10, x11, x12, x13, x14, x15, x16, x17, x18, x19, x20, x21, x22, x23, x24, x25, x26, x27, x28, x29, x30, x31, x32, x33, x34, x35, x36, x37, x38, x39, x40, x41, x42, x43, x44, x45, x46, x47, x48, x49, x50, x51, x52, x53, x54, x55, x56, x57, x58, x59], ds⟩ W := by
  have hd := hSt.keep ((Keep.refl W).drew)
  refine wp_region_held_drew (S := (fun wx => wx.cell? ⟨cb, 0, none⟩ = some (.float .f64 N.th) ∧ wx.cell? ⟨cb, 1, none⟩ = some (.slice ca N.cs.length cp) ∧ wx.cell? ⟨cb, 2, none⟩ = some (.int .i64 N.tr) ∧ wx.cell? ⟨cb, 3, none⟩ = some (.int .i64 N.fr) ∧ wx.cell? ⟨cb, 4, none⟩ = some (.int .i64 N.to))) (by kernel_rfl) hd.cells (fun hHeld => ?_)
  refine wpAnyH_take (i := 0) (oi := { dst := some 35, op := Op.move (Operand.tmp 6), type := 101, pos := "cuts.go:42", after := #[], guard := none }) (v := .pointer (some ⟨X.bx i, 0, none⟩)) rfl (by kernel_rfl) (by kernel_rfl) (by kernel_rfl) (fun _ _ _ h => hP _ _ _ _ _ h) (Or.inl ⟨by rfl, by (intro w hSw; (try dsimp only at hSw); go_simp; try with_reducible rfl)⟩) (by assumption) ?_
  try simp only [Act.put, List.setIfInBounds_toArray, List.set_cons_zero, List.set_cons_succ]
  refine wpAnyH_take (i := 1) (oi := { dst := some 36, op := Op.move (Operand.tmp 6), type := 101, pos := "cuts.go:42", after := #[], guard := none }) (v := .pointer (some ⟨X.bx i, 0, none⟩)) rfl (by kernel_rfl) (by kernel_rfl) (by kernel_rfl) (fun _ _ _ h => hP _ _ _ _ _ h) (Or.inl ⟨by rfl, by (intro w hSw; (try dsimp only at hSw); go_simp; try with_reducible rfl)⟩) (by assumption) ?_
  try simp only [Act.put, List.setIfInBounds_toArray, List.set_cons_zero, List.set_cons_succ]
  refine wpAnyH_take (i := 2) (oi := { dst := some 37, op := Op.nilCheck (Operand.tmp 36), type := 0, pos := "cuts.go:42", after := #[{ on := 1, ground := Ground.data }], guard := none }) (v := .pointer (some ⟨X.bx i, 0, none⟩)) rfl (by kernel_rfl) (by kernel_rfl) (by kernel_rfl) (fun _ _ _ h => hP _ _ _ _ _ h) (Or.inl ⟨by rfl, by (intro w hSw; (try dsimp only at hSw); go_simp; try with_reducible rfl)⟩) (by assumption) ?_
  try simp only [Act.put, List.setIfInBounds_toArray, List.set_cons_zero, List.set_cons_succ]
  refine wpAnyH_take (i := 3) (oi := { dst := some 38, op := Op.fieldAddr 33 (Operand.tmp 37) 2, type := 0, pos := "cuts.go:42", after := #[{ on := 2, ground := Ground.data }], guard := none }) (v := .pointer (some ⟨X.bx i, 2, none⟩)) rfl (by kernel_rfl) (by kernel_rfl) (by kernel_rfl) (fun _ _ _ h => hP _ _ _ _ _ h) (Or.inl ⟨by rfl, by (intro w hSw; (try dsimp only at hSw); go_simp; try with_reducible rfl)⟩) (by assumption) ?_
  try simp only [Act.put, List.setIfInBounds_toArray, List.set_cons_zero, List.set_cons_succ]
  refine wpAnyH_take (i := 5) (oi := { dst := some 40, op := Op.load 57 (Operand.tmp 5), type := 57, pos := "cuts.go:42", after := #[], guard := none }) (v := .agg #[.float .f64 N.th, .slice ca N.cs.length cp, .int .i64 N.tr, .int .i64 N.fr, .int .i64 N.to]) rfl (by kernel_rfl) (by kernel_rfl) (by kernel_rfl) (fun _ _ _ h => hP _ _ _ _ _ h) (Or.inl ⟨by rfl, by (intro w hSw; (try dsimp only at hSw); go_simp; try with_reducible rfl)⟩) (by assumption) ?_
  try simp only [Act.put, List.setIfInBounds_toArray, List.set_cons_zero, List.set_cons_succ]
  refine wpAnyH_ready (rs := [4, 6]) (by kernel_rfl) (by simp) ?_
  refine AllReadyH.cons (o := { dst := some 39, op := Op.load 31 (Operand.tmp 38), type := 31, pos := "cuts.go:42", after := #[{ on := 3, ground := Ground.data }], guard := none }) rfl (fun K hK => ?_) (AllReadyH.cons (o := { dst := some 41, op := Op.call { callee := Callee.value (Operand.func 43), args := #[Operand.tmp 40], argTypes := #[57] }, type := 57, pos := "cuts.go:42", after := #[{ on := 5, ground := Ground.data }], guard := none }) rfl (fun K hK => ?_) AllReadyH.nil)
  · have ld := (hd.at 1 (by omega)).1
    go_simp
    refine hK.out _ _ hd.cells (fun hHeld => ?_)
    clear hK K
    try simp only [Act.put, List.setIfInBounds_toArray, List.set_cons_zero, List.set_cons_succ]
    refine wpAnyH_ready (rs := [6]) (by kernel_rfl) (by simp) ?_
    refine AllReadyH.cons (o := { dst := some 41, op := Op.call { callee := Callee.value (Operand.func 43), args := #[Operand.tmp 40], argTypes := #[57] }, type := 57, pos := "cuts.go:42", after := #[{ on := 5, ground := Ground.data }], guard := none }) rfl (fun K hK => ?_) AllReadyH.nil
    refine step_call (vs := #[N.v ca cp]) rfl (by kernel_rfl) (copyOf_any N ca cp _ (hr.keep hd.k0) hl hc) ?_
    rintro e w2 ⟨va, cc, rfl, hO, hcc, k2⟩
    refine ⟨_, rfl, ?_⟩
    have h2 := hd.keep k2
    refine hK.out _ _ h2.cells (fun hHeld => ?_)
    clear hK K
    try simp only [Act.put, List.setIfInBounds_toArray, List.set_cons_zero, List.set_cons_succ]
    refine wpAnyH_ready (rs := [7]) (by kernel_rfl) (by simp) ?_
    refine AllReadyH.cons (o := { dst := some 42, op := Op.buildSlice 31 1 #[(0, Operand.tmp 41)], type := 31, pos := "cuts.go:42", after := #[{ on := 6, ground := Ground.data }], guard := none }) rfl (fun K hK => ?_) AllReadyH.nil
    unfold Ct.v
    go_simp
    have k3 : Keep w2 (w2.alloc (Obj.cells #[.float .f64 N.th, .slice va N.cs.length cc, .int .i64 N.tr, .int .i64 N.fr, .int .i64 N.to] 57)) := (Keep.refl w2).alloc _
    have h3 := h2.keep k3
    refine hK.out _ _ h3.cells (fun hHeld => ?_)
    clear hK K
    try simp only [Act.put, List.setIfInBounds_toArray, List.set_cons_zero, List.set_cons_succ]
    refine wpAnyH_ready (rs := [8]) (by kernel_rfl) (by simp) ?_
    refine AllReadyH.cons (o := { dst := some 43, op := Op.call { callee := Callee.builtin Builtin.append, args := #[Operand.tmp 39, Operand.tmp 42], argTypes := #[31, 31] }, type := 31, pos := "cuts.go:42", after := #[{ on := 4, ground := Ground.data }, { on := 7, ground := Ground.data }, { on := 6, ground := Ground.chain }], guard := none }) rfl (fun K hK => ?_) AllReadyH.nil
    refine step_appC w0.heap.size rfl _ _ rfl (X.K i 1) (N, va, cc) (X.v i 1) rfl (h3.G.row i h3.hi 1 (by omega)) h3.k0.le ⟨w2.heap.size, 0, none⟩ 1 rfl (newsC _ _ rfl N va cc) hS ?_
    intro v5 w5 hO5 g5 hv5
    obtain ⟨a5, cc5, e5v, -, -⟩ := hO5.shape
    generalize (X.K i 1 ++ [(N, va, cc)]).length = m5 at e5v
    subst e5v
    have h6 := hd.app (j := 1) (by omega) (k2.trans k3) hl ((hO.mono hd.k0.le).keep k3) hO5 g5 hv5
    have h6c := fun (hcd : CD X) (v9 : Value) => CD.app hd hcd (j := 1) (by omega) hO v9
    have hb5 : w5.heap[X.bx i]? = some (Obj.cells #[.int .i64 (X.f i), X.v i 0, X.v i 1, X.v i 2] 33 (0, 0)) := by rw [g5.block _ (Array.getElem?_eq_some_iff.1 (h3.G.box i h3.hi).2).1 ?_, (h3.G.box i h3.hi).2]; intro e; obtain ⟨-, c2, hc2⟩ := (h3.G.row i h3.hi 1 (by omega)).block e.symm; rw [(h3.G.box i h3.hi).2] at hc2; simp at hc2
    have h5 : w5.heap[cb]? = some (Obj.cells (N.cells ca cp) 57 (0, 0)) := by rw [g5.block cb (Array.getElem?_eq_some_iff.1 h3.c).1 (fun e => h3.ne 1 (by omega) e.symm), h3.c]
    refine hK.out _ _ ⟨by rw [cell_of_row w5 cb 0 _ 57 (0, 0) h5]; rfl, by rw [cell_of_row w5 cb 1 _ 57 (0, 0) h5]; rfl, by rw [cell_of_row w5 cb 2 _ 57 (0, 0) h5]; rfl, by rw [cell_of_row w5 cb 3 _ 57 (0, 0) h5]; rfl, by rw [cell_of_row w5 cb 4 _ 57 (0, 0) h5]; rfl⟩ (fun hHeld => ?_)
    clear hK K
    try simp only [Act.put, List.setIfInBounds_toArray, List.set_cons_zero, List.set_cons_succ]
    refine wpAnyH_take (i := 9) (oi := { dst := some 44, op := Op.nilCheck (Operand.tmp 35), type := 0, pos := "cuts.go:42", after := #[{ on := 0, ground := Ground.data }, { on := 0, ground := Ground.phase }, { on := 1, ground := Ground.phase }, { on := 2, ground := Ground.phase }, { on := 3, ground := Ground.phase }, { on := 4, ground := Ground.phase }, { on := 5, ground := Ground.phase }, { on := 6, ground := Ground.phase }, { on := 7, ground := Ground.phase }, { on := 8, ground := Ground.phase }], guard := none }) (v := .pointer (some ⟨X.bx i, 0, none⟩)) rfl (by kernel_rfl) (by kernel_rfl) (by kernel_rfl) (fun _ _ _ h => hP _ _ _ _ _ h) (Or.inl ⟨by rfl, by (intro w hSw; (try dsimp only at hSw); go_simp; try with_reducible rfl)⟩) (by assumption) ?_
    try simp only [Act.put, List.setIfInBounds_toArray, List.set_cons_zero, List.set_cons_succ]
    refine wpAnyH_take (i := 10) (oi := { dst := some 45, op := Op.fieldAddr 33 (Operand.tmp 44) 2, type := 0, pos := "cuts.go:42", after := #[{ on := 9, ground := Ground.data }, { on := 0, ground := Ground.phase }, { on := 1, ground := Ground.phase }, { on := 2, ground := Ground.phase }, { on := 3, ground := Ground.phase }, { on := 4, ground := Ground.phase }, { on := 5, ground := Ground.phase }, { on := 6, ground := Ground.phase }, { on := 7, ground := Ground.phase }, { on := 8, ground := Ground.phase }], guard := none }) (v := .pointer (some ⟨X.bx i, 2, none⟩)) rfl (by kernel_rfl) (by kernel_rfl) (by kernel_rfl) (fun _ _ _ h => hP _ _ _ _ _ h) (Or.inl ⟨by rfl, by (intro w hSw; (try dsimp only at hSw); go_simp; try with_reducible rfl)⟩) (by assumption) ?_
    try simp only [Act.put, List.setIfInBounds_toArray, List.set_cons_zero, List.set_cons_succ]
    refine wpAnyH_ready (rs := [11]) (by kernel_rfl) (by simp) ?_
    refine AllReadyH.cons (o := { dst := none, op := Op.store 31 (Operand.tmp 45) (Operand.tmp 43), type := 0, pos := "cuts.go:42", after := #[{ on := 10, ground := Ground.data }, { on := 8, ground := Ground.data }, { on := 8, ground := Ground.chain }, { on := 0, ground := Ground.phase }, { on := 1, ground := Ground.phase }, { on := 2, ground := Ground.phase }, { on := 3, ground := Ground.phase }, { on := 4, ground := Ground.phase }, { on := 5, ground := Ground.phase }, { on := 6, ground := Ground.phase }, { on := 7, ground := Ground.phase }, { on := 8, ground := Ground.phase }], guard := none }) rfl (fun K hK => ?_) AllReadyH.nil
    have e5 := cell_of_row w5 _ 2 _ 33 (0, 0) hb5
    have f5 := frozen_of_row w5 _ 2 _ 33 hb5
    simp at e5
    go_simp
    refine hK.out _ _ h6.cells (fun hHeld => ?_)
    clear hK K
    try simp only [Act.put, List.setIfInBounds_toArray, List.set_cons_zero, List.set_cons_succ]
    refine wpAnyH_done (by kernel_rfl) ?_ _
    exact hK _ _ _ _ _ _ _ _ _ _ _ _ _ _ _ h6 (fun hcd => h6c hcd _)
  · refine step_call (vs := #[N.v ca cp]) rfl (by kernel_rfl) (copyOf_any N ca cp _ (hr.keep hd.k0) hl hc) ?_
    rintro e w2 ⟨va, cc, rfl, hO, hcc, k2⟩
    refine ⟨_, rfl, ?_⟩
    have h2 := hd.keep k2
    refine hK.out _ _ h2.cells (fun hHeld => ?_)
    clear hK K
    try simp only [Act.put, List.setIfInBounds_toArray, List.set_cons_zero, List.set_cons_succ]
    refine wpAnyH_ready (rs := [4, 7]) (by kernel_rfl) (by simp) ?_
    refine AllReadyH.cons (o := { dst := some 39, op := Op.load 31 (Operand.tmp 38), type := 31, pos := "cuts.go:42", after := #[{ on := 3, ground := Ground.data }], guard := none }) rfl (fun K hK => ?_) (AllReadyH.cons (o := { dst := some 42, op := Op.buildSlice 31 1 #[(0, Operand.tmp 41)], type := 31, pos := "cuts.go:42", after := #[{ on := 6, ground := Ground.data }], guard := none }) rfl (fun K hK => ?_) AllReadyH.nil)
    · have ld := (h2.at 1 (by omega)).1
      go_simp
      refine hK.out _ _ h2.cells (fun hHeld => ?_)
      clear hK K
      try simp only [Act.put, List.setIfInBounds_toArray, List.set_cons_zero, List.set_cons_succ]
      refine wpAnyH_ready (rs := [7]) (by kernel_rfl) (by simp) ?_
      refine AllReadyH.cons (o := { dst := some 42, op := Op.buildSlice 31 1 #[(0, Operand.tmp 41)], type := 31, pos := "cuts.go:42", after := #[{ on := 6, ground := Ground.data }], guard := none }) rfl (fun K hK => ?_) AllReadyH.nil
      unfold Ct.v
      go_simp
      have k3 : Keep w2 (w2.alloc (Obj.cells #[.float .f64 N.th, .slice va N.cs.length cc, .int .i64 N.tr, .int .i64 N.fr, .int .i64 N.to] 57)) := (Keep.refl w2).alloc _
      have h3 := h2.keep k3
      refine hK.out _ _ h3.cells (fun hHeld => ?_)
      clear hK K
      try simp only [Act.put, List.setIfInBounds_toArray, List.set_cons_zero, List.set_cons_succ]
      refine wpAnyH_ready (rs := [8]) (by kernel_rfl) (by simp) ?_
      refine AllReadyH.cons (o := { dst := some 43, op := Op.call { callee := Callee.builtin Builtin.append, args := #[Operand.tmp 39, Operand.tmp 42], argTypes := #[31, 31] }, type := 31, pos := "cuts.go:42", after := #[{ on := 4, ground := Ground.data }, { on := 7, ground := Ground.data }, { on := 6, ground := Ground.chain }], guard := none }) rfl (fun K hK => ?_) AllReadyH.nil
      refine step_appC w0.heap.size rfl _ _ rfl (X.K i 1) (N, va, cc) (X.v i 1) rfl (h3.G.row i h3.hi 1 (by omega)) h3.k0.le ⟨w2.heap.size, 0, none⟩ 1 rfl (newsC _ _ rfl N va cc) hS ?_
      intro v5 w5 hO5 g5 hv5
      obtain ⟨a5, cc5, e5v, -, -⟩ := hO5.shape
      generalize (X.K i 1 ++ [(N, va, cc)]).length = m5 at e5v
      subst e5v
      have h6 := hd.app (j := 1) (by omega) (k2.trans k3) hl ((hO.mono hd.k0.le).keep k3) hO5 g5 hv5
      have h6c := fun (hcd : CD X) (v9 : Value) => CD.app hd hcd (j := 1) (by omega) hO v9
      have hb5 : w5.heap[X.bx i]? = some (Obj.cells #[.int .i64 (X.f i), X.v i 0, X.v i 1, X.v i 2] 33 (0, 0)) := by rw [g5.block _ (Array.getElem?_eq_some_iff.1 (h3.G.box i h3.hi).2).1 ?_, (h3.G.box i h3.hi).2]; intro e; obtain ⟨-, c2, hc2⟩ := (h3.G.row i h3.hi 1 (by omega)).block e.symm; rw [(h3.G.box i h3.hi).2] at hc2; simp at hc2
      have h5 : w5.heap[cb]? = some (Obj.cells (N.cells ca cp) 57 (0, 0)) := by rw [g5.block cb (Array.getElem?_eq_some_iff.1 h3.c).1 (fun e => h3.ne 1 (by omega) e.symm), h3.c]
      refine hK.out _ _ ⟨by rw [cell_of_row w5 cb 0 _ 57 (0, 0) h5]; rfl, by rw [cell_of_row w5 cb 1 _ 57 (0, 0) h5]; rfl, by rw [cell_of_row w5 cb 2 _ 57 (0, 0) h5]; rfl, by rw [cell_of_row w5 cb 3 _ 57 (0, 0) h5]; rfl, by rw [cell_of_row w5 cb 4 _ 57 (0, 0) h5]; rfl⟩ (fun hHeld => ?_)
      clear hK K
      try simp only [Act.put, List.setIfInBounds_toArray, List.set_cons_zero, List.set_cons_succ]
      refine wpAnyH_take (i := 9) (oi := { dst := some 44, op := Op.nilCheck (Operand.tmp 35), type := 0, pos := "cuts.go:42", after := #[{ on := 0, ground := Ground.data }, { on := 0, ground := Ground.phase }, { on := 1, ground := Ground.phase }, { on := 2, ground := Ground.phase }, { on := 3, ground := Ground.phase }, { on := 4, ground := Ground.phase }, { on := 5, ground := Ground.phase }, { on := 6, ground := Ground.phase }, { on := 7, ground := Ground.phase }, { on := 8, ground := Ground.phase }], guard := none }) (v := .pointer (some ⟨X.bx i, 0, none⟩)) rfl (by kernel_rfl) (by kernel_rfl) (by kernel_rfl) (fun _ _ _ h => hP _ _ _ _ _ h) (Or.inl ⟨by rfl, by (intro w hSw; (try dsimp only at hSw); go_simp; try with_reducible rfl)⟩) (by assumption) ?_
      try simp only [Act.put, List.setIfInBounds_toArray, List.set_cons_zero, List.set_cons_succ]
      refine wpAnyH_take (i := 10) (oi := { dst := some 45, op := Op.fieldAddr 33 (Operand.tmp 44) 2, type := 0, pos := "cuts.go:42", after := #[{ on := 9, ground := Ground.data }, { on := 0, ground := Ground.phase }, { on := 1, ground := Ground.phase }, { on := 2, ground := Ground.phase }, { on := 3, ground := Ground.phase }, { on := 4, ground := Ground.phase }, { on := 5, ground := Ground.phase }, { on := 6, ground := Ground.phase }, { on := 7, ground := Ground.phase }, { on := 8, ground := Ground.phase }], guard := none }) (v := .pointer (some ⟨X.bx i, 2, none⟩)) rfl (by kernel_rfl) (by kernel_rfl) (by kernel_rfl) (fun _ _ _ h => hP _ _ _ _ _ h) (Or.inl ⟨by rfl, by (intro w hSw; (try dsimp only at hSw); go_simp; try with_reducible rfl)⟩) (by assumption) ?_
      try simp only [Act.put, List.setIfInBounds_toArray, List.set_cons_zero, List.set_cons_succ]
      refine wpAnyH_ready (rs := [11]) (by kernel_rfl) (by simp) ?_
      refine AllReadyH.cons (o := { dst := none, op := Op.store 31 (Operand.tmp 45) (Operand.tmp 43), type := 0, pos := "cuts.go:42", after := #[{ on := 10, ground := Ground.data }, { on := 8, ground := Ground.data }, { on := 8, ground := Ground.chain }, { on := 0, ground := Ground.phase }, { on := 1, ground := Ground.phase }, { on := 2, ground := Ground.phase }, { on := 3, ground := Ground.phase }, { on := 4, ground := Ground.phase }, { on := 5, ground := Ground.phase }, { on := 6, ground := Ground.phase }, { on := 7, ground := Ground.phase }, { on := 8, ground := Ground.phase }], guard := none }) rfl (fun K hK => ?_) AllReadyH.nil
      have e5 := cell_of_row w5 _ 2 _ 33 (0, 0) hb5
      have f5 := frozen_of_row w5 _ 2 _ 33 hb5
      simp at e5
      go_simp
      refine hK.out _ _ h6.cells (fun hHeld => ?_)
      clear hK K
      try simp only [Act.put, List.setIfInBounds_toArray, List.set_cons_zero, List.set_cons_succ]
      refine wpAnyH_done (by kernel_rfl) ?_ _
      exact hK _ _ _ _ _ _ _ _ _ _ _ _ _ _ _ h6 (fun hcd => h6c hcd _)
    · unfold Ct.v
      go_simp
      have k3 : Keep w2 (w2.alloc (Obj.cells #[.float .f64 N.th, .slice va N.cs.length cc, .int .i64 N.tr, .int .i64 N.fr, .int .i64 N.to] 57)) := (Keep.refl w2).alloc _
      have h3 := h2.keep k3
      refine hK.out _ _ h3.cells (fun hHeld => ?_)
      clear hK K
      try simp only [Act.put, List.setIfInBounds_toArray, List.set_cons_zero, List.set_cons_succ]
      refine wpAnyH_ready (rs := [4]) (by kernel_rfl) (by simp) ?_
      refine AllReadyH.cons (o := { dst := some 39, op := Op.load 31 (Operand.tmp 38), type := 31, pos := "cuts.go:42", after := #[{ on := 3, ground := Ground.data }], guard := none }) rfl (fun K hK => ?_) AllReadyH.nil
      have ld := (h3.at 1 (by omega)).1
      go_simp
      refine hK.out _ _ h3.cells (fun hHeld => ?_)
      clear hK K
      try simp only [Act.put, List.setIfInBounds_toArray, List.set_cons_zero, List.set_cons_succ]
      refine wpAnyH_ready (rs := [8]) (by kernel_rfl) (by simp) ?_
      refine AllReadyH.cons (o := { dst := some 43, op := Op.call { callee := Callee.builtin Builtin.append, args := #[Operand.tmp 39, Operand.tmp 42], argTypes := #[31, 31] }, type := 31, pos := "cuts.go:42", after := #[{ on := 4, ground := Ground.data }, { on := 7, ground := Ground.data }, { on := 6, ground := Ground.chain }], guard := none }) rfl (fun K hK => ?_) AllReadyH.nil
      refine step_appC w0.heap.size rfl _ _ rfl (X.K i 1) (N, va, cc) (X.v i 1) rfl (h3.G.row i h3.hi 1 (by omega)) h3.k0.le ⟨w2.heap.size, 0, none⟩ 1 rfl (newsC _ _ rfl N va cc) hS ?_
      intro v5 w5 hO5 g5 hv5
      obtain ⟨a5, cc5, e5v, -, -⟩ := hO5.shape
      generalize (X.K i 1 ++ [(N, va, cc)]).length = m5 at e5v
      subst e5v
      have h6 := hd.app (j := 1) (by omega) (k2.trans k3) hl ((hO.mono hd.k0.le).keep k3) hO5 g5 hv5
      have h6c := fun (hcd : CD X) (v9 : Value) => CD.app hd hcd (j := 1) (by omega) hO v9
      have hb5 : w5.heap[X.bx i]? = some (Obj.cells #[.int .i64 (X.f i), X.v i 0, X.v i 1, X.v i 2] 33 (0, 0)) := by rw [g5.block _ (Array.getElem?_eq_some_iff.1 (h3.G.box i h3.hi).2).1 ?_, (h3.G.box i h3.hi).2]; intro e; obtain ⟨-, c2, hc2⟩ := (h3.G.row i h3.hi 1 (by omega)).block e.symm; rw [(h3.G.box i h3.hi).2] at hc2; simp at hc2
      have h5 : w5.heap[cb]? = some (Obj.cells (N.cells ca cp) 57 (0, 0)) := by rw [g5.block cb (Array.getElem?_eq_some_iff.1 h3.c).1 (fun e => h3.ne 1 (by omega) e.symm), h3.c]
      refine hK.out _ _ ⟨by rw [cell_of_row w5 cb 0 _ 57 (0, 0) h5]; rfl, by rw [cell_of_row w5 cb 1 _ 57 (0, 0) h5]; rfl, by rw [cell_of_row w5 cb 2 _ 57 (0, 0) h5]; rfl, by rw [cell_of_row w5 cb 3 _ 57 (0, 0) h5]; rfl, by rw [cell_of_row w5 cb 4 _ 57 (0, 0) h5]; rfl⟩ (fun hHeld => ?_)
      clear hK K
      try simp only [Act.put, List.setIfInBounds_toArray, List.set_cons_zero, List.set_cons_succ]
      refine wpAnyH_take (i := 9) (oi := { dst := some 44, op := Op.nilCheck (Operand.tmp 35), type := 0, pos := "cuts.go:42", after := #[{ on := 0, ground := Ground.data }, { on := 0, ground := Ground.phase }, { on := 1, ground := Ground.phase }, { on := 2, ground := Ground.phase }, { on := 3, ground := Ground.phase }, { on := 4, ground := Ground.phase }, { on := 5, ground := Ground.phase }, { on := 6, ground := Ground.phase }, { on := 7, ground := Ground.phase }, { on := 8, ground := Ground.phase }], guard := none }) (v := .pointer (some ⟨X.bx i, 0, none⟩)) rfl (by kernel_rfl) (by kernel_rfl) (by kernel_rfl) (fun _ _ _ h => hP _ _ _ _ _ h) (Or.inl ⟨by rfl, by (intro w hSw; (try dsimp only at hSw); go_simp; try with_reducible rfl)⟩) (by assumption) ?_
      try simp only [Act.put, List.setIfInBounds_toArray, List.set_cons_zero, List.set_cons_succ]
      refine wpAnyH_take (i := 10) (oi := { dst := some 45, op := Op.fieldAddr 33 (Operand.tmp 44) 2, type := 0, pos := "cuts.go:42", after := #[{ on := 9, ground := Ground.data }, { on := 0, ground := Ground.phase }, { on := 1, ground := Ground.phase }, { on := 2, ground := Ground.phase }, { on := 3, ground := Ground.phase }, { on := 4, ground := Ground.phase }, { on := 5, ground := Ground.phase }, { on := 6, ground := Ground.phase }, { on := 7, ground := Ground.phase }, { on := 8, ground := Ground.phase }], guard := none }) (v := .pointer (some ⟨X.bx i, 2, none⟩)) rfl (by kernel_rfl) (by kernel_rfl) (by kernel_rfl) (fun _ _ _ h => hP _ _ _ _ _ h) (Or.inl ⟨by rfl, by (intro w hSw; (try dsimp only at hSw); go_simp; try with_reducible rfl)⟩) (by assumption) ?_
      try simp only [Act.put, List.setIfInBounds_toArray, List.set_cons_zero, List.set_cons_succ]
      refine wpAnyH_ready (rs := [11]) (by kernel_rfl) (by simp) ?_
      refine AllReadyH.cons (o := { dst := none, op := Op.store 31 (Operand.tmp 45) (Operand.tmp 43), type := 0, pos := "cuts.go:42", after := #[{ on := 10, ground := Ground.data }, { on := 8, ground := Ground.data }, { on := 8, ground := Ground.chain }, { on := 0, ground := Ground.phase }, { on := 1, ground := Ground.phase }, { on := 2, ground := Ground.phase }, { on := 3, ground := Ground.phase }, { on := 4, ground := Ground.phase }, { on := 5, ground := Ground.phase }, { on := 6, ground := Ground.phase }, { on := 7, ground := Ground.phase }, { on := 8, ground := Ground.phase }], guard := none }) rfl (fun K hK => ?_) AllReadyH.nil
      have e5 := cell_of_row w5 _ 2 _ 33 (0, 0) hb5
      have f5 := frozen_of_row w5 _ 2 _ 33 hb5
      simp at e5
      go_simp
      refine hK.out _ _ h6.cells (fun hHeld => ?_)
      clear hK K
      try simp only [Act.put, List.setIfInBounds_toArray, List.set_cons_zero, List.set_cons_succ]
      refine wpAnyH_done (by kernel_rfl) ?_ _
      exact hK _ _ _ _ _ _ _ _ _ _ _ _ _ _ _ h6 (fun hcd => h6c hcd _)
end Go.Proofs.Ytaogjiffnebnkaa.Ow
set_option linter.unusedVariables false
set_option linter.unusedSimpArgs false
namespace Go.Proofs.Ytaogjiffnebnkaa.Ow
open Go.RowKit Go.Shelf Go.Maps
attribute [local go_sem] run_store_float
set_option maxRecDepth 100000 in
set_option maxHeartbeats 2000000 in
theorem region9 {w0 w W : World} {mb cb i : Nat} {N : Ct} {ca : Option Addr} {cp : Nat} {X : GX} (hSt : St w0 w mb cb i N ca cp X W) (hr : RdI w0 ca N.cs) (hl : N.cs.length ≤ 17592186044416) (hc : N.cs.length ≤ cp) (hS : (X.K i 2).length + 1 ≤ 1099511627776) {Q : Exit → Act → World → Prop} (hP : ∀ (c : List PanicEntry) (a : Act) (d : Option Tmp) (v : Value) (w : World), Q (.panic c) (a.put d v) w → Q (.panic c) a w) (x0 x1 x2 x3 x4 x7 x8 x9 x10 x11 x12 x13 x14 x15 x16 x17 x18 x19 x20 x21 x22 x23 x24 x25 x26 x27 x28 x29 x30 x31 x32 x33 x34 x35 x36 x37 x38 x39 x40 x41 x42 x43 x44 x45 x46 x47 x48 x49 x50 x51 x52 x53 x54 x55 x56 x57 x58 x59 : Value) (ds : List Deferred)
    (hK : ∀ (u49 u50 u51 u52 u53 u54 u55 u56 u57 u58 u59 v' : Value) (va : Option Addr) (cc : Nat) (W2 : World), St w0 w mb cb i N ca cp (X.app i 2 v' (N, va, cc)) W2 → (CD X → CD (X.app i 2 v' (N, va, cc))) → Q .normal ⟨#[x0, x1, x2, x3, x4, (.pointer (some ⟨cb, 0, none⟩)), (.pointer (some ⟨X.bx i, 0, none⟩)), x7, x8, x9, x10, x11, x12, x13, x14, x15, x16, x17, x18, x19, x20, x21, x22, x23, x24, x25, x26, x27, x28, x29, x30, x31, x32, x33, x34, x35, x36, x37, x38, x39, x40, x41, x42, x43, x44, x45, x46, x47, x48, u49, u50, u51, u52, u53, u54, u55, u56, u57, u58, u59], ds⟩ W2) :
    (Code.region 9 #[{ dst := some 49, op := Op.move (Operand.tmp 6), type := 101, pos := "cuts.go:45", after := #[], guard := none }, { dst := some 50, op := Op.move (Operand.tmp 6), type := 101, pos := "cuts.go:45", after := #[], guard := none }, { dst := some 51, op := Op.nilCheck (Operand.tmp 50), type := 0, pos := "cuts.go:45", after := #[{ on := 1, ground := Ground.data }], guard := none }, { dst := some 52, op := Op.fieldAddr 33 (Operand.tmp 51) 3, type := 0, pos := "cuts.go:45", after := #[{ on := 2, ground := Ground.data }], guard := none }, { dst := some 53, op := Op.load 31 (Operand.tmp 52), type := 31, pos := "cuts.go:45", after := #[{ on := 3, ground := Ground.data }], guard := none }, { dst := some 54, op := Op.load 57 (Operand.tmp 5), type := 57, pos := "cuts.go:45", after := #[], guard := none }, { dst := some 55, op := Op.call { callee := Callee.value (Operand.func 43), args := #[Operand.tmp 54], argTypes := #[57] }, type := 57, pos := "cuts.go:45", after := #[{ on := 5, ground := Ground.data }], guard := none }, { dst := some 56, op := Op.buildSlice 31 1 #[(0, Operand.tmp 55)], type := 31, pos := "cuts.go:45", after := #[{ on := 6, ground := Ground.data }], guard := none }, { dst := some 57, op := Op.call { callee := Callee.builtin Builtin.append, args := #[Operand.tmp 53, Operand.tmp 56], argTypes := #[31, 31] }, type := 31, pos := "cuts.go:45", after := #[{ on := 4, ground := Ground.data }, { on := 7, ground := Ground.data }, { on := 6, ground := Ground.chain }], guard := none }, { dst := some 58, op := Op.nilCheck (Operand.tmp 49), type := 0, pos := "cuts.go:45", after := #[{ on := 0, ground := Ground.data }, { on := 0, ground := Ground.phase }, { on := 1, ground := Ground.phase }, { on := 2, ground := Ground.phase }, { on := 3, ground := Ground.phase }, { on := 4, ground := Ground.phase }, { on := 5, ground := Ground.phase }, { on := 6, ground := Ground.phase }, { on := 7, ground := Ground.phase }, { on := 8, ground := Ground.phase }], guard := none }, { dst := some 59, op := Op.fieldAddr 33 (Operand.tmp 58) 3, type := 0, pos := "cuts.go:45", after := #[{ on := 9, ground := Ground.data }, { on := 0, ground := Ground.phase }, { on := 1, ground := Ground.phase }, { on := 2, ground := Ground.phase }, { on := 3, ground := Ground.phase }, { on := 4, ground := Ground.phase }, { on := 5, ground := Ground.phase }, { on := 6, ground := Ground.phase }, { on := 7, ground := Ground.phase }, { on := 8, ground := Ground.phase }], guard := none }, { dst := none, op := Op.store 31 (Operand.tmp 59) (Operand.tmp 57), type := 0, pos := "cuts.go:45", after := #[{ on := 10, ground := Ground.data }, { on := 8, ground := Ground.data }, { on := 8, ground := Ground.chain }, { on := 0, ground := Ground.phase }, { on := 1, ground := Ground.phase }, { on := 2, ground := Ground.phase }, { on := 3, ground := Ground.phase }, { on := 4, ground := Ground.phase }, { on := 5, ground := Ground.phase }, { on := 6, ground := Ground.phase }, { on := 7, ground := Ground.phase }, { on := 8, ground := Ground.phase }], guard := none }] true).wp Try.prog Q ⟨#[x0, x1, x2, x3, x4, (.pointer (some ⟨cb, 0, none⟩)), (.pointer (some ⟨X.bx i, 0, none⟩)), x7, x8, x9, x10, x11, x12, x13, x14, x15, x16, x17, x18, x19, x20, x21, x22, x23, x24, x25, x26, x27, x28, x29, x30, x31, x32, x33, x34, x35, x36, x37, x38, x39, x40, x41, x42, x43, x44, x45, x46, x47, x48, x49, x50, x51, x52, x53, x54, x55, x56, x57, x58, x59], ds⟩ W := by
  have hd := hSt.keep ((Keep.refl W).drew)
  refine wp_region_held_drew (S := (fun wx => wx.cell? ⟨cb, 0, none⟩ = some (.float .f64 N.th) ∧ wx.cell? ⟨cb, 1, none⟩ = some (.slice ca N.cs.length cp) ∧ wx.cell? ⟨cb, 2, none⟩ = some (.int .i64 N.tr) ∧ wx.cell? ⟨cb, 3, none⟩ = some (.int .i64 N.fr) ∧ wx.cell? ⟨cb, 4, none⟩ = some (.int .i64 N.to))) (by kernel_rfl) hd.cells (fun hHeld => ?_)
  refine wpAnyH_take (i := 0) (oi := { dst := some 49, op := Op.move (Operand.tmp 6), type := 101, pos := "cuts.go:45", after := #[], guard := none }) (v := .pointer (some ⟨X.bx i, 0, none⟩)) rfl (by kernel_rfl) (by kernel_rfl) (by kernel_rfl) (fun _ _ _ h => hP _ _ _ _ _ h) (Or.inl ⟨by rfl, by (intro w hSw; (try dsimp only at hSw); go_simp; try with_reducible rfl)⟩) (by assumption) ?_
  try simp only [Act.put, List.setIfInBounds_toArray, List.set_cons_zero, List.set_cons_succ]
  refine wpAnyH_take (i := 1) (oi := { dst := some 50, op := Op.move (Operand.tmp 6), type := 101, pos := "cuts.go:45", after := #[], guard := none }) (v := .pointer (some ⟨X.bx i, 0, none⟩)) rfl (by kernel_rfl) (by kernel_rfl) (by kernel_rfl) (fun _ _ _ h => hP _ _ _ _ _ h) (Or.inl ⟨by rfl, by (intro w hSw; (try dsimp only at hSw); go_simp; try with_reducible rfl)⟩) (by assumption) ?_
  try simp only [Act.put, List.setIfInBounds_toArray, List.set_cons_zero, List.set_cons_succ]
  refine wpAnyH_take (i := 2) (oi := { dst := some 51, op := Op.nilCheck (Operand.tmp 50), type := 0, pos := "cuts.go:45", after := #[{ on := 1, ground := Ground.data }], guard := none }) (v := .pointer (some ⟨X.bx i, 0, none⟩)) rfl (by kernel_rfl) (by kernel_rfl) (by kernel_rfl) (fun _ _ _ h => hP _ _ _ _ _ h) (Or.inl ⟨by rfl, by (intro w hSw; (try dsimp only at hSw); go_simp; try with_reducible rfl)⟩) (by assumption) ?_
  try simp only [Act.put, List.setIfInBounds_toArray, List.set_cons_zero, List.set_cons_succ]
  refine wpAnyH_take (i := 3) (oi := { dst := some 52, op := Op.fieldAddr 33 (Operand.tmp 51) 3, type := 0, pos := "cuts.go:45", after := #[{ on := 2, ground := Ground.data }], guard := none }) (v := .pointer (some ⟨X.bx i, 3, none⟩)) rfl (by kernel_rfl) (by kernel_rfl) (by kernel_rfl) (fun _ _ _ h => hP _ _ _ _ _ h) (Or.inl ⟨by rfl, by (intro w hSw; (try dsimp only at hSw); go_simp; try with_reducible rfl)⟩) (by assumption) ?_
  try simp only [Act.put, List.setIfInBounds_toArray, List.set_cons_zero, List.set_cons_succ]
  refine wpAnyH_take (i := 5) (oi := { dst := some 54, op := Op.load 57 (Operand.tmp 5), type := 57, pos := "cuts.go:45", after := #[], guard := none }) (v := .agg #[.float .f64 N.th, .slice ca N.cs.length cp, .int .i64 N.tr, .int .i64 N.fr, .int .i64 N.to]) rfl (by kernel_rfl) (by kernel_rfl) (by kernel_rfl) (fun _ _ _ h => hP _ _ _ _ _ h) (Or.inl ⟨by rfl, by (intro w hSw; (try dsimp only at hSw); go_simp; try with_reducible rfl)⟩) (by assumption) ?_
  try simp only [Act.put, List.setIfInBounds_toArray, List.set_cons_zero, List.set_cons_succ]
  refine wpAnyH_ready (rs := [4, 6]) (by kernel_rfl) (by simp) ?_
  refine AllReadyH.cons (o := { dst := some 53, op := Op.load 31 (Operand.tmp 52), type := 31, pos := "cuts.go:45", after := #[{ on := 3, ground := Ground.data }], guard := none }) rfl (fun K hK => ?_) (AllReadyH.cons (o := { dst := some 55, op := Op.call { callee := Callee.value (Operand.func 43), args := #[Operand.tmp 54], argTypes := #[57] }, type := 57, pos := "cuts.go:45", after := #[{ on := 5, ground := Ground.data }], guard := none }) rfl (fun K hK => ?_) AllReadyH.nil)
  · have ld := (hd.at 2 (by omega)).1
    go_simp
    refine hK.out _ _ hd.cells (fun hHeld => ?_)
    clear hK K
    try simp only [Act.put, List.setIfInBounds_toArray, List.set_cons_zero, List.set_cons_succ]
    refine wpAnyH_ready (rs := [6]) (by kernel_rfl) (by simp) ?_
    refine AllReadyH.cons (o := { dst := some 55, op := Op.call { callee := Callee.value (Operand.func 43), args := #[Operand.tmp 54], argTypes := #[57] }, type := 57, pos := "cuts.go:45", after := #[{ on := 5, ground := Ground.data }], guard := none }) rfl (fun K hK => ?_) AllReadyH.nil
    refine step_call (vs := #[N.v ca cp]) rfl (by kernel_rfl) (copyOf_any N ca cp _ (hr.keep hd.k0) hl hc) ?_
    rintro e w2 ⟨va, cc, rfl, hO, hcc, k2⟩
    refine ⟨_, rfl, ?_⟩
    have h2 := hd.keep k2
    refine hK.out _ _ h2.cells (fun hHeld => ?_)
    clear hK K
    try simp only [Act.put, List.setIfInBounds_toArray, List.set_cons_zero, List.set_cons_succ]
    refine wpAnyH_ready (rs := [7]) (by kernel_rfl) (by simp) ?_
    refine AllReadyH.cons (o := { dst := some 56, op := Op.buildSlice 31 1 #[(0, Operand.tmp 55)], type := 31, pos := "cuts.go:45", after := #[{ on := 6, ground := Ground.data }], guard := none }) rfl (fun K hK => ?_) AllReadyH.nil
    unfold Ct.v
    go_simp
    have k3 : Keep w2 (w2.alloc (Obj.cells #[.float .f64 N.th, .slice va N.cs.length cc, .int .i64 N.tr, .int .i64 N.fr, .int .i64 N.to] 57)) := (Keep.refl w2).alloc _
    have h3 := h2.keep k3
    refine hK.out _ _ h3.cells (fun hHeld => ?_)
    clear hK K
    try simp only [Act.put, List.setIfInBounds_toArray, List.set_cons_zero, List.set_cons_succ]
    refine wpAnyH_ready (rs := [8]) (by kernel_rfl) (by simp) ?_
    refine AllReadyH.cons (o := { dst := some 57, op := Op.call { callee := Callee.builtin Builtin.append, args := #[Operand.tmp 53, Operand.tmp 56], argTypes := #[31, 31] }, type := 31, pos := "cuts.go:45", after := #[{ on := 4, ground := Ground.data }, { on := 7, ground := Ground.data }, { on := 6, ground := Ground.chain }], guard := none }) rfl (fun K hK => ?_) AllReadyH.nil
    refine step_appC w0.heap.size rfl _ _ rfl (X.K i 2) (N, va, cc) (X.v i 2) rfl (h3.G.row i h3.hi 2 (by omega)) h3.k0.le ⟨w2.heap.size, 0, none⟩ 1 rfl (newsC _ _ rfl N va cc) hS ?_
    intro v5 w5 hO5 g5 hv5
    obtain ⟨a5, cc5, e5v, -, -⟩ := hO5.shape
    generalize (X.K i 2 ++ [(N, va, cc)]).length = m5 at e5v
    subst e5v
    have h6 := hd.app (j := 2) (by omega) (k2.trans k3) hl ((hO.mono hd.k0.le).keep k3) hO5 g5 hv5
    have h6c := fun (hcd : CD X) (v9 : Value) => CD.app hd hcd (j := 2) (by omega) hO v9
    have hb5 : w5.heap[X.bx i]? = some (Obj.cells #[.int .i64 (X.f i), X.v i 0, X.v i 1, X.v i 2] 33 (0, 0)) := by rw [g5.block _ (Array.getElem?_eq_some_iff.1 (h3.G.box i h3.hi).2).1 ?_, (h3.G.box i h3.hi).2]; intro e; obtain ⟨-, c2, hc2⟩ := (h3.G.row i h3.hi 2 (by omega)).block e.symm; rw [(h3.G.box i h3.hi).2] at hc2; simp at hc2
    have h5 : w5.heap[cb]? = some (Obj.cells (N.cells ca cp) 57 (0, 0)) := by rw [g5.block cb (Array.getElem?_eq_some_iff.1 h3.c).1 (fun e => h3.ne 2 (by omega) e.symm), h3.c]
    refine hK.out _ _ ⟨by rw [cell_of_row w5 cb 0 _ 57 (0, 0) h5]; rfl, by rw [cell_of_row w5 cb 1 _ 57 (0, 0) h5]; rfl, by rw [cell_of_row w5 cb 2 _ 57 (0, 0) h5]; rfl, by rw [cell_of_row w5 cb 3 _ 57 (0, 0) h5]; rfl, by rw [cell_of_row w5 cb 4 _ 57 (0, 0) h5]; rfl⟩ (fun hHeld => ?_)
    clear hK K
    try simp only [Act.put, List.setIfInBounds_toArray, List.set_cons_zero, List.set_cons_succ]
    refine wpAnyH_take (i := 9) (oi := { dst := some 58, op := Op.nilCheck (Operand.tmp 49), type := 0, pos := "cuts.go:45", after := #[{ on := 0, ground := Ground.data }, { on := 0, ground := Ground.phase }, { on := 1, ground := Ground.phase }, { on := 2, ground := Ground.phase }, { on := 3, ground := Ground.phase }, { on := 4, ground := Ground.phase }, { on := 5, ground := Ground.phase }, { on := 6, ground := Ground.phase }, { on := 7, ground := Ground.phase }, { on := 8, ground := Ground.phase }], guard := none }) (v := .pointer (some ⟨X.bx i, 0, none⟩)) rfl (by kernel_rfl) (by kernel_rfl) (by kernel_rfl) (fun _ _ _ h => hP _ _ _ _ _ h) (Or.inl ⟨by rfl, by (intro w hSw; (try dsimp only at hSw); go_simp; try with_reducible rfl)⟩) (by assumption) ?_
    try simp only [Act.put, List.setIfInBounds_toArray, List.set_cons_zero, List.set_cons_succ]
    refine wpAnyH_take (i := 10) (oi := { dst := some 59, op := Op.fieldAddr 33 (Operand.tmp 58) 3, type := 0, pos := "cuts.go:45", after := #[{ on := 9, ground := Ground.data }, { on := 0, ground := Ground.phase }, { on := 1, ground := Ground.phase }, { on := 2, ground := Ground.phase }, { on := 3, ground := Ground.phase }, { on := 4, ground := Ground.phase }, { on := 5, ground := Ground.phase }, { on := 6, ground := Ground.phase }, { on := 7, ground := Ground.phase }, { on := 8, ground := Ground.phase }], guard := none }) (v := .pointer (some ⟨X.bx i, 3, none⟩)) rfl (by kernel_rfl) (by kernel_rfl) (by kernel_rfl) (fun _ _ _ h => hP _ _ _ _ _ h) (Or.inl ⟨by rfl, by (intro w hSw; (try dsimp only at hSw); go_simp; try with_reducible rfl)⟩) (by assumption) ?_
    try simp only [Act.put, List.setIfInBounds_toArray, List.set_cons_zero, List.set_cons_succ]
    refine wpAnyH_ready (rs := [11]) (by kernel_rfl) (by simp) ?_
    refine AllReadyH.cons (o := { dst := none, op := Op.store 31 (Operand.tmp 59) (Operand.tmp 57), type := 0, pos := "cuts.go:45", after := #[{ on := 10, ground := Ground.data }, { on := 8, ground := Ground.data }, { on := 8, ground := Ground.chain }, { on := 0, ground := Ground.phase }, { on := 1, ground := Ground.phase }, { on := 2, ground := Ground.phase }, { on := 3, ground := Ground.phase }, { on := 4, ground := Ground.phase }, { on := 5, ground := Ground.phase }, { on := 6, ground := Ground.phase }, { on := 7, ground := Ground.phase }, { on := 8, ground := Ground.phase }], guard := none }) rfl (fun K hK => ?_) AllReadyH.nil
    have e5 := cell_of_row w5 _ 3 _ 33 (0, 0) hb5
    have f5 := frozen_of_row w5 _ 3 _ 33 hb5
    simp at e5
    go_simp
    refine hK.out _ _ h6.cells (fun hHeld => ?_)
    clear hK K
    try simp only [Act.put, List.setIfInBounds_toArray, List.set_cons_zero, List.set_cons_succ]
    refine wpAnyH_done (by kernel_rfl) ?_ _
    exact hK _ _ _ _ _ _ _ _ _ _ _ _ _ _ _ h6 (fun hcd => h6c hcd _)
  · refine step_call (vs := #[N.v ca cp]) rfl (by kernel_rfl) (copyOf_any N ca cp _ (hr.keep hd.k0) hl hc) ?_
    rintro e w2 ⟨va, cc, rfl, hO, hcc, k2⟩
    refine ⟨_, rfl, ?_⟩
    have h2 := hd.keep k2
    refine hK.out _ _ h2.cells (fun hHeld => ?_)
    clear hK K
    try simp only [Act.put, List.setIfInBounds_toArray, List.set_cons_zero, List.set_cons_succ]
    refine wpAnyH_ready (rs := [4, 7]) (by kernel_rfl) (by simp) ?_
    refine AllReadyH.cons (o := { dst := some 53, op := Op.load 31 (Operand.tmp 52), type := 31, pos := "cuts.go:45", after := #[{ on := 3, ground := Ground.data }], guard := none }) rfl (fun K hK => ?_) (AllReadyH.cons (o := { dst := some 56, op := Op.buildSlice 31 1 #[(0, Operand.tmp 55)], type := 31, pos := "cuts.go:45", after := #[{ on := 6, ground := Ground.data }], guard := none }) rfl (fun K hK => ?_) AllReadyH.nil)
    · have ld := (h2.at 2 (by omega)).1
      go_simp
      refine hK.out _ _ h2.cells (fun hHeld => ?_)
      clear hK K
      try simp only [Act.put, List.setIfInBounds_toArray, List.set_cons_zero, List.set_cons_succ]
      refine wpAnyH_ready (rs := [7]) (by kernel_rfl) (by simp) ?_
      refine AllReadyH.cons (o := { dst := some 56, op := Op.buildSlice 31 1 #[(0, Operand.tmp 55)], type := 31, pos := "cuts.go:45", after := #[{ on := 6, ground := Ground.data }], guard := none }) rfl (fun K hK => ?_) AllReadyH.nil
      unfold Ct.v
      go_simp
      have k3 : Keep w2 (w2.alloc (Obj.cells #[.float .f64 N.th, .slice va N.cs.length cc, .int .i64 N.tr, .int .i64 N.fr, .int .i64 N.to] 57)) := (Keep.refl w2).alloc _
      have h3 := h2.keep k3
      refine hK.out _ _ h3.cells (fun hHeld => ?_)
      clear hK K
      try simp only [Act.put, List.setIfInBounds_toArray, List.set_cons_zero, List.set_cons_succ]
      refine wpAnyH_ready (rs := [8]) (by kernel_rfl) (by simp) ?_
      refine AllReadyH.cons (o := { dst := some 57, op := Op.call { callee := Callee.builtin Builtin.append, args := #[Operand.tmp 53, Operand.tmp 56], argTypes := #[31, 31] }, type := 31, pos := "cuts.go:45", after := #[{ on := 4, ground := Ground.data }, { on := 7, ground := Ground.data }, { on := 6, ground := Ground.chain }], guard := none }) rfl (fun K hK => ?_) AllReadyH.nil
      refine step_appC w0.heap.size rfl _ _ rfl (X.K i 2) (N, va, cc) (X.v i 2) rfl (h3.G.row i h3.hi 2 (by omega)) h3.k0.le ⟨w2.heap.size, 0, none⟩ 1 rfl (newsC _ _ rfl N va cc) hS ?_
      intro v5 w5 hO5 g5 hv5
      obtain ⟨a5, cc5, e5v, -, -⟩ := hO5.shape
      generalize (X.K i 2 ++ [(N, va, cc)]).length = m5 at e5v
      subst e5v
      have h6 := hd.app (j := 2) (by omega) (k2.trans k3) hl ((hO.mono hd.k0.le).keep k3) hO5 g5 hv5
      have h6c := fun (hcd : CD X) (v9 : Value) => CD.app hd hcd (j := 2) (by omega) hO v9
      have hb5 : w5.heap[X.bx i]? = some (Obj.cells #[.int .i64 (X.f i), X.v i 0, X.v i 1, X.v i 2] 33 (0, 0)) := by rw [g5.block _ (Array.getElem?_eq_some_iff.1 (h3.G.box i h3.hi).2).1 ?_, (h3.G.box i h3.hi).2]; intro e; obtain ⟨-, c2, hc2⟩ := (h3.G.row i h3.hi 2 (by omega)).block e.symm; rw [(h3.G.box i h3.hi).2] at hc2; simp at hc2
      have h5 : w5.heap[cb]? = some (Obj.cells (N.cells ca cp) 57 (0, 0)) := by rw [g5.block cb (Array.getElem?_eq_some_iff.1 h3.c).1 (fun e => h3.ne 2 (by omega) e.symm), h3.c]
      refine hK.out _ _ ⟨by rw [cell_of_row w5 cb 0 _ 57 (0, 0) h5]; rfl, by rw [cell_of_row w5 cb 1 _ 57 (0, 0) h5]; rfl, by rw [cell_of_row w5 cb 2 _ 57 (0, 0) h5]; rfl, by rw [cell_of_row w5 cb 3 _ 57 (0, 0) h5]; rfl, by rw [cell_of_row w5 cb 4 _ 57 (0, 0) h5]; rfl⟩ (fun hHeld => ?_)
      clear hK K
      try simp only [Act.put, List.setIfInBounds_toArray, List.set_cons_zero, List.set_cons_succ]
      refine wpAnyH_take (i := 9) (oi := { dst := some 58, op := Op.nilCheck (Operand.tmp 49), type := 0, pos := "cuts.go:45", after := #[{ on := 0, ground := Ground.data }, { on := 0, ground := Ground.phase }, { on := 1, ground := Ground.phase }, { on := 2, ground := Ground.phase }, { on := 3, ground := Ground.phase }, { on := 4, ground := Ground.phase }, { on := 5, ground := Ground.phase }, { on := 6, ground := Ground.phase }, { on := 7, ground := Ground.phase }, { on := 8, ground := Ground.phase }], guard := none }) (v := .pointer (some ⟨X.bx i, 0, none⟩)) rfl (by kernel_rfl) (by kernel_rfl) (by kernel_rfl) (fun _ _ _ h => hP _ _ _ _ _ h) (Or.inl ⟨by rfl, by (intro w hSw; (try dsimp only at hSw); go_simp; try with_reducible rfl)⟩) (by assumption) ?_
      try simp only [Act.put, List.setIfInBounds_toArray, List.set_cons_zero, List.set_cons_succ]
      refine wpAnyH_take (i := 10) (oi := { dst := some 59, op := Op.fieldAddr 33 (Operand.tmp 58) 3, type := 0, pos := "cuts.go:45", after := #[{ on := 9, ground := Ground.data }, { on := 0, ground := Ground.phase }, { on := 1, ground := Ground.phase }, { on := 2, ground := Ground.phase }, { on := 3, ground := Ground.phase }, { on := 4, ground := Ground.phase }, { on := 5, ground := Ground.phase }, { on := 6, ground := Ground.phase }, { on := 7, ground := Ground.phase }, { on := 8, ground := Ground.phase }], guard := none }) (v := .pointer (some ⟨X.bx i, 3, none⟩)) rfl (by kernel_rfl) (by kernel_rfl) (by kernel_rfl) (fun _ _ _ h => hP _ _ _ _ _ h) (Or.inl ⟨by rfl, by (intro w hSw; (try dsimp only at hSw); go_simp; try with_reducible rfl)⟩) (by assumption) ?_
      try simp only [Act.put, List.setIfInBounds_toArray, List.set_cons_zero, List.set_cons_succ]
      refine wpAnyH_ready (rs := [11]) (by kernel_rfl) (by simp) ?_
      refine AllReadyH.cons (o := { dst := none, op := Op.store 31 (Operand.tmp 59) (Operand.tmp 57), type := 0, pos := "cuts.go:45", after := #[{ on := 10, ground := Ground.data }, { on := 8, ground := Ground.data }, { on := 8, ground := Ground.chain }, { on := 0, ground := Ground.phase }, { on := 1, ground := Ground.phase }, { on := 2, ground := Ground.phase }, { on := 3, ground := Ground.phase }, { on := 4, ground := Ground.phase }, { on := 5, ground := Ground.phase }, { on := 6, ground := Ground.phase }, { on := 7, ground := Ground.phase }, { on := 8, ground := Ground.phase }], guard := none }) rfl (fun K hK => ?_) AllReadyH.nil
      have e5 := cell_of_row w5 _ 3 _ 33 (0, 0) hb5
      have f5 := frozen_of_row w5 _ 3 _ 33 hb5
      simp at e5
      go_simp
      refine hK.out _ _ h6.cells (fun hHeld => ?_)
      clear hK K
      try simp only [Act.put, List.setIfInBounds_toArray, List.set_cons_zero, List.set_cons_succ]
      refine wpAnyH_done (by kernel_rfl) ?_ _
      exact hK _ _ _ _ _ _ _ _ _ _ _ _ _ _ _ h6 (fun hcd => h6c hcd _)
    · unfold Ct.v
      go_simp
      have k3 : Keep w2 (w2.alloc (Obj.cells #[.float .f64 N.th, .slice va N.cs.length cc, .int .i64 N.tr, .int .i64 N.fr, .int .i64 N.to] 57)) := (Keep.refl w2).alloc _
      have h3 := h2.keep k3
      refine hK.out _ _ h3.cells (fun hHeld => ?_)
      clear hK K
      try simp only [Act.put, List.setIfInBounds_toArray, List.set_cons_zero, List.set_cons_succ]
      refine wpAnyH_ready (rs := [4]) (by kernel_rfl) (by simp) ?_
      refine AllReadyH.cons (o := { dst := some 53, op := Op.load 31 (Operand.tmp 52), type := 31, pos := "cuts.go:45", after := #[{ on := 3, ground := Ground.data }], guard := none }) rfl (fun K hK => ?_) AllReadyH.nil
      have ld := (h3.at 2 (by omega)).1
      go_simp
      refine hK.out _ _ h3.cells (fun hHeld => ?_)
      clear hK K
      try simp only [Act.put, List.setIfInBounds_toArray, List.set_cons_zero, List.set_cons_succ]
      refine wpAnyH_ready (rs := [8]) (by kernel_rfl) (by simp) ?_
      refine AllReadyH.cons (o := { dst := some 57, op := Op.call { callee := Callee.builtin Builtin.append, args := #[Operand.tmp 53, Operand.tmp 56], argTypes := #[31, 31] }, type := 31, pos := "cuts.go:45", after := #[{ on := 4, ground := Ground.data }, { on := 7, ground := Ground.data }, { on := 6, ground := Ground.chain }], guard := none }) rfl (fun K hK => ?_) AllReadyH.nil
      refine step_appC w0.heap.size rfl _ _ rfl (X.K i 2) (N, va, cc) (X.v i 2) rfl (h3.G.row i h3.hi 2 (by omega)) h3.k0.le ⟨w2.heap.size, 0, none⟩ 1 rfl (newsC _ _ rfl N va cc) hS ?_
      intro v5 w5 hO5 g5 hv5
      obtain ⟨a5, cc5, e5v, -, -⟩ := hO5.shape
      generalize (X.K i 2 ++ [(N, va, cc)]).length = m5 at e5v
      subst e5v
      have h6 := hd.app (j := 2) (by omega) (k2.trans k3) hl ((hO.mono hd.k0.le).keep k3) hO5 g5 hv5
      have h6c := fun (hcd : CD X) (v9 : Value) => CD.app hd hcd (j := 2) (by omega) hO v9
      have hb5 : w5.heap[X.bx i]? = some (Obj.cells #[.int .i64 (X.f i), X.v i 0, X.v i 1, X.v i 2] 33 (0, 0)) := by rw [g5.block _ (Array.getElem?_eq_some_iff.1 (h3.G.box i h3.hi).2).1 ?_, (h3.G.box i h3.hi).2]; intro e; obtain ⟨-, c2, hc2⟩ := (h3.G.row i h3.hi 2 (by omega)).block e.symm; rw [(h3.G.box i h3.hi).2] at hc2; simp at hc2
      have h5 : w5.heap[cb]? = some (Obj.cells (N.cells ca cp) 57 (0, 0)) := by rw [g5.block cb (Array.getElem?_eq_some_iff.1 h3.c).1 (fun e => h3.ne 2 (by omega) e.symm), h3.c]
      refine hK.out _ _ ⟨by rw [cell_of_row w5 cb 0 _ 57 (0, 0) h5]; rfl, by rw [cell_of_row w5 cb 1 _ 57 (0, 0) h5]; rfl, by rw [cell_of_row w5 cb 2 _ 57 (0, 0) h5]; rfl, by rw [cell_of_row w5 cb 3 _ 57 (0, 0) h5]; rfl, by rw [cell_of_row w5 cb 4 _ 57 (0, 0) h5]; rfl⟩ (fun hHeld => ?_)
      clear hK K
      try simp only [Act.put, List.setIfInBounds_toArray, List.set_cons_zero, List.set_cons_succ]
      refine wpAnyH_take (i := 9) (oi := { dst := some 58, op := Op.nilCheck (Operand.tmp 49), type := 0, pos := "cuts.go:45", after := #[{ on := 0, ground := Ground.data }, { on := 0, ground := Ground.phase }, { on := 1, ground := Ground.phase }, { on := 2, ground := Ground.phase }, { on := 3, ground := Ground.phase }, { on := 4, ground := Ground.phase }, { on := 5, ground := Ground.phase }, { on := 6, ground := Ground.phase }, { on := 7, ground := Ground.phase }, { on := 8, ground := Ground.phase }], guard := none }) (v := .pointer (some ⟨X.bx i, 0, none⟩)) rfl (by kernel_rfl) (by kernel_rfl) (by kernel_rfl) (fun _ _ _ h => hP _ _ _ _ _ h) (Or.inl ⟨by rfl, by (intro w hSw; (try dsimp only at hSw); go_simp; try with_reducible rfl)⟩) (by assumption) ?_
      try simp only [Act.put, List.setIfInBounds_toArray, List.set_cons_zero, List.set_cons_succ]
      refine wpAnyH_take (i := 10) (oi := { dst := some 59, op := Op.fieldAddr 33 (Operand.tmp 58) 3, type := 0, pos := "cuts.go:45", after := #[{ on := 9, ground := Ground.data }, { on := 0, ground := Ground.phase }, { on := 1, ground := Ground.phase }, { on := 2, ground := Ground.phase }, { on := 3, ground := Ground.phase }, { on := 4, ground := Ground.phase }, { on := 5, ground := Ground.phase }, { on := 6, ground := Ground.phase }, { on := 7, ground := Ground.phase }, { on := 8, ground := Ground.phase }], guard := none }) (v := .pointer (some ⟨X.bx i, 3, none⟩)) rfl (by kernel_rfl) (by kernel_rfl) (by kernel_rfl) (fun _ _ _ h => hP _ _ _ _ _ h) (Or.inl ⟨by rfl, by (intro w hSw; (try dsimp only at hSw); go_simp; try with_reducible rfl)⟩) (by assumption) ?_
      try simp only [Act.put, List.setIfInBounds_toArray, List.set_cons_zero, List.set_cons_succ]
      refine wpAnyH_ready (rs := [11]) (by kernel_rfl) (by simp) ?_
      refine AllReadyH.cons (o := { dst := none, op := Op.store 31 (Operand.tmp 59) (Operand.tmp 57), type := 0, pos := "cuts.go:45", after := #[{ on := 10, ground := Ground.data }, { on := 8, ground := Ground.data }, { on := 8, ground := Ground.chain }, { on := 0, ground := Ground.phase }, { on := 1, ground := Ground.phase }, { on := 2, ground := Ground.phase }, { on := 3, ground := Ground.phase }, { on := 4, ground := Ground.phase }, { on := 5, ground := Ground.phase }, { on := 6, ground := Ground.phase }, { on := 7, ground := Ground.phase }, { on := 8, ground := Ground.phase }], guard := none }) rfl (fun K hK => ?_) AllReadyH.nil
      have e5 := cell_of_row w5 _ 3 _ 33 (0, 0) hb5
      have f5 := frozen_of_row w5 _ 3 _ 33 hb5
      simp at e5
      go_simp
      refine hK.out _ _ h6.cells (fun hHeld => ?_)
      clear hK K
      try simp only [Act.put, List.setIfInBounds_toArray, List.set_cons_zero, List.set_cons_succ]
      refine wpAnyH_done (by kernel_rfl) ?_ _
      exact hK _ _ _ _ _ _ _ _ _ _ _ _ _ _ _ h6 (fun hcd => h6c hcd _)
end Go.Proofs.Ytaogjiffnebnkaa.Ow
set_option linter.unusedVariables false
set_option linter.unusedSimpArgs false
namespace Go.Proofs.Ytaogjiffnebnkaa.Ow
open Go.RowKit Go.Shelf Go.Maps
attribute [local go_sem] run_store_float
set_option maxRecDepth 100000 in
set_option maxHeartbeats 4000000 in
theorem add_any (w0 w : World) (mb : Nat) (X : GX) (S : List (Nd × Ct)) (hG : GI w0.heap.size w mb X) (hCD : ConD X S) (k0 : Keep w0 w) (d : Nd) (nca : Option Addr) (ncap : Nat) (N : Ct) (ca : Option Addr) (cp : Nat) (hφ : 0 ≤ d.ft ∧ d.ft < 65536) (hr : RdI w0 ca N.cs) (hl : N.cs.length ≤ 17592186044416) (hc : N.cs.length ≤ cp) (hS : S.length + 1 ≤ 1099511627776) (hXn : X.n < 4294967296) :
    Calls Try.prog 52 #[.map (some mb), d.v nca ncap, N.v ca cp] w fun e w' => (∃ v, e = .returned v) ∧ ∃ X', GI w0.heap.size w' mb X' ∧ ConD X' (S ++ [(d, N)]) ∧ Keep w0 w' ∧ KT w w' ∧ X'.n ≤ X.n + 1 := by
  obtain ⟨w1, hw1, k1, s1, r0, r1⟩ := boxes2n w #[Value.int .u8 d.kd, .int .i64 d.vl, .int .i64 d.ft, .float .f64 d.th, .slice nca d.cs.length ncap, .int .u8 d.ms, .int .i64 d.lf, .int .i64 d.rt] #[Value.float FloatKind.f64 N.th, Value.slice ca N.cs.length cp, Value.int IntKind.i64 N.tr, Value.int IntKind.i64 N.fr, Value.int IntKind.i64 N.to] 83 57
  have hG1 := hG.keep k1
  have a0 := cell_of_row w1 _ 0 _ 83 (0, 0) r0
  have a2 := cell_of_row w1 _ 2 _ 83 (0, 0) r0
  have a5 := cell_of_row w1 _ 5 _ 83 (0, 0) r0
  simp at a0 a2 a5
  have hz0 : w.heap.size < w1.heap.size := (Array.getElem?_eq_some_iff.1 r0).1
  have hz1 : w.heap.size + 1 < w1.heap.size := (Array.getElem?_eq_some_iff.1 r1).1
  have hwf : (iL d.ft).wf = true := by simp [iL, Lit.wf, IntKind.min, IntKind.max, IntKind.bits, IntKind.signed]; omega
  clear s1
  have k01 : Keep w0 w1 := Keep.trans k0 k1
  have hne1 : ∀ i j, i < X.n → j < 3 → (X.v i j).ownBlock ≠ some (w.heap.size + 1) := by
    intro i j hi hj e
    obtain ⟨-, c2, hc2⟩ := (hG.row i hi j hj).block e
    have := (Array.getElem?_eq_some_iff.1 hc2).1
    omega
  have hkn : ¬ d.kd = 2 → (((d.kd : Nat) : Int) == 2) = false := by intro h; simp; omega
  have hmn : ¬ d.ms = 2 → (((d.ms : Nat) : Int) == 2) = false := by intro h; simp; omega
  replace hkn : Hid _ := hkn
  replace hmn : Hid _ := hmn
  replace hl : Hid _ := hl
  replace hc : Hid _ := hc
  have HNA : Hid (∀ W, KT w1 W → W.cell? ⟨w.heap.size, 5, none⟩ = some (.int .u8 d.ms)) := by
    intro W k
    rw [cell_of_row W _ 5 _ 83 (0, 0) (k.kp _ _ _ r0 (by decide) (by decide))]; rfl
  by_cases hh : ∃ i, i < X.n ∧ X.f i = d.ft
  · obtain ⟨i, hi, hf⟩ := hh
    by_cases hk : d.kd = 2
    · by_cases hm : d.ms = 2
      · have hlk := hG1.look (z := .pointer none) (by rfl) hwf (.pointer (some ⟨X.bx i, 0, none⟩)) (.inr ⟨i, hi, hf, rfl⟩)
        have hSt : St w0 w1 mb (w.heap.size + 1) i N ca cp X w1 := ⟨hG1, hi, k01, KT.refl _, r1, fun j hj => hne1 i j hi hj⟩
        replace hlk : Hid _ := hlk
        unfold Ct.v Nd.v
        rw [← hw1] at a0 a2 a5
        replace hw1 : Hid _ := hw1
        replace r0 : Hid _ := r0
        replace r1 : Hid _ := r1
        replace hk : Hid _ := hk
        replace hm : Hid _ := hm
        go_enter Try.func52, Try.ntmps52
        go_wp2_with (first | (at_lookup; rw [hw1.out] at a0 a2 a5 ⊢; refine wpList_look rfl _ _ rfl mb d.ft rfl rfl _ hlk.out ?_; have hkq := hk.out) | go_in)
        refine region6 hSt hr hl.out hc.out ?_ (fun _ _ d _ _ h => by cases d <;> exact h) _ _ _ _ _ _ _ _ _ _ _ _ _ _ _ _ _ _ _ _ _ _ _ _ _ _ _ _ _ _ _ _ _ _ _ _ _ _ _ _ _ _ _ _ _ _ _ _ _ _ _ _ _ _ _ _ _ _ _ ?_
        · exact Nat.le_trans (Nat.succ_le_succ (hCD.1.len hi (by omega))) hS
        intro y0 y1 y2 y3 y4 y5 y6 y7 y8 y9 y10 v2 va2 cc2 W2 hSt2 hcd2
        have a52 := HNA.out W2 hSt2.kt
        have hmq := hm.out
        go_wp2_with fail
        refine region9 hSt2 hr hl.out hc.out ?_ (fun _ _ d _ _ h => by cases d <;> exact h) _ _ _ _ _ _ _ _ _ _ _ _ _ _ _ _ _ _ _ _ _ _ _ _ _ _ _ _ _ _ _ _ _ _ _ _ _ _ _ _ _ _ _ _ _ _ _ _ _ _ _ _ _ _ _ _ _ _ _ ?_
        · simp only [GX.app]; rw [if_neg (by omega)]; exact Nat.le_trans (Nat.succ_le_succ (hCD.1.len hi (by omega))) hS
        intro z0 z1 z2 z3 z4 z5 z6 z7 z8 z9 z10 v3 va3 cc3 W3 hSt3 hcd3
        go_wp2_with fail
        try simp only [Exit.inBlock, Exit.then]
        refine bodyPost_end (results_none rfl _ _ _) rfl ?_
        refine ⟨⟨_, rfl⟩, _, hSt3.G, ⟨?_, hcd3 (hcd2 hCD.2)⟩, hSt3.k0, (KT.of_keep k1).trans hSt3.kt, Nat.le_succ _⟩
        refine hCD.1.add hi hf (fun i' hi' e => hG.fi i' i hi' hi e) rfl rfl ?_
        intro i' j' hi' hj'
        have hk2 := hk.out
        have hm2 := hm.out
        rcases (by omega : j' = 0 ∨ j' = 1 ∨ j' = 2) with rfl | rfl | rfl <;> by_cases q : i' = i <;> simp [GX.app, GX.put, cnd, q, hk2, hm2] <;> first | exact hk2 | exact hm2 | exact ⟨hk2, hm2⟩
      · have hlk := hG1.look (z := .pointer none) (by rfl) hwf (.pointer (some ⟨X.bx i, 0, none⟩)) (.inr ⟨i, hi, hf, rfl⟩)
        have hSt : St w0 w1 mb (w.heap.size + 1) i N ca cp X w1 := ⟨hG1, hi, k01, KT.refl _, r1, fun j hj => hne1 i j hi hj⟩
        replace hlk : Hid _ := hlk
        unfold Ct.v Nd.v
        rw [← hw1] at a0 a2 a5
        replace hw1 : Hid _ := hw1
        replace r0 : Hid _ := r0
        replace r1 : Hid _ := r1
        replace hk : Hid _ := hk
        replace hm : Hid _ := hm
        go_enter Try.func52, Try.ntmps52
        go_wp2_with (first | (at_lookup; rw [hw1.out] at a0 a2 a5 ⊢; refine wpList_look rfl _ _ rfl mb d.ft rfl rfl _ hlk.out ?_; have hkq := hk.out) | go_in)
        refine region6 hSt hr hl.out hc.out ?_ (fun _ _ d _ _ h => by cases d <;> exact h) _ _ _ _ _ _ _ _ _ _ _ _ _ _ _ _ _ _ _ _ _ _ _ _ _ _ _ _ _ _ _ _ _ _ _ _ _ _ _ _ _ _ _ _ _ _ _ _ _ _ _ _ _ _ _ _ _ _ _ ?_
        · exact Nat.le_trans (Nat.succ_le_succ (hCD.1.len hi (by omega))) hS
        intro y0 y1 y2 y3 y4 y5 y6 y7 y8 y9 y10 v2 va2 cc2 W2 hSt2 hcd2
        have a52 := HNA.out W2 hSt2.kt
        have hmq := hmn.out hm.out
        go_wp2_with fail
        try simp only [Exit.inBlock, Exit.then]
        refine bodyPost_end (results_none rfl _ _ _) rfl ?_
        refine ⟨⟨_, rfl⟩, _, hSt2.G, ⟨?_, hcd2 hCD.2⟩, hSt2.k0, (KT.of_keep k1).trans hSt2.kt, Nat.le_succ _⟩
        refine hCD.1.add hi hf (fun i' hi' e => hG.fi i' i hi' hi e) rfl rfl ?_
        intro i' j' hi' hj'
        have hk2 := hk.out
        have hm2 := hm.out
        rcases (by omega : j' = 0 ∨ j' = 1 ∨ j' = 2) with rfl | rfl | rfl <;> by_cases q : i' = i <;> simp [GX.app, GX.put, cnd, q, hk2, hm2] <;> first | exact hk2 | exact hm2 | exact ⟨hk2, hm2⟩
    · by_cases hm : d.ms = 2
      · have hlk := hG1.look (z := .pointer none) (by rfl) hwf (.pointer (some ⟨X.bx i, 0, none⟩)) (.inr ⟨i, hi, hf, rfl⟩)
        have hSt : St w0 w1 mb (w.heap.size + 1) i N ca cp X w1 := ⟨hG1, hi, k01, KT.refl _, r1, fun j hj => hne1 i j hi hj⟩
        replace hlk : Hid _ := hlk
        unfold Ct.v Nd.v
        rw [← hw1] at a0 a2 a5
        replace hw1 : Hid _ := hw1
        replace r0 : Hid _ := r0
        replace r1 : Hid _ := r1
        replace hk : Hid _ := hk
        replace hm : Hid _ := hm
        go_enter Try.func52, Try.ntmps52
        go_wp2_with (first | (at_lookup; rw [hw1.out] at a0 a2 a5 ⊢; refine wpList_look rfl _ _ rfl mb d.ft rfl rfl _ hlk.out ?_; have hkq := hkn.out hk.out) | go_in)
        refine region7 hSt hr hl.out hc.out ?_ (fun _ _ d _ _ h => by cases d <;> exact h) _ _ _ _ _ _ _ _ _ _ _ _ _ _ _ _ _ _ _ _ _ _ _ _ _ _ _ _ _ _ _ _ _ _ _ _ _ _ _ _ _ _ _ _ _ _ _ _ _ _ _ _ _ _ _ _ _ _ _ ?_
        · exact Nat.le_trans (Nat.succ_le_succ (hCD.1.len hi (by omega))) hS
        intro y0 y1 y2 y3 y4 y5 y6 y7 y8 y9 y10 v2 va2 cc2 W2 hSt2 hcd2
        have a52 := HNA.out W2 hSt2.kt
        have hmq := hm.out
        go_wp2_with fail
        refine region9 hSt2 hr hl.out hc.out ?_ (fun _ _ d _ _ h => by cases d <;> exact h) _ _ _ _ _ _ _ _ _ _ _ _ _ _ _ _ _ _ _ _ _ _ _ _ _ _ _ _ _ _ _ _ _ _ _ _ _ _ _ _ _ _ _ _ _ _ _ _ _ _ _ _ _ _ _ _ _ _ _ ?_
        · simp only [GX.app]; rw [if_neg (by omega)]; exact Nat.le_trans (Nat.succ_le_succ (hCD.1.len hi (by omega))) hS
        intro z0 z1 z2 z3 z4 z5 z6 z7 z8 z9 z10 v3 va3 cc3 W3 hSt3 hcd3
        go_wp2_with fail
        try simp only [Exit.inBlock, Exit.then]
        refine bodyPost_end (results_none rfl _ _ _) rfl ?_
        refine ⟨⟨_, rfl⟩, _, hSt3.G, ⟨?_, hcd3 (hcd2 hCD.2)⟩, hSt3.k0, (KT.of_keep k1).trans hSt3.kt, Nat.le_succ _⟩
        refine hCD.1.add hi hf (fun i' hi' e => hG.fi i' i hi' hi e) rfl rfl ?_
        intro i' j' hi' hj'
        have hk2 := hk.out
        have hm2 := hm.out
        rcases (by omega : j' = 0 ∨ j' = 1 ∨ j' = 2) with rfl | rfl | rfl <;> by_cases q : i' = i <;> simp [GX.app, GX.put, cnd, q, hk2, hm2] <;> first | exact hk2 | exact hm2 | exact ⟨hk2, hm2⟩
      · have hlk := hG1.look (z := .pointer none) (by rfl) hwf (.pointer (some ⟨X.bx i, 0, none⟩)) (.inr ⟨i, hi, hf, rfl⟩)
        have hSt : St w0 w1 mb (w.heap.size + 1) i N ca cp X w1 := ⟨hG1, hi, k01, KT.refl _, r1, fun j hj => hne1 i j hi hj⟩
        replace hlk : Hid _ := hlk
        unfold Ct.v Nd.v
        rw [← hw1] at a0 a2 a5
        replace hw1 : Hid _ := hw1
        replace r0 : Hid _ := r0
        replace r1 : Hid _ := r1
        replace hk : Hid _ := hk
        replace hm : Hid _ := hm
        go_enter Try.func52, Try.ntmps52
        go_wp2_with (first | (at_lookup; rw [hw1.out] at a0 a2 a5 ⊢; refine wpList_look rfl _ _ rfl mb d.ft rfl rfl _ hlk.out ?_; have hkq := hkn.out hk.out) | go_in)
        refine region7 hSt hr hl.out hc.out ?_ (fun _ _ d _ _ h => by cases d <;> exact h) _ _ _ _ _ _ _ _ _ _ _ _ _ _ _ _ _ _ _ _ _ _ _ _ _ _ _ _ _ _ _ _ _ _ _ _ _ _ _ _ _ _ _ _ _ _ _ _ _ _ _ _ _ _ _ _ _ _ _ ?_
        · exact Nat.le_trans (Nat.succ_le_succ (hCD.1.len hi (by omega))) hS
        intro y0 y1 y2 y3 y4 y5 y6 y7 y8 y9 y10 v2 va2 cc2 W2 hSt2 hcd2
        have a52 := HNA.out W2 hSt2.kt
        have hmq := hmn.out hm.out
        go_wp2_with fail
        try simp only [Exit.inBlock, Exit.then]
        refine bodyPost_end (results_none rfl _ _ _) rfl ?_
        refine ⟨⟨_, rfl⟩, _, hSt2.G, ⟨?_, hcd2 hCD.2⟩, hSt2.k0, (KT.of_keep k1).trans hSt2.kt, Nat.le_succ _⟩
        refine hCD.1.add hi hf (fun i' hi' e => hG.fi i' i hi' hi e) rfl rfl ?_
        intro i' j' hi' hj'
        have hk2 := hk.out
        have hm2 := hm.out
        rcases (by omega : j' = 0 ∨ j' = 1 ∨ j' = 2) with rfl | rfl | rfl <;> by_cases q : i' = i <;> simp [GX.app, GX.put, cnd, q, hk2, hm2] <;> first | exact hk2 | exact hm2 | exact ⟨hk2, hm2⟩
  · replace hh : ∀ i, i < X.n → X.f i ≠ d.ft := fun i hi e => hh ⟨i, hi, e⟩
    by_cases hk : d.kd = 2
    · by_cases hm : d.ms = 2
      · have hlk := hG1.look (z := .pointer none) (by rfl) hwf (.pointer none) (.inl ⟨hh, rfl⟩)
        replace hlk : Hid _ := hlk
        obtain ⟨D, hD1, hD2⟩ := hG1.map
        unfold Ct.v Nd.v
        rw [← hw1] at a0 a2 a5
        replace hw1 : Hid _ := hw1
        replace r0 : Hid _ := r0
        replace r1 : Hid _ := r1
        replace hk : Hid _ := hk
        replace hm : Hid _ := hm
        have kA : Keep w1 (w1.alloc (Obj.cells #[.int .i64 d.ft, .slice none 0 0, .slice none 0 0, .slice none 0 0] 33)) := (Keep.refl w1).alloc _
        have hGA := hG1.keep kA
        have hmA := hGA.mapLt
        have hnA := heap_alloc_new w1 (Obj.cells #[.int .i64 d.ft, .slice none 0 0, .slice none 0 0, .slice none 0 0] 33)
        replace hnA : Hid _ := hnA
        replace hmA : Hid _ := hmA
        go_enter Try.func52, Try.ntmps52
        go_wp2_with (first | (at_lookup; rw [hw1.out] at a0 a2 a5 ⊢; refine wpList_look rfl _ _ rfl mb d.ft rfl rfl _ hlk.out ?_; have hkq := hk.out) | (at_mapUpdate; refine wpList_mapUpdate_own _ rfl _ _ _ 74 rfl 3 101 law3 Try.underlying74 pE mb X.n D rfl (ownsMap_block hD1 (((Keep.refl w1).alloc _).block mb hD1.lt)) (by unfold maxLen; omega) _ _ _ rfl rfl (keyOf_int_mk Try.underlying3 hwf) _ [] (pE_box _) ?_; intro w3 hown3 hg3; have kt3 := (KT.of_keep kA).trans (KT.map hg3 hmA.out); have a03 : w3.cell? ⟨w.heap.size, 0, none⟩ = some (.int .u8 d.kd) := by rw [cell_of_row w3 _ 0 _ 83 (0, 0) (kt3.kp _ _ _ r0.out (by decide) (by decide))]; rfl) | go_in)
        have hG3 := hGA.put hh (b := w1.heap.size) k01.le hnA.out (fun i hi e => by have := (Array.getElem?_eq_some_iff.1 (hG1.box i hi).2).1; omega) (w2 := w3) hD2 hown3 hg3
        have hSt : St w0 w1 mb (w.heap.size + 1) X.n N ca cp (X.put d.ft w1.heap.size) w3 := ⟨hG3, Nat.lt_succ_self _, Below.grown (Keep.trans k01 kA) hg3 (Keep.trans k01 kA).le (fun b hb => by cases hb; exact hG.mB), kt3, by rw [hg3.block _ (Array.getElem?_eq_some_iff.1 ((kA.block _ hz1).trans r1.out)).1 (by intro e; cases e; obtain ⟨es, clock, hm9⟩ := hmA.out; have := (kA.block _ hz1).trans r1.out; rw [hm9] at this; cases this)]; exact (kA.block _ hz1).trans r1.out, fun j hj => by simp [GX.put, Value.ownBlock]⟩
        have hbx : (X.put d.ft w1.heap.size).bx X.n = w1.heap.size := by simp [GX.put]
        rw [← hbx]
        refine region6 hSt hr hl.out hc.out ?_ (fun _ _ d _ _ h => by cases d <;> exact h) _ _ _ _ _ _ _ _ _ _ _ _ _ _ _ _ _ _ _ _ _ _ _ _ _ _ _ _ _ _ _ _ _ _ _ _ _ _ _ _ _ _ _ _ _ _ _ _ _ _ _ _ _ _ _ _ _ _ _ ?_
        · simp [GX.put]
        intro y0 y1 y2 y3 y4 y5 y6 y7 y8 y9 y10 v2 va2 cc2 W2 hSt2 hcd2
        have a52 := HNA.out W2 hSt2.kt
        have hmq := hm.out
        go_wp2_with fail
        refine region9 hSt2 hr hl.out hc.out ?_ (fun _ _ d _ _ h => by cases d <;> exact h) _ _ _ _ _ _ _ _ _ _ _ _ _ _ _ _ _ _ _ _ _ _ _ _ _ _ _ _ _ _ _ _ _ _ _ _ _ _ _ _ _ _ _ _ _ _ _ _ _ _ _ _ _ _ _ _ _ _ _ ?_
        · simp [GX.app, GX.put]
        intro z0 z1 z2 z3 z4 z5 z6 z7 z8 z9 z10 v3 va3 cc3 W3 hSt3 hcd3
        go_wp2_with fail
        try simp only [Exit.inBlock, Exit.then]
        refine bodyPost_end (results_none rfl _ _ _) rfl ?_
        refine ⟨⟨_, rfl⟩, _, hSt3.G, ⟨?_, hcd3 (hcd2 (CD.put hCD.2 _ _))⟩, hSt3.k0, (KT.of_keep k1).trans hSt3.kt, Nat.le_refl _⟩
        refine hCD.1.new hh rfl (fun _ => rfl) ?_
        intro i' j' hi' hj'
        have hk2 := hk.out
        have hm2 := hm.out
        rcases (by omega : j' = 0 ∨ j' = 1 ∨ j' = 2) with rfl | rfl | rfl <;> by_cases q : i' = X.n <;> simp [GX.app, GX.put, cnd, q, hk2, hm2] <;> first | exact hk2 | exact hm2 | exact ⟨hk2, hm2⟩
      · have hlk := hG1.look (z := .pointer none) (by rfl) hwf (.pointer none) (.inl ⟨hh, rfl⟩)
        replace hlk : Hid _ := hlk
        obtain ⟨D, hD1, hD2⟩ := hG1.map
        unfold Ct.v Nd.v
        rw [← hw1] at a0 a2 a5
        replace hw1 : Hid _ := hw1
        replace r0 : Hid _ := r0
        replace r1 : Hid _ := r1
        replace hk : Hid _ := hk
        replace hm : Hid _ := hm
        have kA : Keep w1 (w1.alloc (Obj.cells #[.int .i64 d.ft, .slice none 0 0, .slice none 0 0, .slice none 0 0] 33)) := (Keep.refl w1).alloc _
        have hGA := hG1.keep kA
        have hmA := hGA.mapLt
        have hnA := heap_alloc_new w1 (Obj.cells #[.int .i64 d.ft, .slice none 0 0, .slice none 0 0, .slice none 0 0] 33)
        replace hnA : Hid _ := hnA
        replace hmA : Hid _ := hmA
        go_enter Try.func52, Try.ntmps52
        go_wp2_with (first | (at_lookup; rw [hw1.out] at a0 a2 a5 ⊢; refine wpList_look rfl _ _ rfl mb d.ft rfl rfl _ hlk.out ?_; have hkq := hk.out) | (at_mapUpdate; refine wpList_mapUpdate_own _ rfl _ _ _ 74 rfl 3 101 law3 Try.underlying74 pE mb X.n D rfl (ownsMap_block hD1 (((Keep.refl w1).alloc _).block mb hD1.lt)) (by unfold maxLen; omega) _ _ _ rfl rfl (keyOf_int_mk Try.underlying3 hwf) _ [] (pE_box _) ?_; intro w3 hown3 hg3; have kt3 := (KT.of_keep kA).trans (KT.map hg3 hmA.out); have a03 : w3.cell? ⟨w.heap.size, 0, none⟩ = some (.int .u8 d.kd) := by rw [cell_of_row w3 _ 0 _ 83 (0, 0) (kt3.kp _ _ _ r0.out (by decide) (by decide))]; rfl) | go_in)
        have hG3 := hGA.put hh (b := w1.heap.size) k01.le hnA.out (fun i hi e => by have := (Array.getElem?_eq_some_iff.1 (hG1.box i hi).2).1; omega) (w2 := w3) hD2 hown3 hg3
        have hSt : St w0 w1 mb (w.heap.size + 1) X.n N ca cp (X.put d.ft w1.heap.size) w3 := ⟨hG3, Nat.lt_succ_self _, Below.grown (Keep.trans k01 kA) hg3 (Keep.trans k01 kA).le (fun b hb => by cases hb; exact hG.mB), kt3, by rw [hg3.block _ (Array.getElem?_eq_some_iff.1 ((kA.block _ hz1).trans r1.out)).1 (by intro e; cases e; obtain ⟨es, clock, hm9⟩ := hmA.out; have := (kA.block _ hz1).trans r1.out; rw [hm9] at this; cases this)]; exact (kA.block _ hz1).trans r1.out, fun j hj => by simp [GX.put, Value.ownBlock]⟩
        have hbx : (X.put d.ft w1.heap.size).bx X.n = w1.heap.size := by simp [GX.put]
        rw [← hbx]
        refine region6 hSt hr hl.out hc.out ?_ (fun _ _ d _ _ h => by cases d <;> exact h) _ _ _ _ _ _ _ _ _ _ _ _ _ _ _ _ _ _ _ _ _ _ _ _ _ _ _ _ _ _ _ _ _ _ _ _ _ _ _ _ _ _ _ _ _ _ _ _ _ _ _ _ _ _ _ _ _ _ _ ?_
        · simp [GX.put]
        intro y0 y1 y2 y3 y4 y5 y6 y7 y8 y9 y10 v2 va2 cc2 W2 hSt2 hcd2
        have a52 := HNA.out W2 hSt2.kt
        have hmq := hmn.out hm.out
        go_wp2_with fail
        try simp only [Exit.inBlock, Exit.then]
        refine bodyPost_end (results_none rfl _ _ _) rfl ?_
        refine ⟨⟨_, rfl⟩, _, hSt2.G, ⟨?_, hcd2 (CD.put hCD.2 _ _)⟩, hSt2.k0, (KT.of_keep k1).trans hSt2.kt, Nat.le_refl _⟩
        refine hCD.1.new hh rfl (fun _ => rfl) ?_
        intro i' j' hi' hj'
        have hk2 := hk.out
        have hm2 := hm.out
        rcases (by omega : j' = 0 ∨ j' = 1 ∨ j' = 2) with rfl | rfl | rfl <;> by_cases q : i' = X.n <;> simp [GX.app, GX.put, cnd, q, hk2, hm2] <;> first | exact hk2 | exact hm2 | exact ⟨hk2, hm2⟩
    · by_cases hm : d.ms = 2
      · have hlk := hG1.look (z := .pointer none) (by rfl) hwf (.pointer none) (.inl ⟨hh, rfl⟩)
        replace hlk : Hid _ := hlk
        obtain ⟨D, hD1, hD2⟩ := hG1.map
        unfold Ct.v Nd.v
        rw [← hw1] at a0 a2 a5
        replace hw1 : Hid _ := hw1
        replace r0 : Hid _ := r0
        replace r1 : Hid _ := r1
        replace hk : Hid _ := hk
        replace hm : Hid _ := hm
        have kA : Keep w1 (w1.alloc (Obj.cells #[.int .i64 d.ft, .slice none 0 0, .slice none 0 0, .slice none 0 0] 33)) := (Keep.refl w1).alloc _
        have hGA := hG1.keep kA
        have hmA := hGA.mapLt
        have hnA := heap_alloc_new w1 (Obj.cells #[.int .i64 d.ft, .slice none 0 0, .slice none 0 0, .slice none 0 0] 33)
        replace hnA : Hid _ := hnA
        replace hmA : Hid _ := hmA
        go_enter Try.func52, Try.ntmps52
        go_wp2_with (first | (at_lookup; rw [hw1.out] at a0 a2 a5 ⊢; refine wpList_look rfl _ _ rfl mb d.ft rfl rfl _ hlk.out ?_; have hkq := hkn.out hk.out) | (at_mapUpdate; refine wpList_mapUpdate_own _ rfl _ _ _ 74 rfl 3 101 law3 Try.underlying74 pE mb X.n D rfl (ownsMap_block hD1 (((Keep.refl w1).alloc _).block mb hD1.lt)) (by unfold maxLen; omega) _ _ _ rfl rfl (keyOf_int_mk Try.underlying3 hwf) _ [] (pE_box _) ?_; intro w3 hown3 hg3; have kt3 := (KT.of_keep kA).trans (KT.map hg3 hmA.out); have a03 : w3.cell? ⟨w.heap.size, 0, none⟩ = some (.int .u8 d.kd) := by rw [cell_of_row w3 _ 0 _ 83 (0, 0) (kt3.kp _ _ _ r0.out (by decide) (by decide))]; rfl) | go_in)
        have hG3 := hGA.put hh (b := w1.heap.size) k01.le hnA.out (fun i hi e => by have := (Array.getElem?_eq_some_iff.1 (hG1.box i hi).2).1; omega) (w2 := w3) hD2 hown3 hg3
        have hSt : St w0 w1 mb (w.heap.size + 1) X.n N ca cp (X.put d.ft w1.heap.size) w3 := ⟨hG3, Nat.lt_succ_self _, Below.grown (Keep.trans k01 kA) hg3 (Keep.trans k01 kA).le (fun b hb => by cases hb; exact hG.mB), kt3, by rw [hg3.block _ (Array.getElem?_eq_some_iff.1 ((kA.block _ hz1).trans r1.out)).1 (by intro e; cases e; obtain ⟨es, clock, hm9⟩ := hmA.out; have := (kA.block _ hz1).trans r1.out; rw [hm9] at this; cases this)]; exact (kA.block _ hz1).trans r1.out, fun j hj => by simp [GX.put, Value.ownBlock]⟩
        have hbx : (X.put d.ft w1.heap.size).bx X.n = w1.heap.size := by simp [GX.put]
        rw [← hbx]
        refine region7 hSt hr hl.out hc.out ?_ (fun _ _ d _ _ h => by cases d <;> exact h) _ _ _ _ _ _ _ _ _ _ _ _ _ _ _ _ _ _ _ _ _ _ _ _ _ _ _ _ _ _ _ _ _ _ _ _ _ _ _ _ _ _ _ _ _ _ _ _ _ _ _ _ _ _ _ _ _ _ _ ?_
        · simp [GX.put]
        intro y0 y1 y2 y3 y4 y5 y6 y7 y8 y9 y10 v2 va2 cc2 W2 hSt2 hcd2
        have a52 := HNA.out W2 hSt2.kt
        have hmq := hm.out
        go_wp2_with fail
        refine region9 hSt2 hr hl.out hc.out ?_ (fun _ _ d _ _ h => by cases d <;> exact h) _ _ _ _ _ _ _ _ _ _ _ _ _ _ _ _ _ _ _ _ _ _ _ _ _ _ _ _ _ _ _ _ _ _ _ _ _ _ _ _ _ _ _ _ _ _ _ _ _ _ _ _ _ _ _ _ _ _ _ ?_
        · simp [GX.app, GX.put]
        intro z0 z1 z2 z3 z4 z5 z6 z7 z8 z9 z10 v3 va3 cc3 W3 hSt3 hcd3
        go_wp2_with fail
        try simp only [Exit.inBlock, Exit.then]
        refine bodyPost_end (results_none rfl _ _ _) rfl ?_
        refine ⟨⟨_, rfl⟩, _, hSt3.G, ⟨?_, hcd3 (hcd2 (CD.put hCD.2 _ _))⟩, hSt3.k0, (KT.of_keep k1).trans hSt3.kt, Nat.le_refl _⟩
        refine hCD.1.new hh rfl (fun _ => rfl) ?_
        intro i' j' hi' hj'
        have hk2 := hk.out
        have hm2 := hm.out
        rcases (by omega : j' = 0 ∨ j' = 1 ∨ j' = 2) with rfl | rfl | rfl <;> by_cases q : i' = X.n <;> simp [GX.app, GX.put, cnd, q, hk2, hm2] <;> first | exact hk2 | exact hm2 | exact ⟨hk2, hm2⟩
      · have hlk := hG1.look (z := .pointer none) (by rfl) hwf (.pointer none) (.inl ⟨hh, rfl⟩)
        replace hlk : Hid _ := hlk
        obtain ⟨D, hD1, hD2⟩ := hG1.map
        unfold Ct.v Nd.v
        rw [← hw1] at a0 a2 a5
        replace hw1 : Hid _ := hw1
        replace r0 : Hid _ := r0
        replace r1 : Hid _ := r1
        replace hk : Hid _ := hk
        replace hm : Hid _ := hm
        have kA : Keep w1 (w1.alloc (Obj.cells #[.int .i64 d.ft, .slice none 0 0, .slice none 0 0, .slice none 0 0] 33)) := (Keep.refl w1).alloc _
        have hGA := hG1.keep kA
        have hmA := hGA.mapLt
        have hnA := heap_alloc_new w1 (Obj.cells #[.int .i64 d.ft, .slice none 0 0, .slice none 0 0, .slice none 0 0] 33)
        replace hnA : Hid _ := hnA
        replace hmA : Hid _ := hmA
        go_enter Try.func52, Try.ntmps52
        go_wp2_with (first | (at_lookup; rw [hw1.out] at a0 a2 a5 ⊢; refine wpList_look rfl _ _ rfl mb d.ft rfl rfl _ hlk.out ?_; have hkq := hkn.out hk.out) | (at_mapUpdate; refine wpList_mapUpdate_own _ rfl _ _ _ 74 rfl 3 101 law3 Try.underlying74 pE mb X.n D rfl (ownsMap_block hD1 (((Keep.refl w1).alloc _).block mb hD1.lt)) (by unfold maxLen; omega) _ _ _ rfl rfl (keyOf_int_mk Try.underlying3 hwf) _ [] (pE_box _) ?_; intro w3 hown3 hg3; have kt3 := (KT.of_keep kA).trans (KT.map hg3 hmA.out); have a03 : w3.cell? ⟨w.heap.size, 0, none⟩ = some (.int .u8 d.kd) := by rw [cell_of_row w3 _ 0 _ 83 (0, 0) (kt3.kp _ _ _ r0.out (by decide) (by decide))]; rfl) | go_in)
        have hG3 := hGA.put hh (b := w1.heap.size) k01.le hnA.out (fun i hi e => by have := (Array.getElem?_eq_some_iff.1 (hG1.box i hi).2).1; omega) (w2 := w3) hD2 hown3 hg3
        have hSt : St w0 w1 mb (w.heap.size + 1) X.n N ca cp (X.put d.ft w1.heap.size) w3 := ⟨hG3, Nat.lt_succ_self _, Below.grown (Keep.trans k01 kA) hg3 (Keep.trans k01 kA).le (fun b hb => by cases hb; exact hG.mB), kt3, by rw [hg3.block _ (Array.getElem?_eq_some_iff.1 ((kA.block _ hz1).trans r1.out)).1 (by intro e; cases e; obtain ⟨es, clock, hm9⟩ := hmA.out; have := (kA.block _ hz1).trans r1.out; rw [hm9] at this; cases this)]; exact (kA.block _ hz1).trans r1.out, fun j hj => by simp [GX.put, Value.ownBlock]⟩
        have hbx : (X.put d.ft w1.heap.size).bx X.n = w1.heap.size := by simp [GX.put]
        rw [← hbx]
        refine region7 hSt hr hl.out hc.out ?_ (fun _ _ d _ _ h => by cases d <;> exact h) _ _ _ _ _ _ _ _ _ _ _ _ _ _ _ _ _ _ _ _ _ _ _ _ _ _ _ _ _ _ _ _ _ _ _ _ _ _ _ _ _ _ _ _ _ _ _ _ _ _ _ _ _ _ _ _ _ _ _ ?_
        · simp [GX.put]
        intro y0 y1 y2 y3 y4 y5 y6 y7 y8 y9 y10 v2 va2 cc2 W2 hSt2 hcd2
        have a52 := HNA.out W2 hSt2.kt
        have hmq := hmn.out hm.out
        go_wp2_with fail
        try simp only [Exit.inBlock, Exit.then]
        refine bodyPost_end (results_none rfl _ _ _) rfl ?_
        refine ⟨⟨_, rfl⟩, _, hSt2.G, ⟨?_, hcd2 (CD.put hCD.2 _ _)⟩, hSt2.k0, (KT.of_keep k1).trans hSt2.kt, Nat.le_refl _⟩
        refine hCD.1.new hh rfl (fun _ => rfl) ?_
        intro i' j' hi' hj'
        have hk2 := hk.out
        have hm2 := hm.out
        rcases (by omega : j' = 0 ∨ j' = 1 ∨ j' = 2) with rfl | rfl | rfl <;> by_cases q : i' = X.n <;> simp [GX.app, GX.put, cnd, q, hk2, hm2] <;> first | exact hk2 | exact hm2 | exact ⟨hk2, hm2⟩
end Go.Proofs.Ytaogjiffnebnkaa.Ow
