import Derived.Test.YteonapeoeckhfaaDoorQ7
import Derived.Maps.OwnOps
import Derived.Lib.BufferWrite
import Derived.Deep.RegionLaw
set_option linter.unusedVariables false
set_option linter.unusedSimpArgs false
namespace Go.Proofs.YteonapeoeckhfaaDoor
open Go.RowKit Go.Shelf Go.Maps
theorem K5 : Keyed Tryd.prog 5 := int_keyed Tryd.underlying5
theorem zero5 (w : World) : (zeroValue 5).run Tryd.prog w = .ok (.int .u8 0) w := by kernel_rfl
theorem wf8 {c : Nat} (h : c < 256) : (Lit.int .u8 (c : Int)).wf = true := by
  have : c = (⟨c, h⟩ : Fin 256).val := rfl
  rw [this]
  generalize (⟨c, h⟩ : Fin 256) = f
  revert f
  decide +kernel
/-- The bytes that a text writes by a letter of their own. -/
def nmv (c : Nat) : Nat := if c = 34 then 34 else if c = 92 then 92 else if c = 8 then 98 else if c = 12 then 102 else if c = 10 then 110 else if c = 13 then 114 else if c = 9 then 116 else 0
def upd (f : Nat → Nat) (k v : Nat) : Nat → Nat := fun c => if c = k then v else f c
/-- A map from bytes to bytes. -/
def NmM (w : World) (b n : Nat) (f : Nat → Nat) : Prop := ∃ D : DataW Unit, w.ownsMap Tryd.prog 5 (plainElem Tryd.prog 5) b n D ∧ ∀ c : Nat, c < 256 → D.atKey (.int .u8 (c : Int)) (.lit (.int .u8 0)) = .lit (.int .u8 (f c : Nat))
theorem NmM.made (w : World) : NmM (w.alloc (.map #[] 0)) w.heap.size 0 (fun _ => 0) := ⟨.map [], World.ownsMap_made _ _ _ _, fun c _ => rfl⟩
theorem NmM.same {w w' : World} {b n : Nat} {f : Nat → Nat} (h : NmM w b n f) (e : w'.heap[b]? = w.heap[b]?) : NmM w' b n f := by
  obtain ⟨D, ⟨es, clock, hb, r⟩, hh⟩ := h
  exact ⟨D, ⟨es, clock, e.trans hb, r⟩, hh⟩
theorem NmM.lt {w : World} {b n : Nat} {f : Nat → Nat} (h : NmM w b n f) : b < w.heap.size := by
  obtain ⟨D, h1, -⟩ := h
  exact h1.lt
theorem NmM.isMap {w : World} {b n : Nat} {f : Nat → Nat} (h : NmM w b n f) : ∃ es cl, w.heap[b]? = some (.map es cl) := by
  obtain ⟨D, ⟨es, clock, hb, r⟩, hh⟩ := h
  exact ⟨es, clock, hb⟩
theorem NmM.keep {w w' : World} {b n : Nat} {f : Nat → Nat} (h : NmM w b n f) (k : Keep w w') : NmM w' b n f := h.same (k.block b h.lt)
theorem lit_ne5 {c k : Nat} (h : c ≠ k) : Lit.int .u8 (c : Int) ≠ Lit.int .u8 (k : Int) := by
  intro e
  simp only [Lit.int.injEq] at e
  omega
theorem NmM.look {w : World} {b n : Nat} {f : Nat → Nat} (h : NmM w b n f) {c : Nat} (hc : c < 256) : (Instr.lookup 81 (.map (some b)) (.int .u8 (c : Int)) false).run Tryd.prog w = .ok (.int .u8 (f c : Nat)) w := by
  obtain ⟨D, h1, hh⟩ := h
  obtain ⟨v, hrun, hv, -⟩ := h1.lookup_int K5 Tryd.underlying81 Tryd.underlying5 (zero5 w) (keyOf_int_mk Tryd.underlying5 (wf8 hc))
  rw [hh c hc] at hv
  simp at hv
  rw [hrun, hv]
theorem NmM.put {w : World} {b n : Nat} {f : Nat → Nat} (h : NmM w b n f) (hn : n ≤ 1000) {k v : Nat} (hk : k < 256) (hv : v < 256) :
    ∃ w', (Instr.mapUpdate 81 (.map (some b)) (.int .u8 (k : Int)) (.int .u8 (v : Int))).run Tryd.prog w = .ok () w' ∧ NmM w' b (n + 1) (upd f k v) ∧ w.grownBy w' (some b) := by
  obtain ⟨D, h1, hh⟩ := h
  have hm := h1.isMap
  obtain ⟨w', hrun, h2, h3⟩ := h1.update K5 Tryd.underlying81 (by simp only [maxLen]; omega) (keyOf_int_mk Tryd.underlying5 (wf8 hk)) (plainElem_int Tryd.underlying5 (wf8 hv))
  refine ⟨w', hrun, ⟨_, h2, fun c hc => ?_⟩, h3⟩
  unfold upd
  by_cases e : c = k
  · subst e
    rw [if_pos rfl, atKey_put_same hm (show WideAt.IsKeyLit (.int .u8 (c : Int)) from trivial)]
  · rw [if_neg e, atKey_put_other (lit_ne5 e), hh c hc]
/-- The map of names, as the reference makes it. -/
theorem NmM.names {w : World} {b : Nat} {n : Nat} (h : NmM w b n (upd (upd (upd (upd (upd (upd (upd (fun _ => 0) 34 34) 92 92) 8 98) 12 102) 10 110) 13 114) 9 116)) : NmM w b n nmv := by
  obtain ⟨D, h1, hh⟩ := h
  refine ⟨D, h1, fun c hc => (hh c hc).trans ?_⟩
  have : upd (upd (upd (upd (upd (upd (upd (fun _ => 0) 34 34) 92 92) 8 98) 12 102) 10 110) 13 114) 9 116 c = nmv c := by
    unfold upd nmv
    repeat' split
    all_goals first | rfl | omega
  rw [this]
theorem wrt_named {b : UInt8} (h : nmv b.toNat ≠ 0) : wrt b = [92, UInt8.ofNat (nmv b.toNat)] := by
  revert h
  have : ∀ x : Fin 256, nmv x.val ≠ 0 → wrt (UInt8.ofNat x.val) = [92, UInt8.ofNat (nmv x.val)] := by decide +kernel
  intro h
  have := this ⟨b.toNat, UInt8.toNat_lt b⟩
  simp only [UInt8.ofNat_toNat] at this
  exact this h
theorem wrt_low {b : UInt8} (h : nmv b.toNat = 0) (hl : b.toNat < 32) : wrt b = [92, 117, 48, 48, hxD (b.toNat / 16), hxD (b.toNat % 16)] := by
  revert h hl
  have : ∀ x : Fin 256, nmv x.val = 0 → x.val < 32 → wrt (UInt8.ofNat x.val) = [92, 117, 48, 48, hxD (x.val / 16), hxD (x.val % 16)] := by decide +kernel
  intro h hl
  have := this ⟨b.toNat, UInt8.toNat_lt b⟩
  simp only [UInt8.ofNat_toNat] at this
  exact this h hl
theorem wrt_self {b : UInt8} (h : nmv b.toNat = 0) (hl : ¬ b.toNat < 32) : wrt b = [b] := by
  revert h hl
  have : ∀ x : Fin 256, nmv x.val = 0 → ¬ x.val < 32 → wrt (UInt8.ofNat x.val) = [UInt8.ofNat x.val] := by decide +kernel
  intro h hl
  have := this ⟨b.toNat, UInt8.toNat_lt b⟩
  simp only [UInt8.ofNat_toNat] at this
  exact this h hl
theorem nmv_lt (c : Nat) : nmv c < 256 := by unfold nmv; repeat' split
                                             all_goals omega
/-- Bytes in a row of one's own. -/
def OwnB (B : Nat) (w : World) (v : Value) (l : List UInt8) : Prop := w.ownsRow B 5 1 v l.length (Lib.byteCells l)
theorem appB_sep (B : Nat) (w : World) (ty : Nat) (v : Value) (l u : List UInt8) (hown : OwnB B w v l) (hB : B ≤ w.heap.size) (g c : Nat) (o : Obj) (ho : o = .cells (Lib.byteCells u).toArray 5) (hg : w.heap[g]? = some o) (hlen : l.length + u.length ≤ 140737488355328) :
    ∃ v' w', (Builtin.append_ #[22, 22] ty #[v, .slice (some ⟨g, 0, none⟩) u.length c]).run Tryd.prog w = .ok v' w' ∧ OwnB B w' v' (l ++ u) ∧ w.grownBy w' v.ownBlock := by
  obtain ⟨i0, hi, hz0, hz1, hz2⟩ := info_parts iU8
  subst ho
  obtain ⟨v', w', hr, h2, h3, -⟩ := run_append_own (P := Tryd.prog) w B 22 ty 5 i0 _ 1 1 Tryd.underlying22 hi hz0 hz1 hz2 rfl (by decide) v _ _ hown ⟨g, 0, none⟩ u.length c (Lib.byteCells u) (by rw [Lib.byteCells_length]; omega) (by
    intro j x hj
    have e : (⟨g, 0, none⟩ : Addr).add j = ⟨g, j, none⟩ := by
      unfold Addr.add
      split <;> simp_all
    rw [e, cell_of_row w g j _ 5 (0, 0) hg]
    simpa using hj) (Lib.byteCells_one u) (by simp only [maxLen]; omega) (by omega) hB
  refine ⟨v', w', hr, ?_, h3⟩
  unfold OwnB; rw [List.length_append, Lib.byteCells_append]; exact h2
theorem OwnB.keep {B : Nat} {w w' : World} {v : Value} {l : List UInt8} (h : OwnB B w v l) (k : Keep w w') : OwnB B w' v l := own_keep' h (fun b o _ hbo => k.at hbo)
theorem OwnB.shape {B : Nat} {w : World} {v : Value} {l : List UInt8} (h : OwnB B w v l) : ∃ a c, v = .slice a l.length c := by
  obtain ⟨a, c, h1, -⟩ := own_sl h
  exact ⟨a, c, h1⟩
/-- What the loop of quoted keeps: nothing that was there turns, and the map lies apart from the row. -/
structure QtK (B g : Nat) (w w' : World) : Prop where
  kp : Keep w w'
  hg : w.heap.size ≤ g
  nm : ∃ n, NmM w' g n nmv
theorem QtK.keep {B g : Nat} {w w' w'' : World} (h : QtK B g w w') (k : Keep w' w'') : QtK B g w w'' := by
  obtain ⟨n, hn⟩ := h.nm
  exact ⟨h.kp.trans k, h.hg, n, hn.keep k⟩
theorem QtK.app {g : Nat} {w w' w'' : World} {v : Value} {l : List UInt8} (h : QtK w.heap.size g w w') (ho : OwnB w.heap.size w' v l) (gr : w'.grownBy w'' v.ownBlock) : QtK w.heap.size g w w'' := by
  obtain ⟨n, hn⟩ := h.nm
  refine ⟨⟨gr.os.trans h.kp.os, gr.tape.trans h.kp.tape, gr.output.trans h.kp.output, Nat.le_trans h.kp.size gr.size, fun k hk => ?_⟩, h.hg, n, ?_⟩
  · rw [gr.block k (Nat.lt_of_lt_of_le hk h.kp.size) ?_]
    · exact h.kp.block k hk
    · intro e
      have := (own_blk ho e.symm).1
      omega
  · refine hn.same ?_
    rw [gr.block g hn.lt ?_]
    intro e
    obtain ⟨-, cur, hh⟩ := own_blk ho e.symm
    obtain ⟨es, cl, hm⟩ := hn.isMap
    rw [hm] at hh
    simp at hh
end Go.Proofs.YteonapeoeckhfaaDoor
set_option linter.unusedVariables false
set_option linter.unusedSimpArgs false
namespace Go.Proofs.YteonapeoeckhfaaDoor
open Go.RowKit Go.Shelf
theorem wpList_appRunB {w : World} {ops : Array Oper} {rest : List Oper} {o : Oper} {a : Act} {Q : Exit → Act → World → Prop} (hgd : o.guard = none) (sl x : Operand)
    (ho : o.op = .call { callee := .builtin .append, args := #[sl, x], argTypes := #[22, 22] }) (v v2 : Value) (v' : Value) (w' : World) (hs : a.eval sl = v) (hx : a.eval x = v2)
    (hr : (Builtin.append_ #[22, 22] o.type #[v, v2]).run Tryd.prog w = .ok v' w') (hK : wpList Tryd.prog ops Q rest (a.put o.dst v') w') : wpList Tryd.prog ops Q (o :: rest) a w := by
  refine wpList_plain hgd fun K hK' => ?_
  unfold Oper.wp execOp
  simp only [ho, resolve, invoke, builtin, Sem.run_bind, Sem.run_pure, Result.andThen_ok, List.map_toArray, List.map_cons, List.map_nil, hs, hx, hr]
  exact hK' _ _ hK
theorem step_appRunB {W : World} {ops : Array Oper} {o : Oper} {a : Act} {K : Act → World → Prop} {Q : Exit → Act → World → Prop} {E : Prop} (hgd : o.guard = none) (s x : Operand)
    (ho : o.op = .call { callee := .builtin .append, args := #[s, x], argTypes := #[22, 22] }) (v v2 v' : Value) (w' : World) (hs : a.eval s = v) (hx : a.eval x = v2) (hr : (Builtin.append_ #[22, 22] o.type #[v, v2]).run Tryd.prog W = .ok v' w')
    (hK : K (a.put o.dst v') w') :
    if Region.wanted o (yielded ops a.tmps) = true then Oper.wp Tryd.prog o a W K Q else E := by
  have hw : Region.wanted o (yielded ops a.tmps) = true := by simp [Region.wanted, hgd]
  rw [if_pos hw]
  unfold Oper.wp execOp
  simp only [ho, resolve, invoke, builtin, Sem.run_bind, Sem.run_pure, Result.andThen_ok, List.map_toArray, List.map_cons, List.map_nil, hs, hx, hr]
  exact hK
theorem run_makeMap81 (w : World) : (Instr.makeMap 81 none).run Tryd.prog w = .ok (.map (some w.heap.size)) (w.alloc (.map #[] 0)) := by
  simp [Instr.makeMap, run_underlying Tryd.underlying81]
/-- The map of seven names, made. -/
theorem names_made (w : World) : ∃ w1 w2 w3 w4 w5 w6 w7, 
    (Instr.mapUpdate 81 (.map (some w.heap.size)) (.int .u8 34) (.int .u8 34)).run Tryd.prog (w.alloc (.map #[] 0)) = .ok () w1 ∧
    (Instr.mapUpdate 81 (.map (some w.heap.size)) (.int .u8 92) (.int .u8 92)).run Tryd.prog w1 = .ok () w2 ∧
    (Instr.mapUpdate 81 (.map (some w.heap.size)) (.int .u8 8) (.int .u8 98)).run Tryd.prog w2 = .ok () w3 ∧
    (Instr.mapUpdate 81 (.map (some w.heap.size)) (.int .u8 12) (.int .u8 102)).run Tryd.prog w3 = .ok () w4 ∧
    (Instr.mapUpdate 81 (.map (some w.heap.size)) (.int .u8 10) (.int .u8 110)).run Tryd.prog w4 = .ok () w5 ∧
    (Instr.mapUpdate 81 (.map (some w.heap.size)) (.int .u8 13) (.int .u8 114)).run Tryd.prog w5 = .ok () w6 ∧
    (Instr.mapUpdate 81 (.map (some w.heap.size)) (.int .u8 9) (.int .u8 116)).run Tryd.prog w6 = .ok () w7 ∧
    Keep w w7 ∧ NmM w7 w.heap.size 7 nmv := by
  have m0 := NmM.made w
  have k0 := (Keep.refl w).alloc (.map #[] 0)
  obtain ⟨w1, r1, m1, g1⟩ := m0.put (k := 34) (v := 34) (by omega) (by omega) (by omega)
  obtain ⟨w2, r2, m2, g2⟩ := m1.put (k := 92) (v := 92) (by omega) (by omega) (by omega)
  obtain ⟨w3, r3, m3, g3⟩ := m2.put (k := 8) (v := 98) (by omega) (by omega) (by omega)
  obtain ⟨w4, r4, m4, g4⟩ := m3.put (k := 12) (v := 102) (by omega) (by omega) (by omega)
  obtain ⟨w5, r5, m5, g5⟩ := m4.put (k := 10) (v := 110) (by omega) (by omega) (by omega)
  obtain ⟨w6, r6, m6, g6⟩ := m5.put (k := 13) (v := 114) (by omega) (by omega) (by omega)
  obtain ⟨w7, r7, m7, g7⟩ := m6.put (k := 9) (v := 116) (by omega) (by omega) (by omega)
  have k1 := Kb.keep k0 (Kb.of_grown g1) (Nat.le_refl _)
  have k2 := Kb.keep k1 (Kb.of_grown g2) (Nat.le_refl _)
  have k3 := Kb.keep k2 (Kb.of_grown g3) (Nat.le_refl _)
  have k4 := Kb.keep k3 (Kb.of_grown g4) (Nat.le_refl _)
  have k5 := Kb.keep k4 (Kb.of_grown g5) (Nat.le_refl _)
  have k6 := Kb.keep k5 (Kb.of_grown g6) (Nat.le_refl _)
  have k7 := Kb.keep k6 (Kb.of_grown g7) (Nat.le_refl _)
  exact ⟨w1, w2, w3, w4, w5, w6, w7, r1, r2, r3, r4, r5, r6, r7, k7, m7.names⟩
theorem own_made (w : World) (l : List UInt8) (hl : l.length ≤ 281474976710656) : OwnB w.heap.size (w.alloc (.cells (Lib.byteCells l).toArray 5)) (.slice (some ⟨w.heap.size, 0, none⟩) l.length l.length) l :=
  ⟨by rw [Lib.byteCells_length]; omega, .inr ⟨w.heap.size, l.length, (Lib.byteCells l).toArray, rfl, Nat.le_refl _, heap_alloc_new w _, Nat.le_refl _, by simp only [maxLen]; omega, by simp [Lib.byteCells_length], by rw [Nat.mul_one, show (Lib.byteCells l).toArray.toList = Lib.byteCells l from rfl]; exact List.take_of_length_le (by rw [Lib.byteCells_length]; exact Nat.le_refl _)⟩⟩
theorem run_at (l : List UInt8) (i : Nat) (h : i < l.length) (w : World) : (Instr.index 9 (.string ⟨l.toArray⟩) (.int .i64 (i : Int))).run Tryd.prog w = .ok (.int .u8 ((l.getD i 0).toNat : Nat)) w := by
  have h1 : (0 : Int) ≤ i ∧ (i : Int) < (ByteArray.mk l.toArray).size := by rw [sz_mk]; omega
  rw [run_index_string w 9 _ .i64 i Tryd.underlying9, dif_pos h1]
  have e1 : ((i : Int)).toNat = i := by omega
  have : l.getD i 0 = l[i] := by simp [List.getD, h]
  rw [this]
  congr 2
theorem flat_len (l : List UInt8) : (l.flatMap wrt).length ≤ 6 * l.length := by
  induction l with
  | nil => simp
  | cons x l ih => rw [List.flatMap_cons, List.length_append, List.length_cons]; have := wrt_len x; omega
/-- The whole row, as a string. -/
theorem OwnB.conv {B : Nat} {w : World} {v : Value} {l : List UInt8} (h : OwnB B w v l) (hne : 0 < l.length) : (convert 22 9 v).run Tryd.prog w = .ok (.string ⟨l.toArray⟩) w := by
  rcases h.2 with ⟨-, h2⟩ | ⟨g, cap, cur, rfl, hg, hh, r⟩
  · have := h.1; omega
  · refine convB w g 0 cap l (fun j hj => ?_)
    have := World.ownsRow.cells (v := .slice (some ⟨g, 0, none⟩) l.length cap) h (g := g) rfl j (.int .u8 ((l.getD j 0).toNat : Int)) (by simp [Lib.byteCells, List.getD, hj])
    have e : (⟨g, 0, none⟩ : Addr).add j = ⟨g, 0 + j, none⟩ := by
      unfold Addr.add
      split <;> simp_all
    rw [e] at this
    exact this
end Go.Proofs.YteonapeoeckhfaaDoor
