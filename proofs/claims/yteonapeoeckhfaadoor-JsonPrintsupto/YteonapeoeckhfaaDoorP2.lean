import Derived.Test.YteonapeoeckhfaaDoorJ11
import Derived.Lib.AppendStr
import Derived.Lib.UnsafeStr
set_option linter.unusedVariables false
set_option linter.unusedSimpArgs false
namespace Go.Proofs.YteonapeoeckhfaaDoor
open Go.RowKit Go.Shelf
/-- A hexadecimal digit. -/
def hxD (n : Nat) : UInt8 := [48, 49, 50, 51, 52, 53, 54, 55, 56, 57, 97, 98, 99, 100, 101, 102].getD n 0
/-- A text's byte as it is written. -/
def wrt (b : UInt8) : List UInt8 :=
  if b = 34 then [92, 34] else if b = 92 then [92, 92] else if b = 8 then [92, 98] else if b = 12 then [92, 102] else if b = 10 then [92, 110]
  else if b = 13 then [92, 114] else if b = 9 then [92, 116] else if b.toNat < 32 then [92, 117, 48, 48, hxD (b.toNat / 16), hxD (b.toNat % 16)] else [b]
/-- A text as it is written. -/
def qt (l : List UInt8) : List UInt8 := [34] ++ l.flatMap wrt ++ [34]
/-- What stands ahead of an item. -/
def sep (k : Nat) (ns : List ByteArray) (i : Nat) : List UInt8 := (if i = 0 then [] else [44]) ++ (if k = 7 then qt (ns.getD i ByteArray.empty).data.toList ++ [58] else [])
/-- The first items, written one behind the other. -/
def wnP (k : Nat) (ns : List ByteArray) (ps : List (List UInt8)) : Nat → List UInt8
  | 0 => []
  | i + 1 => wnP k ns ps i ++ sep k ns i ++ ps.getD i []
/-- A value as it is written. -/
def pr : J → List UInt8
  | .mk k t ns is =>
    if k = 1 then [110, 117, 108, 108] else if k = 2 then [102, 97, 108, 115, 101] else if k = 3 then [116, 114, 117, 101]
    else if k = 4 then t.data.toList else if k = 5 then qt t.data.toList
    else if k = 6 then [91] ++ wnP k ns (is.attach.map (fun x => have := List.sizeOf_lt_of_mem x.2; pr x.1)) is.length ++ [93]
    else if k = 7 then [123] ++ wnP k ns (is.attach.map (fun x => have := List.sizeOf_lt_of_mem x.2; pr x.1)) is.length ++ [125]
    else []
def wn (k : Nat) (ns : List ByteArray) (is : List J) (i : Nat) : List UInt8 := wnP k ns (is.map pr) i
theorem wn_succ (k : Nat) (ns : List ByteArray) (is : List J) {i : Nat} (h : i < is.length) : wn k ns is (i + 1) = wn k ns is i ++ sep k ns i ++ pr (is.getD i j0) := by
  unfold wn
  rw [wnP]
  congr 1
  simp [List.getD, h]
theorem pr_eq (k : Nat) (t : ByteArray) (ns : List ByteArray) (is : List J) : pr (.mk k t ns is) =
    if k = 1 then [110, 117, 108, 108] else if k = 2 then [102, 97, 108, 115, 101] else if k = 3 then [116, 114, 117, 101]
    else if k = 4 then t.data.toList else if k = 5 then qt t.data.toList
    else if k = 6 then [91] ++ wn k ns is is.length ++ [93]
    else if k = 7 then [123] ++ wn k ns is is.length ++ [125]
    else [] := by
  rw [pr]
  have e : is.attach.map (fun x => have := List.sizeOf_lt_of_mem x.2; pr x.1) = is.map pr := List.attach_map_val
  rw [e]
  rfl
end Go.Proofs.YteonapeoeckhfaaDoor
set_option linter.unusedVariables false
set_option linter.unusedSimpArgs false
namespace Go.Proofs.YteonapeoeckhfaaDoor
open Go.RowKit Go.Shelf
/-- What a printer turns: its own block and rows of bytes that were made since. -/
structure Kw (B g : Nat) (w w' : World) : Prop where
  os : w'.os = w.os
  tape : w'.tape = w.tape
  output : w'.output = w.output
  size : w.heap.size ≤ w'.heap.size
  block : ∀ k o, w.heap[k]? = some o → k ≠ g → (k < B ∨ ∀ cur z, o ≠ .cells cur 5 z) → w'.heap[k]? = some o
theorem Kw.refl (B g : Nat) (w : World) : Kw B g w w := ⟨rfl, rfl, rfl, Nat.le_refl _, fun _ _ h _ _ => h⟩
theorem Kw.trans {B g : Nat} {a b c : World} (h : Kw B g a b) (k : Kw B g b c) : Kw B g a c :=
  ⟨k.os.trans h.os, k.tape.trans h.tape, k.output.trans h.output, Nat.le_trans h.size k.size, fun j o ho h1 h2 => k.block j o (h.block j o ho h1 h2) h1 h2⟩
theorem Kw.of_keep {B g : Nat} {a b : World} (h : Keep a b) : Kw B g a b := ⟨h.os, h.tape, h.output, h.size, fun k o ho _ _ => h.at ho⟩
/-- All that was there at first is there. -/
theorem Kw.keep {W w w' : World} {g : Nat} (h : Keep W w) (k : Kw W.heap.size g w w') (hg : W.heap.size ≤ g) : Keep W w' := by
  refine ⟨k.os.trans h.os, k.tape.trans h.tape, k.output.trans h.output, Nat.le_trans h.size k.size, fun j hj => ?_⟩
  obtain ⟨o, ho⟩ : ∃ o, W.heap[j]? = some o := ⟨W.heap[j], by simp [hj]⟩
  rw [ho]
  exact k.block j o (h.at ho) (by omega) (.inl hj)
/-- A printer, and what it has written so far. -/
structure Pp (W w : World) (g : Nat) (l : List UInt8) : Prop where
  kp : Keep W w
  hg : W.heap.size ≤ g
  box : ∃ v, w.heap[g]? = some (.cells #[v] 59 (0, 0)) ∧ w.ownsRow W.heap.size 5 1 v l.length (Lib.byteCells l)
theorem own_keep' {B e s n : Nat} {w w' : World} {v : Value} {l : List Value} (h : w.ownsRow B e s v n l) (k : ∀ b o, v.ownBlock = some b → w.heap[b]? = some o → w'.heap[b]? = some o) : w'.ownsRow B e s v n l := by
  refine ⟨h.1, ?_⟩
  rcases h.2 with h2 | ⟨g, cap, cur, hv, hg, hh, r⟩
  · exact .inl h2
  · exact .inr ⟨g, cap, cur, hv, hg, k g _ (by rw [hv]; rfl) hh, r⟩
theorem own_blk {B e s n : Nat} {w : World} {v : Value} {l : List Value} (h : w.ownsRow B e s v n l) {b : Nat} (hb : v.ownBlock = some b) : B ≤ b ∧ ∃ cur, w.heap[b]? = some (.cells cur e (0, 0)) := by
  rcases h.2 with ⟨h1, _⟩ | ⟨g, cap, cur, hv, hg, hh, r⟩
  · rw [h1] at hb; cases hb
  · rw [hv] at hb
    have hb : some g = some b := hb
    simp only [Option.some.injEq] at hb
    subst hb
    exact ⟨hg, cur, hh⟩
theorem own_sl {B e s n : Nat} {w : World} {v : Value} {l : List Value} (h : w.ownsRow B e s v n l) : ∃ a c, v = .slice a n c ∧ n ≤ c := by
  have hl := h.1
  rcases h.2 with ⟨h1, h2⟩ | ⟨g, cap, cur, hv, hg, hh, h1, h2, h3, h4⟩
  · exact ⟨none, 0, by rw [h1, h2], by omega⟩
  · exact ⟨some ⟨g, 0, none⟩, cap, hv, h1⟩
theorem Pp.keep {W w w' : World} {g : Nat} {l : List UInt8} (h : Pp W w g l) (k : Keep w w') : Pp W w' g l := by
  obtain ⟨v, hb, ho⟩ := h.box
  exact ⟨h.kp.trans k, h.hg, v, k.at hb, own_keep' ho (fun b o _ hbo => k.at hbo)⟩
theorem iU8 : (Tryd.prog.info? 5).map (fun i => (i.zero, i.size, i.bytes)) = some (some (.int .u8 0), 1, 1) := by kernel_rfl
/-- p.text = append(p.text, s...), at a printer. -/
theorem Pp.add {W w : World} {g : Nat} {l : List UInt8} (h : Pp W w g l) (u : List UInt8) (hl : l.length + u.length ≤ 16777216) :
    ∃ v c cap v' w', w.cell? ⟨g, 0, none⟩ = some v ∧ v = .slice c l.length cap ∧ (Builtin.append_ #[22, 9] 22 #[v, .string ⟨u.toArray⟩]).run Tryd.prog w = .ok v' w' ∧
      w'.cell? ⟨g, 0, none⟩ = some v ∧ w'.frozen? ⟨g, 0, none⟩ = false ∧ (∃ a b d, v' = .slice a b d) ∧ Pp W (w'.setCell ⟨g, 0, none⟩ v') g (l ++ u) ∧ Kw W.heap.size g w (w'.setCell ⟨g, 0, none⟩ v') := by
  obtain ⟨v, hb, ho⟩ := h.box
  obtain ⟨i0, hi, hz0, hz1, hz2⟩ := info_parts iU8
  obtain ⟨c, cap, hv, hcap⟩ := own_sl ho
  have hsz : (ByteArray.mk u.toArray).size = u.length := sz_mk u
  obtain ⟨v', w', hr, h2, h3, -⟩ := Lib.run_append_own_string (P := Tryd.prog) (w := w) W.heap.size 22 9 22 5 i0 Tryd.underlying22 Tryd.underlying9 hi hz0 hz1 hz2 v _ _ ho ⟨u.toArray⟩ (by rw [hsz]; simp only [maxLen]; omega) (by rw [hsz]; omega) h.kp.size
  rw [hsz] at h2
  have hcells : Lib.byteCells l ++ Lib.strCells ⟨u.toArray⟩ = Lib.byteCells (l ++ u) := by
    rw [Lib.strCells_eq, Lib.byteCells_append]
  rw [hcells] at h2
  have hglt : g < w.heap.size := (Array.getElem?_eq_some_iff.1 hb).1
  have hgrow : some g ≠ v.ownBlock := by
    intro e
    obtain ⟨-, cur, hh⟩ := own_blk ho e.symm
    rw [hb] at hh
    simp at hh
  have hb' : w'.heap[g]? = some (.cells #[v] 59 (0, 0)) := by rw [h3.block g hglt hgrow]; exact hb
  obtain ⟨a', b', hv', -⟩ := own_sl h2
  have hset : (w'.setCell ⟨g, 0, none⟩ v').heap[g]? = some (.cells #[v'] 59 (0, 0)) := by
    have := heap_setCell_same w' g 0 _ 59 v' hb'
    simpa using this
  have kw : Kw W.heap.size g w (w'.setCell ⟨g, 0, none⟩ v') := by
    refine ⟨h3.os, h3.tape, h3.output, by rw [World.size_setCell]; exact h3.size, fun k o hk hkg hor => ?_⟩
    rw [Below.heap_setCell _ _ _ _ (by simpa using hkg)]
    rw [h3.block k (Array.getElem?_eq_some_iff.1 hk).1 ?_]
    · exact hk
    · intro e
      obtain ⟨hB, cur, hh⟩ := own_blk ho e.symm
      rcases hor with hor | hor
      · omega
      · rw [hk] at hh
        simp only [Option.some.injEq] at hh
        exact hor _ _ hh
  refine ⟨v, c, cap, v', w', ?_, hv, hr, ?_, frozen_of_row w' g 0 _ 59 hb', ⟨_, _, _, hv'⟩, ⟨Kw.keep h.kp kw h.hg, h.hg, v', hset, ?_⟩, kw⟩
  · rw [cell_of_row w g 0 _ 59 (0, 0) hb]; rfl
  · rw [cell_of_row w' g 0 _ 59 (0, 0) hb']; rfl
  · rw [List.length_append]
    refine own_keep' h2 (fun b o hbv hbo => ?_)
    rw [Below.heap_setCell _ _ _ _ ?_]
    · exact hbo
    · intro e
      have e' : b = g := by simpa using e
      subst e'
      obtain ⟨-, cur, hh⟩ := own_blk h2 hbv
      rw [hb'] at hh
      simp at hh
theorem wpList_appRun {w : World} {ops : Array Oper} {rest : List Oper} {o : Oper} {a : Act} {Q : Exit → Act → World → Prop} (hgd : o.guard = none) (sl x : Operand)
    (ho : o.op = .call { callee := .builtin .append, args := #[sl, x], argTypes := #[22, 9] }) (v : Value) (s : ByteArray) (v' : Value) (w' : World) (hs : a.eval sl = v) (hx : a.eval x = .string s)
    (hr : (Builtin.append_ #[22, 9] o.type #[v, .string s]).run Tryd.prog w = .ok v' w') (hK : wpList Tryd.prog ops Q rest (a.put o.dst v') w') : wpList Tryd.prog ops Q (o :: rest) a w := by
  refine wpList_plain hgd fun K hK' => ?_
  unfold Oper.wp execOp
  simp only [ho, resolve, invoke, builtin, Sem.run_bind, Sem.run_pure, Result.andThen_ok, List.map_toArray, List.map_cons, List.map_nil, hs, hx, hr]
  exact hK' _ _ hK
/-- What a call that writes T behind l comes to. -/
def PO (W : World) (g : Nat) (l T : List UInt8) (w : World) (e : Ending) (w' : World) : Prop :=
  (l.length + T.length ≤ 16777216 → e = .returned (.tuple #[]) ∧ Pp W w' g (l ++ T)) ∧ (¬ l.length + T.length ≤ 16777216 → e = .panicked [PE 4 0]) ∧ Kw W.heap.size g w w'
set_option maxRecDepth 100000 in
set_option maxHeartbeats 2000000 in
theorem write_any (W : World) (g : Nat) (l u : List UInt8) (w : World) (h : Pp W w g l) (hl : l.length ≤ 16777216) (hu : u.length ≤ 9223372036854775807) :
    Calls Tryd.prog 53 #[.pointer (some ⟨g, 0, none⟩), .string ⟨u.toArray⟩] w (PO W g l u w) := by
  have hsz : (ByteArray.mk u.toArray).size = u.length := sz_mk u
  by_cases hfit : l.length + u.length ≤ 16777216
  · obtain ⟨v, c, cap, v', w', c0, hv, hr, c1, z1, ⟨a1, b1, d1, hv'⟩, hp, kw⟩ := h.add u hfit
    have HP : Hid (PO W g l u w (.returned (.tuple #[])) (w'.setCell ⟨g, 0, none⟩ v')) := ⟨fun _ => ⟨rfl, hp⟩, fun q => absurd hfit q, kw⟩
    subst hv hv'
    clear hp kw h
    obtain ⟨n, hn⟩ : ∃ n, u.length = n := ⟨_, rfl⟩
    obtain ⟨m, hm⟩ : ∃ m, l.length = m := ⟨_, rfl⟩
    rw [hn] at hsz
    rw [hm] at hr c0 c1
    have hw : IntKind.i64.wrap (16777216 - (m : Int)) = ((16777216 - m : Nat) : Int) := by rw [IntWalk.i64_left, show (16777216 : Int) - (m : Int) = ((16777216 - m : Nat) : Int) by omega]; exact IntWalk.wrap64_in _ (by omega)
    have hw2 : wrap64 (16777216 - (m : Int)) = ((16777216 - m : Nat) : Int) := by rw [show (16777216 : Int) - (m : Int) = ((16777216 - m : Nat) : Int) by omega]; exact IntWalk.wrap64_in _ (by omega)
    obtain ⟨r, hre⟩ : ∃ r, 16777216 - m = r := ⟨_, rfl⟩
    rw [hre] at hw hw2
    have hg1 : ¬ ((n : Int) > (r : Int)) := by omega
    have hg2 : decide ((r : Int) < (n : Int)) = false := decide_eq_false (by omega)
    have hg3 : ¬ r < n := by omega
    clear hfit hn hm hre hu hl
    go_enter Tryd.func53, Tryd.ntmps53
    go_wp2_with (at_builtin; refine wpList_appRun rfl _ _ rfl _ _ _ _ rfl rfl hr ?_)
    go_end0
    exact HP.out
  · obtain ⟨v, hb, ho⟩ := h.box
    obtain ⟨c, cap, hv, hcap⟩ := own_sl ho
    have c0 : w.cell? ⟨g, 0, none⟩ = some (.slice c l.length cap) := by rw [cell_of_row w g 0 _ 59 (0, 0) hb, ← hv]; rfl
    have HP : Hid (PO W g l u w (.panicked [PE 4 0]) w) := ⟨fun q => absurd q hfit, fun _ => rfl, Kw.refl _ _ _⟩
    subst hv
    clear h hb ho
    obtain ⟨n, hn⟩ : ∃ n, u.length = n := ⟨_, rfl⟩
    obtain ⟨m, hm⟩ : ∃ m, l.length = m := ⟨_, rfl⟩
    rw [hn] at hsz hfit
    rw [hm] at c0 hfit hl
    have hw : IntKind.i64.wrap (16777216 - (m : Int)) = ((16777216 - m : Nat) : Int) := by rw [IntWalk.i64_left, show (16777216 : Int) - (m : Int) = ((16777216 - m : Nat) : Int) by omega]; exact IntWalk.wrap64_in _ (by omega)
    have hw2 : wrap64 (16777216 - (m : Int)) = ((16777216 - m : Nat) : Int) := by rw [show (16777216 : Int) - (m : Int) = ((16777216 - m : Nat) : Int) by omega]; exact IntWalk.wrap64_in _ (by omega)
    obtain ⟨r, hre⟩ : ∃ r, 16777216 - m = r := ⟨_, rfl⟩
    rw [hre] at hw hw2
    have hg1 : ((n : Int) > (r : Int)) := by omega
    have hg2 : decide ((r : Int) < (n : Int)) = true := decide_eq_true (by omega)
    have hg3 : r < n := by omega
    clear hfit hn hm hre hu hl
    go_enter Tryd.func53, Tryd.ntmps53
    go_wp2
    exact ⟨rfl, HP.out⟩
end Go.Proofs.YteonapeoeckhfaaDoor
set_option linter.unusedVariables false
set_option linter.unusedSimpArgs false
namespace Go.Proofs.YteonapeoeckhfaaDoor
open Go.RowKit Go.Shelf
theorem run_ix0 (b : UInt8) (w : World) : (Instr.index 9 (.string ⟨[b].toArray⟩) (.int .i64 0)).run Tryd.prog w = .ok (.int .u8 (b.toNat : Nat)) w := by
  have h1 : (0 : Int) ≤ 0 ∧ (0 : Int) < ((ByteArray.mk [b].toArray).size : Int) := by rw [sz_mk]; simp
  rw [run_index_string w 9 _ .i64 0 Tryd.underlying9, dif_pos h1]
  rfl
theorem hx_run (n : Nat) (h : n < 16) (w : World) : (Instr.index 9 (.string { data := #[48, 49, 50, 51, 52, 53, 54, 55, 56, 57, 97, 98, 99, 100, 101, 102] }) (.int .u8 (n : Int))).run Tryd.prog w = .ok (.int .u8 ((hxD n).toNat : Nat)) w := by
  have h1 : (0 : Int) ≤ (n : Int) ∧ (n : Int) < ((ByteArray.mk #[48, 49, 50, 51, 52, 53, 54, 55, 56, 57, 97, 98, 99, 100, 101, 102]).size : Int) := by
    have : (ByteArray.mk #[48, 49, 50, 51, 52, 53, 54, 55, 56, 57, 97, 98, 99, 100, 101, 102]).size = 16 := rfl
    rw [this]; omega
  rw [run_index_string w 9 _ .u8 n Tryd.underlying9, dif_pos h1]
  have e : ∀ m : Fin 16, (ByteArray.mk #[48, 49, 50, 51, 52, 53, 54, 55, 56, 57, 97, 98, 99, 100, 101, 102])[m.val]'(m.isLt) = hxD m.val := by decide
  have := e ⟨n, h⟩
  simp only at this
  have hn : ((n : Int)).toNat = n := by omega
  congr 3
  exact congrArg UInt8.toNat this
set_option maxRecDepth 100000 in
theorem and15 : ∀ X : Fin 256, bits .and .u8 ((X.val : Nat) : Int) 15 = ((X.val % 16 : Nat) : Int) := by decide
theorem said7 (w : World) : (Instr.slice 9 (.string { data := #[34, 92, 8, 12, 10, 13, 9, 47] }) none (some (.int .i64 7)) none).run Tryd.prog w = .ok (.string { data := #[34, 92, 8, 12, 10, 13, 9] }) w := by kernel_rfl
set_option maxRecDepth 100000 in
set_option maxHeartbeats 2000000 in
theorem written_34 (hI : IxC) (w : World) : Calls Tryd.prog 67 #[.string { data := #[34] }] w fun e w' => e = .returned (.string { data := #[92, 34] }) ∧ Keep w w' := by
  have h0 : ∀ wx : World, (Instr.index 9 (.string { data := #[34] }) (.int .i64 0)).run Tryd.prog wx = .ok (.int .u8 34) wx := fun _ => by kernel_rfl
  have h7 := said7
  have hi := fun wx => hI [34, 92, 8, 12, 10, 13, 9] 34 wx
  have e1 : Lib.indexByte [34, 92, 8, 12, 10, 13, 9] 34 = 0 := by decide
  rw [e1] at hi
  have e2 : (((34 : UInt8).toNat : Nat) : Int) = 34 := by decide
  rw [e2] at hi
  clear e1 e2
  have hsl : ∀ wx : World, (Instr.slice 9 (.string { data := #[34, 92, 98, 102, 110, 114, 116, 47] }) (some (.int .i64 0)) (some (.int .i64 1)) none).run Tryd.prog wx = .ok (.string { data := #[34] }) wx := fun _ => by kernel_rfl
  have had : ∀ wx : World, (binOp .add 9 (.string { data := #[92] }) (.string { data := #[34] })).run Tryd.prog wx = .ok (.string { data := #[92, 34] }) wx := fun _ => by kernel_rfl
  clear hI
  go_enter Tryd.func67, Tryd.ntmps67
  go_wp2_with (go_at_call 82; refine (hi _).mono ?_; clear hi; rintro e w2 ⟨rfl, rfl⟩)
  go_ret
  exact ⟨rfl, Keep.refl _⟩
set_option maxRecDepth 100000 in
set_option maxHeartbeats 2000000 in
theorem written_92 (hI : IxC) (w : World) : Calls Tryd.prog 67 #[.string { data := #[92] }] w fun e w' => e = .returned (.string { data := #[92, 92] }) ∧ Keep w w' := by
  have h0 : ∀ wx : World, (Instr.index 9 (.string { data := #[92] }) (.int .i64 0)).run Tryd.prog wx = .ok (.int .u8 92) wx := fun _ => by kernel_rfl
  have h7 := said7
  have hi := fun wx => hI [34, 92, 8, 12, 10, 13, 9] 92 wx
  have e1 : Lib.indexByte [34, 92, 8, 12, 10, 13, 9] 92 = 1 := by decide
  rw [e1] at hi
  have e2 : (((92 : UInt8).toNat : Nat) : Int) = 92 := by decide
  rw [e2] at hi
  clear e1 e2
  have hsl : ∀ wx : World, (Instr.slice 9 (.string { data := #[34, 92, 98, 102, 110, 114, 116, 47] }) (some (.int .i64 1)) (some (.int .i64 2)) none).run Tryd.prog wx = .ok (.string { data := #[92] }) wx := fun _ => by kernel_rfl
  have had : ∀ wx : World, (binOp .add 9 (.string { data := #[92] }) (.string { data := #[92] })).run Tryd.prog wx = .ok (.string { data := #[92, 92] }) wx := fun _ => by kernel_rfl
  clear hI
  go_enter Tryd.func67, Tryd.ntmps67
  go_wp2_with (go_at_call 82; refine (hi _).mono ?_; clear hi; rintro e w2 ⟨rfl, rfl⟩)
  go_ret
  exact ⟨rfl, Keep.refl _⟩
set_option maxRecDepth 100000 in
set_option maxHeartbeats 2000000 in
theorem written_8 (hI : IxC) (w : World) : Calls Tryd.prog 67 #[.string { data := #[8] }] w fun e w' => e = .returned (.string { data := #[92, 98] }) ∧ Keep w w' := by
  have h0 : ∀ wx : World, (Instr.index 9 (.string { data := #[8] }) (.int .i64 0)).run Tryd.prog wx = .ok (.int .u8 8) wx := fun _ => by kernel_rfl
  have h7 := said7
  have hi := fun wx => hI [34, 92, 8, 12, 10, 13, 9] 8 wx
  have e1 : Lib.indexByte [34, 92, 8, 12, 10, 13, 9] 8 = 2 := by decide
  rw [e1] at hi
  have e2 : (((8 : UInt8).toNat : Nat) : Int) = 8 := by decide
  rw [e2] at hi
  clear e1 e2
  have hsl : ∀ wx : World, (Instr.slice 9 (.string { data := #[34, 92, 98, 102, 110, 114, 116, 47] }) (some (.int .i64 2)) (some (.int .i64 3)) none).run Tryd.prog wx = .ok (.string { data := #[98] }) wx := fun _ => by kernel_rfl
  have had : ∀ wx : World, (binOp .add 9 (.string { data := #[92] }) (.string { data := #[98] })).run Tryd.prog wx = .ok (.string { data := #[92, 98] }) wx := fun _ => by kernel_rfl
  clear hI
  go_enter Tryd.func67, Tryd.ntmps67
  go_wp2_with (go_at_call 82; refine (hi _).mono ?_; clear hi; rintro e w2 ⟨rfl, rfl⟩)
  go_ret
  exact ⟨rfl, Keep.refl _⟩
set_option maxRecDepth 100000 in
set_option maxHeartbeats 2000000 in
theorem written_12 (hI : IxC) (w : World) : Calls Tryd.prog 67 #[.string { data := #[12] }] w fun e w' => e = .returned (.string { data := #[92, 102] }) ∧ Keep w w' := by
  have h0 : ∀ wx : World, (Instr.index 9 (.string { data := #[12] }) (.int .i64 0)).run Tryd.prog wx = .ok (.int .u8 12) wx := fun _ => by kernel_rfl
  have h7 := said7
  have hi := fun wx => hI [34, 92, 8, 12, 10, 13, 9] 12 wx
  have e1 : Lib.indexByte [34, 92, 8, 12, 10, 13, 9] 12 = 3 := by decide
  rw [e1] at hi
  have e2 : (((12 : UInt8).toNat : Nat) : Int) = 12 := by decide
  rw [e2] at hi
  clear e1 e2
  have hsl : ∀ wx : World, (Instr.slice 9 (.string { data := #[34, 92, 98, 102, 110, 114, 116, 47] }) (some (.int .i64 3)) (some (.int .i64 4)) none).run Tryd.prog wx = .ok (.string { data := #[102] }) wx := fun _ => by kernel_rfl
  have had : ∀ wx : World, (binOp .add 9 (.string { data := #[92] }) (.string { data := #[102] })).run Tryd.prog wx = .ok (.string { data := #[92, 102] }) wx := fun _ => by kernel_rfl
  clear hI
  go_enter Tryd.func67, Tryd.ntmps67
  go_wp2_with (go_at_call 82; refine (hi _).mono ?_; clear hi; rintro e w2 ⟨rfl, rfl⟩)
  go_ret
  exact ⟨rfl, Keep.refl _⟩
set_option maxRecDepth 100000 in
set_option maxHeartbeats 2000000 in
theorem written_10 (hI : IxC) (w : World) : Calls Tryd.prog 67 #[.string { data := #[10] }] w fun e w' => e = .returned (.string { data := #[92, 110] }) ∧ Keep w w' := by
  have h0 : ∀ wx : World, (Instr.index 9 (.string { data := #[10] }) (.int .i64 0)).run Tryd.prog wx = .ok (.int .u8 10) wx := fun _ => by kernel_rfl
  have h7 := said7
  have hi := fun wx => hI [34, 92, 8, 12, 10, 13, 9] 10 wx
  have e1 : Lib.indexByte [34, 92, 8, 12, 10, 13, 9] 10 = 4 := by decide
  rw [e1] at hi
  have e2 : (((10 : UInt8).toNat : Nat) : Int) = 10 := by decide
  rw [e2] at hi
  clear e1 e2
  have hsl : ∀ wx : World, (Instr.slice 9 (.string { data := #[34, 92, 98, 102, 110, 114, 116, 47] }) (some (.int .i64 4)) (some (.int .i64 5)) none).run Tryd.prog wx = .ok (.string { data := #[110] }) wx := fun _ => by kernel_rfl
  have had : ∀ wx : World, (binOp .add 9 (.string { data := #[92] }) (.string { data := #[110] })).run Tryd.prog wx = .ok (.string { data := #[92, 110] }) wx := fun _ => by kernel_rfl
  clear hI
  go_enter Tryd.func67, Tryd.ntmps67
  go_wp2_with (go_at_call 82; refine (hi _).mono ?_; clear hi; rintro e w2 ⟨rfl, rfl⟩)
  go_ret
  exact ⟨rfl, Keep.refl _⟩
set_option maxRecDepth 100000 in
set_option maxHeartbeats 2000000 in
theorem written_13 (hI : IxC) (w : World) : Calls Tryd.prog 67 #[.string { data := #[13] }] w fun e w' => e = .returned (.string { data := #[92, 114] }) ∧ Keep w w' := by
  have h0 : ∀ wx : World, (Instr.index 9 (.string { data := #[13] }) (.int .i64 0)).run Tryd.prog wx = .ok (.int .u8 13) wx := fun _ => by kernel_rfl
  have h7 := said7
  have hi := fun wx => hI [34, 92, 8, 12, 10, 13, 9] 13 wx
  have e1 : Lib.indexByte [34, 92, 8, 12, 10, 13, 9] 13 = 5 := by decide
  rw [e1] at hi
  have e2 : (((13 : UInt8).toNat : Nat) : Int) = 13 := by decide
  rw [e2] at hi
  clear e1 e2
  have hsl : ∀ wx : World, (Instr.slice 9 (.string { data := #[34, 92, 98, 102, 110, 114, 116, 47] }) (some (.int .i64 5)) (some (.int .i64 6)) none).run Tryd.prog wx = .ok (.string { data := #[114] }) wx := fun _ => by kernel_rfl
  have had : ∀ wx : World, (binOp .add 9 (.string { data := #[92] }) (.string { data := #[114] })).run Tryd.prog wx = .ok (.string { data := #[92, 114] }) wx := fun _ => by kernel_rfl
  clear hI
  go_enter Tryd.func67, Tryd.ntmps67
  go_wp2_with (go_at_call 82; refine (hi _).mono ?_; clear hi; rintro e w2 ⟨rfl, rfl⟩)
  go_ret
  exact ⟨rfl, Keep.refl _⟩
set_option maxRecDepth 100000 in
set_option maxHeartbeats 2000000 in
theorem written_9 (hI : IxC) (w : World) : Calls Tryd.prog 67 #[.string { data := #[9] }] w fun e w' => e = .returned (.string { data := #[92, 116] }) ∧ Keep w w' := by
  have h0 : ∀ wx : World, (Instr.index 9 (.string { data := #[9] }) (.int .i64 0)).run Tryd.prog wx = .ok (.int .u8 9) wx := fun _ => by kernel_rfl
  have h7 := said7
  have hi := fun wx => hI [34, 92, 8, 12, 10, 13, 9] 9 wx
  have e1 : Lib.indexByte [34, 92, 8, 12, 10, 13, 9] 9 = 6 := by decide
  rw [e1] at hi
  have e2 : (((9 : UInt8).toNat : Nat) : Int) = 9 := by decide
  rw [e2] at hi
  clear e1 e2
  have hsl : ∀ wx : World, (Instr.slice 9 (.string { data := #[34, 92, 98, 102, 110, 114, 116, 47] }) (some (.int .i64 6)) (some (.int .i64 7)) none).run Tryd.prog wx = .ok (.string { data := #[116] }) wx := fun _ => by kernel_rfl
  have had : ∀ wx : World, (binOp .add 9 (.string { data := #[92] }) (.string { data := #[116] })).run Tryd.prog wx = .ok (.string { data := #[92, 116] }) wx := fun _ => by kernel_rfl
  clear hI
  go_enter Tryd.func67, Tryd.ntmps67
  go_wp2_with (go_at_call 82; refine (hi _).mono ?_; clear hi; rintro e w2 ⟨rfl, rfl⟩)
  go_ret
  exact ⟨rfl, Keep.refl _⟩
/-- []byte{x, y} as a string. -/
theorem hx_at (n : Nat) (h : n < 16) (z : Int) (hz : z = (n : Int)) : ∀ hh : z.toNat < (ByteArray.mk #[48, 49, 50, 51, 52, 53, 54, 55, 56, 57, 97, 98, 99, 100, 101, 102]).size, (ByteArray.mk #[48, 49, 50, 51, 52, 53, 54, 55, 56, 57, 97, 98, 99, 100, 101, 102])[z.toNat]'hh = hxD n := by
  intro hh
  subst hz
  have e : ∀ m : Fin 16, (ByteArray.mk #[48, 49, 50, 51, 52, 53, 54, 55, 56, 57, 97, 98, 99, 100, 101, 102])[m.val]'(m.isLt) = hxD m.val := by decide
  exact e ⟨n, h⟩
theorem conv2 (w : World) (x y : UInt8) : (convert 22 9 (.slice (some ⟨w.heap.size, 0, none⟩) 2 2)).run Tryd.prog (w.alloc (.cells #[.int .u8 (x.toNat : Int), .int .u8 (y.toNat : Int)] 5)).drew = .ok (.string { data := #[x, y] }) (w.alloc (.cells #[.int .u8 (x.toNat : Int), .int .u8 (y.toNat : Int)] 5)).drew := by
  have hr : (w.alloc (.cells #[.int .u8 (x.toNat : Int), .int .u8 (y.toNat : Int)] 5)).drew.heap[w.heap.size]? = some (.cells #[.int .u8 (x.toNat : Int), .int .u8 (y.toNat : Int)] 5 (0, 0)) := heap_alloc_new w _
  have := convB (w.alloc (.cells #[.int .u8 (x.toNat : Int), .int .u8 (y.toNat : Int)] 5)).drew w.heap.size 0 2 [x, y] (fun j hj => by
    rw [cell_of_row _ _ _ _ 5 (0, 0) hr]
    match j, hj with
    | 0, _ => rfl
    | 1, _ => rfl)
  exact this
theorem idx_no {ts : List UInt8} {b : UInt8} (h : b ∉ ts) : Lib.indexByte ts b < 0 := (ixB ts b).2 h
set_option maxRecDepth 100000 in
set_option maxHeartbeats 2000000 in
theorem written_low (hI : IxC) (b : UInt8) (hb : b.toNat < 32) (hn : b ∉ [34, 92, 8, 12, 10, 13, 9]) (w : World) : Calls Tryd.prog 67 #[.string ⟨[b].toArray⟩] w fun e w' => e = .returned (.string ⟨[92, 117, 48, 48, hxD (b.toNat / 16), hxD (b.toNat % 16)].toArray⟩) ∧ Keep w w' := by
  have h0 := run_ix0 b
  have h7 := said7
  have hi := fun wx => hI [34, 92, 8, 12, 10, 13, 9] b wx
  have hlt := idx_no hn
  generalize Lib.indexByte [34, 92, 8, 12, 10, 13, 9] b = r at hi hlt
  have hlt2 : ¬ r ≥ 0 := by omega
  obtain ⟨n, hnn⟩ : ∃ n, b.toNat = n := ⟨_, rfl⟩
  rw [hnn] at h0 hi hb ⊢
  have a15 := and15 ⟨n, by omega⟩
  simp only at a15
  have x1 := hx_at (n / 16) (by omega) ((n : Int) / 16) (by omega)
  have x2 := hx_at (n % 16) (by omega) ((n : Int) % 16) (by omega)
  have cv := fun wx => conv2 wx (hxD (n / 16)) (hxD (n % 16))
  have had : ∀ wx : World, (binOp .add 9 (.string { data := #[92, 117, 48, 48] }) (.string { data := #[hxD (n / 16), hxD (n % 16)] })).run Tryd.prog wx = .ok (.string { data := #[92, 117, 48, 48, hxD (n / 16), hxD (n % 16)] }) wx := fun _ => by kernel_rfl
  clear hI hn hnn
  go_enter Tryd.func67, Tryd.ntmps67
  go_wp2_with (go_at_call 82; refine (hi _).mono ?_; clear hi; rintro e w2 ⟨rfl, rfl⟩)
  go_region_with (fail)
  all_goals
    try go_simp
    try go_wp2_with fail
    go_ret
    exact ⟨rfl, ((Keep.refl _).alloc _).drew⟩
set_option maxRecDepth 100000 in
set_option maxHeartbeats 2000000 in
theorem written_any' (hI : IxC) (b : UInt8) (hb : ¬ b.toNat < 32) (hn : b ∉ [34, 92, 8, 12, 10, 13, 9]) (w : World) : Calls Tryd.prog 67 #[.string ⟨[b].toArray⟩] w fun e w' => e = .returned (.string ⟨[b].toArray⟩) ∧ Keep w w' := by
  have h0 := run_ix0 b
  have h7 := said7
  have hi := fun wx => hI [34, 92, 8, 12, 10, 13, 9] b wx
  have hlt := idx_no hn
  generalize Lib.indexByte [34, 92, 8, 12, 10, 13, 9] b = r at hi hlt
  have hlt2 : ¬ r ≥ 0 := by omega
  obtain ⟨n, hnn⟩ : ∃ n, b.toNat = n := ⟨_, rfl⟩
  rw [hnn] at h0 hi hb
  clear hI hn hnn
  go_enter Tryd.func67, Tryd.ntmps67
  go_wp2_with (go_at_call 82; refine (hi _).mono ?_; clear hi; rintro e w2 ⟨rfl, rfl⟩)
  go_ret
  exact ⟨rfl, Keep.refl _⟩
theorem written_any (hI : IxC) (b : UInt8) (w : World) : Calls Tryd.prog 67 #[.string ⟨[b].toArray⟩] w fun e w' => e = .returned (.string ⟨(wrt b).toArray⟩) ∧ Keep w w' := by
  unfold wrt
  by_cases h1 : b = 34
  · subst h1; exact written_34 hI w
  by_cases h2 : b = 92
  · subst h2; exact written_92 hI w
  by_cases h3 : b = 8
  · subst h3; exact written_8 hI w
  by_cases h4 : b = 12
  · subst h4; exact written_12 hI w
  by_cases h5 : b = 10
  · subst h5; exact written_10 hI w
  by_cases h6 : b = 13
  · subst h6; exact written_13 hI w
  by_cases h7 : b = 9
  · subst h7; exact written_9 hI w
  have hn : b ∉ [34, 92, 8, 12, 10, 13, 9] := by simp [h1, h2, h3, h4, h5, h6, h7]
  rw [if_neg h1, if_neg h2, if_neg h3, if_neg h4, if_neg h5, if_neg h6, if_neg h7]
  by_cases hb : b.toNat < 32
  · rw [if_pos hb]; exact written_low hI b hb hn w
  · rw [if_neg hb]; exact written_any' hI b hb hn w
end Go.Proofs.YteonapeoeckhfaaDoor
