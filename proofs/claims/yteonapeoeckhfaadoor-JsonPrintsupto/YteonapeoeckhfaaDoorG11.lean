import Derived.Test.YteonapeoeckhfaaDoorG9
import Derived.Lib.BufferWrite
import Derived.Lib.UnsafeStr
set_option linter.unusedVariables false
set_option linter.unusedSimpArgs false
namespace Go.Proofs.YteonapeoeckhfaaDoor
open Go.RowKit
theorem i5 : (Tryd.prog.info? 5).map (fun i => (i.zero, i.size, i.bytes)) = some (some (.int .u8 0), 1, 1) := by kernel_rfl
set_option maxRecDepth 100000 in
set_option maxHeartbeats 2000000 in
theorem clone16_any (s : ByteArray) (w : World) (hl : s.size ≤ 281474976710656) : Calls Tryd.prog 60 #[.string s] w fun e w' => e = .returned (.string s) ∧ Keep w w' := by
  by_cases h0 : s.size = 0
  · have h1 : ((s.size : Int) == 0) = true := by simp [h0]
    have hs : s = ⟨#[]⟩ := ByteArray.ext (Array.eq_empty_of_size_eq_zero h0)
    subst hs
    go_enter Tryd.func60, Tryd.ntmps60
    go_wp2_with fail
    go_ret
    exact ⟨rfl, Keep.refl _⟩
  · obtain ⟨i0, hi, hz0, hz1, hz2⟩ := info_parts i5
    have hne : s.data.toList ≠ [] := fun e => h0 (by rw [Lib.size_eq, e]; rfl)
    obtain ⟨M, hM⟩ : ∃ M : Array Value, madeCells (Value.int .u8 0).cells (s.size * 1) = M := ⟨_, rfl⟩
    have hMs : M.size = s.size := by rw [← hM]; simp [madeCells]
    have r1 := fun (wx : World) => run_make (P := Tryd.prog) wx 22 5 i0 _ Tryd.underlying22 hi hz0 .i64 .i64 (s.size : Nat) (s.size : Nat) (by omega) (by omega) (by rw [hz2]; omega) (by omega)
    simp only [hz1, Int.toNat_natCast, hM] at r1
    have g1 : (w.alloc (.cells M 5)).heap[w.heap.size]? = some (.cells M 5 (0, 0)) := heap_alloc_new w _
    have r2 := fun (ty : Nat) => Lib.run_copy_row_string (P := Tryd.prog) (w.alloc (.cells M 5)) 22 9 ty 5 w.heap.size 0 s.size s.size s M 5 Tryd.underlying22 (by rw [hi]; simp [hz1]) g1 (Nat.le_refl _) (by omega)
    obtain ⟨Y, hY⟩ : ∃ Y : Array Value, (M.toList.take 0 ++ Lib.byteCells s.data.toList ++ M.toList.drop (0 + s.size)).toArray = Y := ⟨_, rfl⟩
    rw [hY] at r2
    have hYl : Y.toList = Lib.byteCells s.data.toList := by
      have e : M.toList.drop (0 + s.size) = [] := List.drop_eq_nil_of_le (by rw [Array.length_toList]; omega)
      rw [← hY, e]
      simp
    have hYs : Y.size = s.size := by rw [← Array.length_toList, hYl, Lib.byteCells_length, ← Lib.size_eq]
    have g2 : ((w.alloc (.cells M 5)).setRow w.heap.size Y).heap[w.heap.size]? = some (.cells Y 5 (0, 0)) := setRow_heap _ _ M _ 5 (0, 0) g1
    have r3 := fun (ty : Nat) => Lib.run_unsafeString_row (P := Tryd.prog) ((w.alloc (.cells M 5)).setRow w.heap.size Y) 84 3 ty 5 Tryd.underlying84 (by simp [Program.cellsOf, hi, hz1]) w.heap.size Y.size (by unfold World.shape?; rw [g2]) s.data.toList hne (by rw [← Lib.size_eq]; omega) (by rw [← Lib.size_eq]; omega)
      (fun j x hx => Lib.cells_of_row g2 Y.size j _ (by rw [List.take_of_length_le (by simp), hYl]; simp [Lib.byteCells, hx]))
    rw [← Lib.size_eq] at r3
    have kf : Keep w (((w.alloc (.cells M 5)).setRow w.heap.size Y).freeze ⟨w.heap.size, 0, none⟩ s.size) := by
      have k1 : Below w.heap.size w (w.alloc (.cells M 5)) := (Below.refl _ w).alloc (Nat.le_refl _) _
      have k2 : Below w.heap.size (w.alloc (.cells M 5)) ((w.alloc (.cells M 5)).setRow w.heap.size Y) := ⟨rfl, rfl, rfl, by simp, fun k hk => setRow_other _ _ _ _ (by omega)⟩
      exact Lib.below_freeze (k1.trans k2) (p := ⟨w.heap.size, 0, none⟩) (Nat.le_refl _) _
    have h1 : ((s.size : Int) == 0) = false := by rw [beq_eq_false_iff_ne]; omega
    have h2 : (s.size == 0) = false := by simpa using h0
    clear hY hM
    go_enter Tryd.func60, Tryd.ntmps60
    go_wp2_with fail
    go_ret
    exact ⟨rfl, kf⟩
set_option maxRecDepth 100000 in
theorem Clone_any (s : ByteArray) (w : World) (hl : s.size ≤ 281474976710656) : Calls Tryd.prog 40 #[.string s] w fun e w' => e = .returned (.string s) ∧ Keep w w' := by
  have h := clone16_any s w hl
  go_enter Tryd.func40, Tryd.ntmps40
  go_wp2_with fail
  refine h.mono ?_
  rintro e w1 ⟨rfl, k1⟩
  go_wp2_with fail
  go_ret
  exact ⟨rfl, k1⟩
end Go.Proofs.YteonapeoeckhfaaDoor
set_option linter.unusedVariables false
set_option linter.unusedSimpArgs false
namespace Go.Proofs.YteonapeoeckhfaaDoor
open Go.RowKit
def US (l : List ByteArray) : List Value := l.map (fun x => Value.string x)
def OwnS (B : Nat) (w : World) (v : Value) (l : List ByteArray) : Prop := w.ownsRow B 9 1 v l.length (US l)
theorem US_get (l : List ByteArray) (j : Nat) (h : j < l.length) : (US l)[j]? = some (.string (l.getD j ByteArray.empty)) := by simp [US, List.getD, h]
theorem OwnS.nil (B : Nat) (w : World) : OwnS B w (.slice none 0 0) [] := ⟨rfl, .inl ⟨rfl, rfl⟩⟩
theorem OwnS.shape {B : Nat} {w : World} {v : Value} {l : List ByteArray} (h : OwnS B w v l) : ∃ a c, v = .slice a l.length c ∧ l.length ≤ c ∧ RdS w a l := by
  rcases h.2 with ⟨h1, h2⟩ | ⟨g, cap, cur, hv, hg, hh, h1, h2, h3, h4⟩
  · exact ⟨none, 0, by rw [h1, h2], by omega, fun j hj => by omega⟩
  · refine ⟨some ⟨g, 0, none⟩, cap, hv, h1, ?_⟩
    intro j hj
    refine ⟨g, 0, rfl, ?_⟩
    have e1 : cur.toList[j]? = (US l)[j]? := by rw [← h4, List.getElem?_take, if_pos (by omega)]
    rw [Nat.zero_add, cell_of_row w g _ cur 9 (0, 0) hh, ← US_get l j hj, ← e1]; simp
theorem i9 : (Tryd.prog.info? 9).map (fun i => (i.zero, i.size, i.bytes)) = some (some (.string ByteArray.empty), 1, 16) := by kernel_rfl
theorem wpList_appS (B : Nat) (w : World) {ops : Array Oper} {rest : List Oper} {o : Oper} {a : Act} {Q : Exit → Act → World → Prop} (hgd : o.guard = none) (s x : Operand)
    (hop : o.op = .call { callee := .builtin .append, args := #[s, x], argTypes := #[24, 24] }) (l : List ByteArray) (y : ByteArray) (v : Value) (hs : a.eval s = v) (hown : OwnS B w v l) (hB : B ≤ w.heap.size) (ad : Addr) (hx : a.eval x = .slice (some ad) 1 1)
    (hnews : w.cell? ad = some (.string y)) (hlen : l.length + 1 ≤ 8796093022208)
    (hK : ∀ v' w', OwnS B w' v' (l ++ [y]) → w.grownBy w' v.ownBlock → wpList Tryd.prog ops Q rest (a.put o.dst v') w') :
    wpList Tryd.prog ops Q (o :: rest) a w := by
  obtain ⟨i0, hi, hz0, hz1, hz2⟩ := info_parts i9
  refine wpList_append_own _ hgd s x 24 hop B 9 i0 _ 1 16 Tryd.underlying24 hi hz0 hz1 hz2 rfl (by decide) _ _ _ hs hown ad 1 1 (US [y]) hx (by simp [US]) ?_ ?_ ?_ ?_ hB ?_
  · intro j u hj
    match j, hj with
    | 0, hj =>
      simp [US] at hj
      subst hj
      simpa [Addr.add] using hnews
    | j + 1, hj => simp [US] at hj
  · intro u hu; obtain ⟨_, _, rfl⟩ := List.mem_map.1 hu; rfl
  · simp only [maxLen]; omega
  · omega
  · intro v' w1 h1 h2 _
    refine hK v' w1 ?_ h2
    unfold OwnS
    rw [List.length_append, US, List.map_append]
    exact h1
theorem OwnS.mono {B B' : Nat} {w : World} {v : Value} {l : List ByteArray} (h : OwnS B w v l) (hB : B' ≤ B) : OwnS B' w v l := by
  refine ⟨h.1, ?_⟩
  rcases h.2 with h2 | ⟨g, cap, cur, hv, hg, r⟩
  · exact .inl h2
  · exact .inr ⟨g, cap, cur, hv, Nat.le_trans hB hg, r⟩
/-- Json values as cells, four each. -/
def UJ (K : List (Value × Value × Value × Value)) : List Value := K.flatMap fun x => [x.1, x.2.1, x.2.2.1, x.2.2.2]
theorem UJ_len (K : List (Value × Value × Value × Value)) : (UJ K).length = K.length * 4 := by
  induction K with
  | nil => rfl
  | cons x K ih => simp only [UJ, List.flatMap_cons, List.length_append, List.length_cons, List.length_nil] at ih ⊢; omega
theorem UJ_get (K : List (Value × Value × Value × Value)) (d : Value × Value × Value × Value) (j : Nat) (h : j < K.length) :
    (UJ K)[j * 4]? = some (K.getD j d).1 ∧ (UJ K)[j * 4 + 1]? = some (K.getD j d).2.1 ∧ (UJ K)[j * 4 + 2]? = some (K.getD j d).2.2.1 ∧ (UJ K)[j * 4 + 3]? = some (K.getD j d).2.2.2 := by
  induction K generalizing j with
  | nil => simp at h
  | cons x K ih =>
    rcases j with _ | j
    · simp [UJ]
    · have h' : j < K.length := by simpa using h
      have := ih j h'
      have e : UJ (x :: K) = [x.1, x.2.1, x.2.2.1, x.2.2.2] ++ UJ K := rfl
      rw [e]
      have e2 : ∀ m, ([x.1, x.2.1, x.2.2.1, x.2.2.2] ++ UJ K)[m + 4]? = (UJ K)[m]? := fun m => by
        rw [List.getElem?_append_right (by simp)]; simp
      rw [show (j + 1) * 4 = j * 4 + 4 by omega, show j * 4 + 4 + 1 = j * 4 + 1 + 4 by omega, show j * 4 + 4 + 2 = j * 4 + 2 + 4 by omega, show j * 4 + 4 + 3 = j * 4 + 3 + 4 by omega, e2, e2, e2, e2]
      simpa using this
def OwnJ (B : Nat) (w : World) (v : Value) (K : List (Value × Value × Value × Value)) : Prop := w.ownsRow B 27 4 v K.length (UJ K)
theorem OwnJ.nil (B : Nat) (w : World) : OwnJ B w (.slice none 0 0) [] := ⟨rfl, .inl ⟨rfl, rfl⟩⟩
theorem OwnJ.shape {B : Nat} {w : World} {v : Value} {K : List (Value × Value × Value × Value)} (d : Value × Value × Value × Value) (h : OwnJ B w v K) : ∃ a c, v = .slice a K.length c ∧ K.length ≤ c ∧ ∀ j, j < K.length → ∃ b, a = some ⟨b, 0, none⟩ ∧ B ≤ b ∧ w.cell? ⟨b, 0 + j * 4, none⟩ = some (K.getD j d).1 ∧ w.cell? ⟨b, 0 + j * 4 + 1, none⟩ = some (K.getD j d).2.1 ∧ w.cell? ⟨b, 0 + j * 4 + 2, none⟩ = some (K.getD j d).2.2.1 ∧ w.cell? ⟨b, 0 + j * 4 + 3, none⟩ = some (K.getD j d).2.2.2 := by
  rcases h.2 with ⟨h1, h2⟩ | ⟨g, cap, cur, hv, hg, hh, h1, h2, h3, h4⟩
  · exact ⟨none, 0, by rw [h1, h2], by omega, fun j hj => by omega⟩
  · refine ⟨some ⟨g, 0, none⟩, cap, hv, h1, ?_⟩
    intro j hj
    obtain ⟨p0, p1, p2, p3⟩ := UJ_get K d j hj
    have e1 : ∀ m, m < K.length * 4 → cur[m]? = (UJ K)[m]? := fun m hm => by
      have : cur.toList[m]? = (UJ K)[m]? := by rw [← h4, List.getElem?_take, if_pos hm]
      rw [← this]; simp
    refine ⟨g, rfl, hg, ?_, ?_, ?_, ?_⟩
    · rw [Nat.zero_add, cell_of_row w g _ cur 27 (0, 0) hh, e1 _ (by omega), p0]
    · rw [Nat.zero_add, cell_of_row w g _ cur 27 (0, 0) hh, e1 _ (by omega), p1]
    · rw [Nat.zero_add, cell_of_row w g _ cur 27 (0, 0) hh, e1 _ (by omega), p2]
    · rw [Nat.zero_add, cell_of_row w g _ cur 27 (0, 0) hh, e1 _ (by omega), p3]
end Go.Proofs.YteonapeoeckhfaaDoor
