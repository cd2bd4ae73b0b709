import Derived.Test.YtonfjmibnnioiaaDoorT3
import Derived.Shelf.Strings.Builder1
set_option linter.unusedVariables false
set_option linter.unusedSimpArgs false
namespace Go.Proofs.YtonfjmibnnioiaaDoor
open Go.RowKit Go.Shelf
theorem iB : (Tryd.prog.info? 61).map (·.size) = some 2 := by kernel_rfl
theorem liB : liesAt Tryd.prog Tryd.prog.depth 61 (2 / Tryd.prog.cellsOf 61) 0 61 1 = true := by kernel_rfl
theorem i5 : (Tryd.prog.info? 5).map (fun i => (i.zero, i.size, i.bytes)) = some (some (.int .u8 0), 1, 1) := by kernel_rfl
/-- A builder that was made in the world w0, and has said l. -/
def Bd (w0 : World) (l : List UInt8) (w : World) : Prop := Keep w0 w ∧ Lib.IsBuilder 61 5 w0.heap.size w0.heap.size (Lib.byteCells l) w
theorem Bd.fresh (w : World) : Bd w [] (w.alloc (.cells #[.pointer none, .slice none 0 0] 61)) := ⟨(Keep.refl w).alloc _, Lib.fresh_isBuilder 61 5 w⟩
theorem Bd.keep {w0 w w' : World} {l : List UInt8} (h : Bd w0 l w) (k : Keep w w') : Bd w0 l w' := by
  refine ⟨h.1.trans k, ?_⟩
  rcases h.2 with ⟨h1, v, hb, ho, hn⟩ | ⟨h1, v, hb, ho, hn⟩
  · exact .inl ⟨h1, v, k.at hb, own_keep ho k, hn⟩
  · exact .inr ⟨h1, v, k.at hb, own_keep ho k, hn⟩
theorem Bd.lt {w0 w : World} {l : List UInt8} (h : Bd w0 l w) : w0.heap.size < w.heap.size := by
  rcases h.2 with h | h <;> exact h.lt
/-- A used one. -/
def Bu (w0 : World) (l : List UInt8) (w : World) : Prop := Keep w0 w ∧ ∃ v, w.heap[w0.heap.size]? = some (.cells #[.pointer (some ⟨w0.heap.size, 0, none⟩), v] 61 (0, 0)) ∧ w.ownsRow w0.heap.size 5 1 v l.length (Lib.byteCells l) ∧ v.ownBlock ≠ some w0.heap.size
theorem Bu.bd {w0 w : World} {l : List UInt8} (h : Bu w0 l w) : Bd w0 l w := by
  obtain ⟨k, v, hb, ho, hn⟩ := h
  exact ⟨k, .inr ⟨Nat.le_refl _, v, hb, by rw [Lib.byteCells_length]; exact ho, hn⟩⟩
set_option maxRecDepth 100000 in
theorem check_any (w0 : World) (l : List UInt8) (w : World) (h : Bd w0 l w) : Calls Tryd.prog 61 #[.pointer (some ⟨w0.heap.size, 0, none⟩)] w fun e w' => e = .returned (.tuple #[]) ∧ Bu w0 l w' := by
  obtain ⟨j, hj, hjs⟩ := Option.map_eq_some_iff.1 iB
  obtain ⟨k, h⟩ := h
  rcases h with h | h
  · have h0 := h.cell0
    have hsh := h.shape
    have hfz := h.frozen0
    have hu := h.used (.pointer (some ⟨w0.heap.size, 0, none⟩))
    have kk : Keep w0 (w.setCell ⟨w0.heap.size, 0, none⟩ (.pointer (some ⟨w0.heap.size, 0, none⟩))) := k.setCell (Nat.le_refl _) _
    replace hu : Hid _ := hu
    replace kk : Hid _ := kk
    have hpost : Hid (Bu w0 l (w.setCell ⟨w0.heap.size, 0, none⟩ (.pointer (some ⟨w0.heap.size, 0, none⟩)))) := by
      obtain ⟨h1, v, hb, ho, hn⟩ := hu.out
      exact ⟨kk.out, v, hb, by rw [Lib.byteCells_length] at ho; exact ho, hn⟩
    clear hu kk k h
    generalize w0.heap.size = b at *
    go_enter Tryd.func61, Tryd.ntmps61
    go_wp2
    rw [Lib.run_to_unsafe w ⟨b, 0, none⟩ Tryd.underlying59 Tryd.underlying93 hj (by rw [hjs]; decide) hsh (Nat.zero_lt_succ 1)]
    simp only [Result.andThen]
    rw [Oper.upon_value]
    go_wp2
    rw [run_callFunc_extern Tryd.func73 (by kernel_rfl) (by kernel_rfl) (by kernel_rfl) (e := Extern.AbiNoEscape.same) (by kernel_rfl)]
    rw [Lib.run_noEscape]
    simp only [Result.andThen]
    rw [Oper.upon_value]
    go_wp2
    rw [Lib.run_from_unsafe w ⟨b, 0, none⟩ Tryd.underlying93 Tryd.underlying59 hj hsh liB]
    simp only [Result.andThen]
    rw [Oper.upon_value]
    go_wp2
    go_end0
    exact ⟨rfl, hpost.out⟩
  · have h0 := h.cell0
    obtain ⟨h1, v, hb, ho, hn⟩ := h
    have hu : Hid (∃ v, w.heap[w0.heap.size]? = some (.cells #[.pointer (some ⟨w0.heap.size, 0, none⟩), v] 61 (0, 0)) ∧ w.ownsRow w0.heap.size 5 1 v l.length (Lib.byteCells l) ∧ v.ownBlock ≠ some w0.heap.size) := ⟨v, hb, by rw [Lib.byteCells_length] at ho; exact ho, hn⟩
    have kk : Hid (Keep w0 w) := k
    clear hb ho hn h1 k
    go_enter Tryd.func61, Tryd.ntmps61
    go_wp2
    rw [Lib.run_neq_ptr_same w _ Tryd.underlying59 hj]
    go_wp2
    go_end0
    exact ⟨rfl, kk.out, hu.out⟩
theorem len_bc (l : List UInt8) : (Lib.byteCells l).length = l.length := Lib.byteCells_length l
theorem bc_app (l m : List UInt8) : Lib.byteCells (l ++ m) = Lib.byteCells l ++ Lib.byteCells m := by simp [Lib.byteCells]
/-- The box's new buffer. -/
theorem Bu.put {w0 w1 w2 : World} {v v' : Value} {l m : List UInt8} (k1 : Keep w0 w1) (hk : Keep w0 w2) (hb : w2.heap[w0.heap.size]? = some (.cells #[.pointer (some ⟨w0.heap.size, 0, none⟩), v] 61 (0, 0))) (ho : w2.ownsRow w0.heap.size 5 1 v' m.length (Lib.byteCells m)) : Bu w0 m (w2.setCell ⟨w0.heap.size, 1, none⟩ v') := by
  obtain ⟨h1, v2, a, b, c⟩ := Lib.BuilderAt.put (T := 61) (e := 5) (Nat.le_refl w0.heap.size) hb (bs' := Lib.byteCells m) (by rw [len_bc]; exact ho) (by decide)
  exact ⟨hk.setCell (Nat.le_refl _) _, v2, a, by rw [len_bc] at b; exact b, c⟩
set_option maxRecDepth 100000 in
set_option maxHeartbeats 2000000 in
theorem WriteByte_any (w0 : World) (l : List UInt8) (c : UInt8) (w : World) (h : Bd w0 l w) (hl : l.length ≤ 1099511627776) : Calls Tryd.prog 42 #[.pointer (some ⟨w0.heap.size, 0, none⟩), .int .u8 (c.toNat : Nat)] w fun e w' => e = .returned .nilIface ∧ Bd w0 (l ++ [c]) w' := by
  obtain ⟨i0, hi, hz0, hz1, hz2⟩ := info_parts i5
  have hC := check_any w0 l w h
  go_enter Tryd.func42, Tryd.ntmps42
  go_wp2_with (go_at_call 61; refine hC.mono ?_)
  rintro e w1 ⟨rfl, h1⟩
  obtain ⟨k1, v, hbk, hown, hne⟩ := h1
  have c0 : w1.cell? ⟨w0.heap.size, 0, none⟩ = some (.pointer (some ⟨w0.heap.size, 0, none⟩)) := by rw [Lib.cell_of_heap hbk]; rfl
  have c1 : w1.cell? ⟨w0.heap.size, 1, none⟩ = some v := by rw [Lib.cell_of_heap hbk]; rfl
  have hlt : w0.heap.size < w1.heap.size := World.block_lt_of_cell? w1 _ c0
  go_wp2_with (at_builtin; refine wpList_append_own _ rfl _ _ 58 rfl w0.heap.size 5 i0 (.int .u8 0) 1 1 Tryd.underlying58 hi hz0 hz1 hz2 rfl (by decide) _ _ _ rfl (hown.alloc _) ⟨w1.heap.size, 0, none⟩ 1 1 [.int .u8 (c.toNat : Nat)] rfl rfl ?c1 ?c2 ?c3 ?c4 ?c5 ?_)
  case c1 =>
    intro j u hj
    match j, hj with
    | 0, hj => simp at hj; subst hj; simp [Addr.add]
  case c2 => intro u hu; simp at hu; subst hu; rfl
  case c3 => unfold maxLen; omega
  case c4 => omega
  case c5 => simp; omega
  intro v' w2 hown' hgrow _
  have hb2 : w2.heap[w0.heap.size]? = some (.cells #[.pointer (some ⟨w0.heap.size, 0, none⟩), v] 61 (0, 0)) := by
    rw [hgrow.block w0.heap.size (by simp; omega) (fun e => hne e.symm), Lib.alloc_old w1 _ w0.heap.size hlt]
    exact hbk
  have d0 : w2.cell? ⟨w0.heap.size, 0, none⟩ = some (.pointer (some ⟨w0.heap.size, 0, none⟩)) := by rw [Lib.cell_of_heap hb2]; rfl
  have d1 : w2.cell? ⟨w0.heap.size, 1, none⟩ = some v := by rw [Lib.cell_of_heap hb2]; rfl
  have f1 : w2.frozen? ⟨w0.heap.size, 1, none⟩ = false := Lib.frozen_of_heap hb2 1
  have hk2 : Keep w0 w2 := (k1.alloc _).grown hgrow (by simp; omega) (fun b hb => (own_block hown hb).1)
  have hpost : Hid (Bd w0 (l ++ [c]) (w2.setCell ⟨w0.heap.size, 1, none⟩ v')) := (Bu.put (l := l) k1 hk2 hb2 (by rw [bc_app]; simpa [Lib.byteCells] using hown')).bd
  obtain ⟨ao, n', cap, rfl⟩ : ∃ ao n' cap, v' = .slice ao n' cap := by
    obtain ⟨a, c, e, _⟩ := own_len hown'
    exact ⟨a, _, c, e⟩
  clear hown' hk2 hown hne hbk hgrow
  go_wp2
  go_ret
  exact ⟨rfl, hpost.out⟩
set_option maxRecDepth 100000 in
set_option maxHeartbeats 2000000 in
theorem WriteString_any (w0 : World) (l m : List UInt8) (w : World) (h : Bd w0 l w) (hl : l.length + m.length ≤ 1099511627776) : Calls Tryd.prog 43 #[.pointer (some ⟨w0.heap.size, 0, none⟩), .string ⟨m.toArray⟩] w fun e w' => (∃ v, e = .returned (.tuple #[v, .nilIface])) ∧ Bd w0 (l ++ m) w' := by
  obtain ⟨i0, hi, hz0, hz1, hz2⟩ := info_parts i5
  have hC := check_any w0 l w h
  have hsz := sz_mk m
  have HS : Hid (Lib.strCells ⟨m.toArray⟩ = Lib.byteCells m) := by unfold Hid; rw [Lib.strCells_eq, dt_mk]
  go_enter Tryd.func43, Tryd.ntmps43
  go_wp2_with (go_at_call 61; refine hC.mono ?_)
  rintro e w1 ⟨rfl, h1⟩
  obtain ⟨k1, v, hbk, hown, hne⟩ := h1
  have c0 : w1.cell? ⟨w0.heap.size, 0, none⟩ = some (.pointer (some ⟨w0.heap.size, 0, none⟩)) := by rw [Lib.cell_of_heap hbk]; rfl
  have c1 : w1.cell? ⟨w0.heap.size, 1, none⟩ = some v := by rw [Lib.cell_of_heap hbk]; rfl
  have hlt : w0.heap.size < w1.heap.size := World.block_lt_of_cell? w1 _ c0
  go_wp2_with (at_builtin; refine Lib.wpList_append_own_string _ rfl _ _ 58 9 rfl w0.heap.size 5 i0 Tryd.underlying58 Tryd.underlying9 hi hz0 hz1 hz2 _ _ _ rfl hown ⟨m.toArray⟩ rfl ?c3 ?c4 ?c5 ?_)
  case c3 => unfold maxLen; rw [hsz]; omega
  case c4 => rw [hsz]; omega
  case c5 => omega
  intro v' w2 hown' hgrow _
  have hb2 : w2.heap[w0.heap.size]? = some (.cells #[.pointer (some ⟨w0.heap.size, 0, none⟩), v] 61 (0, 0)) := by
    rw [hgrow.block w0.heap.size hlt (fun e => hne e.symm)]
    exact hbk
  have d0 : w2.cell? ⟨w0.heap.size, 0, none⟩ = some (.pointer (some ⟨w0.heap.size, 0, none⟩)) := by rw [Lib.cell_of_heap hb2]; rfl
  have d1 : w2.cell? ⟨w0.heap.size, 1, none⟩ = some v := by rw [Lib.cell_of_heap hb2]; rfl
  have f1 : w2.frozen? ⟨w0.heap.size, 1, none⟩ = false := Lib.frozen_of_heap hb2 1
  have hk2 : Keep w0 w2 := k1.grown hgrow (by omega) (fun b hb => (own_block hown hb).1)
  have hpost : Hid (Bd w0 (l ++ m) (w2.setCell ⟨w0.heap.size, 1, none⟩ v')) := (Bu.put (l := l) k1 hk2 hb2 (by rw [bc_app, List.length_append]; rw [HS.out] at hown'; exact hown')).bd
  obtain ⟨ao, n', cap, rfl⟩ : ∃ ao n' cap, v' = .slice ao n' cap := by
    obtain ⟨a, c, e, _⟩ := own_len hown'
    exact ⟨a, _, c, e⟩
  clear hown' hk2 hown hne hbk hgrow
  go_wp2
  go_ret2
  exact ⟨⟨_, rfl⟩, hpost.out⟩
end Go.Proofs.YtonfjmibnnioiaaDoor
