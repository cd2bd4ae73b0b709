import Derived.Test.YtgmnadlmejkkpaaDoorD3
set_option linter.unusedVariables false
set_option linter.unusedSimpArgs false
namespace Go.Proofs.YtgmnadlmejkkpaaDoor
open Go.RowKit
/-- Bytes as cells. -/
def V8 (l : List Nat) : List Value := l.map (fun x => Value.int .u8 (x : Nat))
def Row8 (w : World) (g : Nat) (l : List Nat) : Prop := w.heap[g]? = some (.cells (V8 l).toArray 5 (0, 0))
theorem Row8.lt {w : World} {g : Nat} {l : List Nat} (h : Row8 w g l) : g < w.heap.size := (Array.getElem?_eq_some_iff.1 h).1
theorem V8_get (l : List Nat) (j : Nat) (h : j < l.length) : (V8 l)[j]? = some (.int .u8 (l.getD j 0 : Nat)) := by simp [V8, List.getD, h]
theorem Row8.cell {w : World} {g : Nat} {l : List Nat} (h : Row8 w g l) (j : Nat) (hj : j < l.length) : w.cell? ⟨g, j, none⟩ = some (.int .u8 (l.getD j 0 : Nat)) := by
  rw [cell_of_row w g j _ 5 (0, 0) h]; simpa using V8_get l j hj
theorem Row8.frozen {w : World} {g : Nat} {l : List Nat} (h : Row8 w g l) (j : Nat) : w.frozen? ⟨g, j, none⟩ = false := frozen_of_row w g j _ 5 h
theorem Row8.set {w : World} {g : Nat} {l : List Nat} (h : Row8 w g l) (j x : Nat) : Row8 (w.setCell ⟨g, j, none⟩ (.int .u8 (x : Nat))) g (l.set j x) := by
  have := heap_setCell_same w g j _ 5 (.int .u8 (x : Nat)) h
  unfold Row8
  rw [this]
  simp [V8, List.map_set]
theorem Row8.keep {w w' : World} {g : Nat} {l : List Nat} (h : Row8 w g l) (k : Keep w w') : Row8 w' g l := by
  unfold Row8; rw [k.block g h.lt]; exact h
def S8 (l : List Nat) : ByteArray := ⟨(l.map UInt8.ofNat).toArray⟩
theorem S8_size (l : List Nat) : (S8 l).size = l.length := by simp [S8, ByteArray.size]
theorem i5 : (Tryd.prog.info? 5).map (fun i => (i.zero, i.size, i.bytes)) = some (some (.int .u8 0), 1, 1) := by kernel_rfl
theorem made8 (n : Nat) : madeCells (Value.int .u8 0).cells n = (V8 (List.replicate n 0)).toArray := by
  have := toList_madeCells_one (.int .u8 0) n
  rw [← Array.toList_inj]
  simp only [V8, List.map_replicate]
  exact this
/-- make([]byte, n). -/
theorem wpList_make8 (w : World) {ops : Array Oper} {rest : List Oper} {o : Oper} {a : Act} {Q : Exit → Act → World → Prop}
    (hg : o.guard = none) (l c : Operand) (hop : o.op = Op.makeSlice 74 l c) (kl kc : IntKind) (L C : Int) (n : Nat) (hl : a.eval l = .int kl L) (hc : a.eval c = .int kc C) (hL : L = (n : Int)) (hC : C = (n : Int)) (hn : n ≤ 281474976710656)
    (hK : ∀ w', Row8 w' w.heap.size (List.replicate n 0) → Keep w w' → w'.heap.size = w.heap.size + 1 → wpList Tryd.prog ops Q rest (a.put o.dst (.slice (some ⟨w.heap.size, 0, none⟩) n n)) w') :
    wpList Tryd.prog ops Q (o :: rest) a w := by
  refine wpList_plain hg fun K hK' => ?_
  obtain ⟨i, hi, hz0, hz1, hz2⟩ := info_parts i5
  have hr := run_make (P := Tryd.prog) w 74 5 i _ Tryd.underlying74 hi hz0 kl kc n n (by omega) (by omega) (by rw [hz2]; omega) (by omega)
  subst hL
  subst hC
  rw [hz1] at hr
  unfold Oper.wp
  simp only [Int.toNat_natCast, Nat.mul_one, made8] at hr
  simp [execOp, hop, hl, hc, hr, Result.andThen]
  exact hK' _ _ (hK _ (heap_alloc_new w _) ((Keep.refl w).alloc _) (by simp))
theorem conv8 (w : World) (g c : Nat) (l : List Nat) (h : Row8 w g l) : (convert 74 9 (.slice (some ⟨g, 0, none⟩) l.length c)).run Tryd.prog w = .ok (.string (S8 l)) w := by
  have := run_convert_bytes_arg (P := Tryd.prog) w 74 5 Tryd.underlying74 Tryd.underlying5 g 0 l.length c (l.map (fun x : Nat => (x : Int))) (by simp) (fun i hi => by
    rw [Nat.zero_add, h.cell i hi]; simp [List.getD, hi]) 9 Tryd.underlying9
  rw [this]
  simp [strOfNums, S8]
/-- Bits as digits. -/
def dg (l : List Nat) (n : Nat) : List Nat := (List.range n).map fun i => if hs l i then 49 else 48
theorem dg_length (l : List Nat) (n : Nat) : (dg l n).length = n := by simp [dg]
theorem dg_succ (l : List Nat) (n : Nat) : dg l (n + 1) = dg l n ++ [if hs l n then 49 else 48] := by simp [dg, List.range_succ]
set_option maxRecDepth 100000 in
set_option maxHeartbeats 400000 in
theorem Print_ok (a : Option Addr) (c n : Nat) (l : List Nat) (w : World) (hn : n ≤ 1048576) (hl : l.length = (n + 63) / 64) (hr : Rd w a l) (hw : W64 l) (hb : ∀ i, n ≤ i → hs l i = false) :
    Calls Tryd.prog 48 #[.slice a l.length c, .int .i64 (n : Nat)] w fun e w' => e = .returned (.tuple #[.string (S8 (dg l n)), .int .i64 0]) ∧ Keep w w' := by
  have hW := fun w => Words_any (n : Int) w
  rw [(wd_ok (n := (n : Int)) (by omega)).1, (wd_ok (n := (n : Int)) (by omega)).2] at hW
  have hH := Highest_any a c l (by omega) hw w hr
  have hA := fun wx (i : Nat) (h : Rd wx a l) (hi : i ≤ 1048576) => Has_any a c l (i : Int) wx (by omega) (by omega) h hw
  have HH : Hid (∀ r, HgP l r → ¬ (n : Int) ≤ r) := by
    show ∀ r, _
    intro r h1 h2
    rcases h1.spec hw with ⟨rfl, -⟩ | ⟨p, rfl, h3, h4, -⟩
    · omega
    · have := hb p (by omega); rw [h4] at this; cases this
  have Hl : Hid (l.length = (n + 63) / 64) := hl
  obtain ⟨L, hL⟩ : ∃ L, l.length = L := ⟨_, rfl⟩
  rw [show ((n : Int) + 63) / 64 = (L : Int) by omega] at hW
  rw [hL] at hH hA ⊢
  clear hL hl
  go_enter Tryd.func48, Tryd.ntmps48
  go_wp2_with first
    | (go_at_call 12; refine (hW _).mono ?_; rintro e w' ⟨rfl, rfl⟩)
    | (go_at_call 35; refine hH.mono ?_; rintro e w1 ⟨⟨r, rfl, hg⟩, k1⟩; have hnr := HH.out r hg)
    | (at_make; refine wpList_make8 _ rfl _ _ rfl _ _ _ _ n rfl rfl rfl rfl (by omega) ?_; intro w2 hr2 k2 s2)
  have k0 := k1.trans k2
  have hgz := k1.le
  generalize w1.heap.size = g at hr2 hgz ⊢
  clear hH hW HH hg hnr k1 k2 s2
  go_loopw [33] (fun i wr => ∃ (k : Nat) (rk : List Nat), k ≤ n ∧ i = .int .i64 k ∧ Row8 wr g rk ∧ Hid (rk.length = n) ∧ Hid (rk.take k = dg l k) ∧ Keep w' wr) (fun i _ => n - (intOf i).toNat)
  case atStart => exact ⟨0, _, by omega, rfl, hr2, by show _ = _; simp, by show _ = _; simp [dg], k0⟩
  case round =>
    clear hr2 k0
    obtain ⟨k, rk, hkk, rfl, hrk, hlen, htk, hkp⟩ := hrel
    by_cases hkl : k < n
    · have hfz := hrk.frozen k
      obtain ⟨z, hz⟩ : ∃ z, rk.getD k 0 = z := ⟨_, rfl⟩
      have hc0 := hrk.cell k (by rw [hlen.out]; omega)
      rw [hz] at hc0
      have h1 := hrk.set k 48
      have hc1 := h1.cell k (by rw [List.length_set, hlen.out]; omega)
      have e1 : (rk.set k 48).getD k 0 = 48 := by simp [List.getD, hlen.out, hkl]
      rw [e1] at hc1
      have hf1 := h1.frozen k
      have kp1 : Keep w' (wr.setCell ⟨g, k, none⟩ (.int .u8 (48 : Nat))) := hkp.setCell hgz _
      have hH := hA _ k (hr.keep kp1) (by omega)
      have Ht : Hid (∀ x, (rk.set k x).take (k + 1) = dg l k ++ [x]) := by
        show ∀ x, _
        intro x
        rw [List.take_succ_eq_append_getElem (by rw [List.length_set, hlen.out]; exact hkl), List.take_set_of_le (Nat.le_refl _), htk.out]
        simp
      rw [show hasI l (k : Int) = hs l k by unfold hasI; simp] at hH
      have Hd : Hid (dg l (k + 1) = dg l k ++ [if hs l k then 49 else 48]) := dg_succ l k
      clear hz e1
      cases hb' : hs l k
      · rw [hb'] at hH Hd
        go_wp2_with (go_at_call 31; refine hH.mono ?_; rintro e w3 ⟨rfl, rfl⟩)
        go_roundw
        case rel => exact ⟨k + 1, rk.set k 48, by omega, by go_num, h1, by show _ = _; rw [List.length_set]; exact hlen.out, by show _ = _; rw [Ht.out, Hd.out]; rfl, kp1⟩
        case measure => simp [intOf]; omega
      · rw [hb'] at hH Hd
        go_wp2_with (go_at_call 31; refine hH.mono ?_; rintro e w3 ⟨rfl, rfl⟩)
        go_roundw
        case rel => exact ⟨k + 1, (rk.set k 48).set k 49, by omega, by go_num, h1.set k 49, by show _ = _; rw [List.length_set, List.length_set]; exact hlen.out, by show _ = _; rw [List.set_set, Ht.out, Hd.out]; rfl, kp1.setCell hgz _⟩
        case measure => simp [intOf]; omega
    · obtain rfl : k = n := by omega
      have hcv := conv8 wr g k rk hrk
      rw [hlen.out] at hcv
      have He : Hid (rk = dg l k) := by
        show _ = _
        rw [← htk.out, List.take_of_length_le (by rw [hlen.out]; exact Nat.le_refl _)]
      go_wp2_with fail
      go_ret2
      exact ⟨by rw [← He.out]; rfl, hkp⟩
end Go.Proofs.YtgmnadlmejkkpaaDoor
