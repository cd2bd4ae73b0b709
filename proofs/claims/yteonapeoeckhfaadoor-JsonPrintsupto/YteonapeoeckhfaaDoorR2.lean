import Derived.Test.YteonapeoeckhfaaDoorQ9
set_option linter.unusedVariables false
set_option linter.unusedSimpArgs false
namespace Go.Proofs.YteonapeoeckhfaaDoor
open Go.RowKit Go.Shelf
theorem run_cat (a b : List UInt8) (h : a.length + b.length ≤ 9223372036854775807) (w : World) : (binOp .add 9 (.string ⟨a.toArray⟩) (.string ⟨b.toArray⟩)).run Tryd.prog w = .ok (.string ⟨(a ++ b).toArray⟩) w := by
  have hs : ¬ (((ByteArray.mk a.toArray).size + (ByteArray.mk b.toArray).size : Nat) : Int) > IntKind.i64.max := by
    rw [sz_mk, sz_mk, show IntKind.i64.max = 9223372036854775807 from rfl]; omega
  unfold binOp Op.stringOp
  simp only [if_neg hs]
  have e : (ByteArray.mk a.toArray) ++ (ByteArray.mk b.toArray) = ByteArray.mk (a ++ b).toArray := by
    apply ByteArray.ext
    rw [ByteArray.data_append]
    simp
  rw [e]
  rfl
theorem run_cat44 (a : List UInt8) (h : a.length ≤ 9223372036854775806) (w : World) : (binOp .add 9 (.string ⟨a.toArray⟩) (.string { data := #[44] })).run Tryd.prog w = .ok (.string ⟨(a ++ [44]).toArray⟩) w := run_cat a [44] (by simp; omega) w
theorem run_cat58 (a : List UInt8) (h : a.length ≤ 9223372036854775806) (w : World) : (binOp .add 9 (.string ⟨a.toArray⟩) (.string { data := #[58] })).run Tryd.prog w = .ok (.string ⟨(a ++ [58]).toArray⟩) w := run_cat a [58] (by simp; omega) w
theorem run_cat93 (a : List UInt8) (h : a.length ≤ 9223372036854775806) (w : World) : (binOp .add 9 (.string ⟨a.toArray⟩) (.string { data := #[93] })).run Tryd.prog w = .ok (.string ⟨(a ++ [93]).toArray⟩) w := run_cat a [93] (by simp; omega) w
theorem run_cat125 (a : List UInt8) (h : a.length ≤ 9223372036854775806) (w : World) : (binOp .add 9 (.string ⟨a.toArray⟩) (.string { data := #[125] })).run Tryd.prog w = .ok (.string ⟨(a ++ [125]).toArray⟩) w := run_cat a [125] (by simp; omega) w
theorem wn_mono2 (k : Nat) (ns : List ByteArray) (is : List J) : ∀ m, m ≤ is.length → ∀ i, i ≤ m → (wn k ns is i).length ≤ (wn k ns is m).length := by
  intro m
  induction m with
  | zero => intro _ i hi; have : i = 0 := by omega
            subst this; exact Nat.le_refl _
  | succ m ih =>
    intro hm i hi
    by_cases e : i = m + 1
    · subst e; exact Nat.le_refl _
    · have := ih (by omega) i (by omega)
      rw [wn_succ k ns is (by omega), List.length_append, List.length_append]
      omega
end Go.Proofs.YteonapeoeckhfaaDoor
set_option linter.unusedVariables false
set_option linter.unusedSimpArgs false
namespace Go.Proofs.YteonapeoeckhfaaDoor
open Go.RowKit Go.Shelf
def wO (o : UInt8) (k : Nat) (ns : List ByteArray) (is : List J) (i : Nat) : List UInt8 := [o] ++ wn k ns is i
theorem wO_len (o : UInt8) (k : Nat) (ns : List ByteArray) (is : List J) (i : Nat) : (wO o k ns is i).length = (wn k ns is i).length + 1 := rfl
/-- What the reference prints of each item. -/
def RPi (W : World) (is : List J) : Prop := ∀ i, i < is.length → ∀ (v : Value) (w : World), RdV w v (is.getD i j0) → Calls Tryd.prog 31 #[v] w fun e w' => e = .returned (.string ⟨(pr (is.getD i j0)).toArray⟩) ∧ Keep w w'
set_option maxRecDepth 100000 in
set_option maxHeartbeats 8000000 in
theorem rprinted6 (t : ByteArray) (ns : List ByteArray) (is : List J) (v : Value) (w : World) (hv : RdV w v (.mk 6 t ns is)) (hit : RPi w is) (hbl : blk (.mk 6 t ns is) ≤ 1048576) (T : List UInt8) (hT : wO 91 6 ns is is.length ++ [93] = T) :
    Calls Tryd.prog 31 #[v] w fun e w' => e = .returned (.string ⟨T.toArray⟩) ∧ Keep w w' := by
  replace hT : Hid _ := hT
  have hpl := pr_len _ (.mk 6 t ns is) (Nat.le_refl _)
  rw [pr_eq] at hpl
  have hwl : (wn 6 ns is is.length).length ≤ 16777216 := by
    simp only [show (6 : Nat) ≠ 1 by omega, show (6 : Nat) ≠ 2 by omega, show (6 : Nat) ≠ 3 by omega, show (6 : Nat) ≠ 4 by omega, show (6 : Nat) ≠ 5 by omega, show (7 : Nat) ≠ 6 by omega, if_false, if_true, List.length_append, List.length_cons, List.length_nil] at hpl
    omega
  have hwm := wn_mono2 6 ns is is.length (Nat.le_refl _)
  have hpi : ∀ i, i < is.length → (pr (is.getD i j0)).length ≤ 16777216 := fun i hi => by
    have h1 := pr_len _ (is.getD i j0) (Nat.le_refl _)
    have h2 := blk_item (j := .mk 6 t ns is) (i := i) hi
    simp only [J.is] at h2
    omega
  clear hpl hbl
  cases hv with
  | mk k t ns is an cn ai ci X hk hn ln li hx hr =>
  obtain ⟨w0, hw0, k0, tb⟩ : ∃ w0, w.alloc (Obj.cells #[.int .u8 6, .string t, .slice an ns.length cn, .slice ai is.length ci] 27) = w0 ∧ Keep w w0 ∧ w0.heap[w.heap.size]? = some (Obj.cells #[.int .u8 6, .string t, .slice an ns.length cn, .slice ai is.length ci] 27 (0, 0)) := ⟨_, rfl, (Keep.refl w).alloc _, heap_alloc_new w _⟩
  have a0 := cell_of_row _ _ 0 _ 27 (0, 0) tb
  have a1 := cell_of_row _ _ 1 _ 27 (0, 0) tb
  have a2 := cell_of_row _ _ 2 _ 27 (0, 0) tb
  have a3 := cell_of_row _ _ 3 _ 27 (0, 0) tb
  simp only [List.getElem?_toArray, List.getElem?_cons_zero, List.getElem?_cons_succ] at a0 a1 a2 a3
  obtain ⟨m, hm⟩ : ∃ m, is.length = m := ⟨_, rfl⟩
  have HM : Hid (is.length = m) := hm
  obtain ⟨nn, hnn⟩ : ∃ nn, ns.length = nn := ⟨_, rfl⟩
  have HNN : Hid (ns.length = nn) := hnn
  rw [hm, hnn] at hw0
  rw [hm] at a3
  rw [hnn] at a2
  rw [hm, hnn]
  rw [hm] at li
  rw [hnn] at ln
  have HW0 : Hid (w.alloc (Obj.cells #[.int .u8 6, .string t, .slice an nn cn, .slice ai m ci] 27) = w0) := hw0
  clear hm hnn hw0 tb
  go_enter Tryd.func31, Tryd.ntmps31
  go_wp2_with fail
  rw [HW0.out]
  go_wp2_with fail
  go_loopg [3, 5] m (fun gg s3 s5 wx => ∃ i : Nat, i ≤ m ∧ gg = m - i ∧ s3 = .string ⟨(wO 91 6 ns is i).toArray⟩ ∧ s5 = .int .i64 i ∧ Keep w0 wx)
  case atStart => exact ⟨0, by omega, by omega, rfl, rfl, Keep.refl _⟩
  case round =>
    obtain ⟨i, hi, rfl, rfl, rfl, kq⟩ := hrel
    have b3 := kq.cell a3
    have b2 := kq.cell a2
    have b0 := kq.cell a0
    have hwi := hwm i (by rw [HM.out]; exact hi)
    have hAl : (wO 91 6 ns is i).length ≤ 16777217 := by rw [wO_len]; omega
    by_cases hil : i < m
    · have hil2 : i < is.length := by rw [HM.out]; exact hil
      have hws := wn_succ 6 ns is hil2
      have hsp : sep 6 ns i = (if i = 0 then [] else [44]) ++ [] := rfl
      rw [hsp] at hws
      have HE : Hid (wO 91 6 ns is (i + 1) = wO 91 6 ns is i ++ (if i = 0 then [] else [44]) ++ [] ++ pr (is.getD i j0)) := by show _ = _; unfold wO; rw [hws]; simp only [List.append_assoc]
      have hpl := hpi i hil2
      obtain ⟨bb, oo, hae, hc0, hc1, hc2, hc3⟩ := hx i hil2
      have kk := k0.trans kq
      have hI := fun wx (kx : Keep wr wx) => hit i hil2 _ wx ((hr i hil2).keep (kk.trans kx))
      have f0 := Keep.cell kk hc0
      have f1 := Keep.cell kk hc1
      have f2 := Keep.cell kk hc2
      have f3 := Keep.cell kk hc3
      subst hae
      obtain ⟨P, hP⟩ : ∃ P, pr (is.getD i j0) = P := ⟨_, rfl⟩
      rw [hP] at hI HE hpl
      clear hx hr hit hc0 hc1 hc2 hc3 hws hsp hP hpi hwi hwl hwm
      generalize (X i).1 = A0 at *
      generalize (X i).2.1 = A1 at *
      generalize (X i).2.2.1 = A2 at *
      generalize (X i).2.2.2 = A3 at *
      generalize wO 91 6 ns is i = A at *
      by_cases h0 : i = 0
      · have hg0 : ¬ ((i : Int) > 0) := by omega
        have hg1 : decide (0 < i) = false := decide_eq_false (by omega)
        have hg2 : ¬ 0 < i := by omega
        rw [if_pos h0] at HE
        try simp only [List.append_nil] at HE
        clear h0
        have HI := hI wr (Keep.refl _)
        clear hI
        go_wp2_with (go_at_call 31; refine HI.mono ?_; clear HI; rintro e w2 ⟨rfl, k2⟩)
        go_roundg (m - (i + 1))
        case measure => omega
        case rel => exact ⟨i + 1, by omega, rfl, by rw [HE.out]; first | rfl | (congr 1; done) | (congr 1; apply ByteArray.ext; simp [ByteArray.data_append]), by go_num, kq.trans k2⟩
      · have hg0 : ((i : Int) > 0) := by omega
        have hg1 : decide (0 < i) = true := decide_eq_true (by omega)
        have hg2 : 0 < i := by omega
        rw [if_neg h0] at HE
        try simp only [List.append_nil] at HE
        clear h0
        have HI := hI wr (Keep.refl _)
        clear hI
        go_wp2_with (go_at_call 31; refine HI.mono ?_; clear HI; rintro e w2 ⟨rfl, k2⟩)
        go_roundg (m - (i + 1))
        case measure => omega
        case rel => exact ⟨i + 1, by omega, rfl, by rw [HE.out]; first | rfl | (congr 1; done) | (congr 1; apply ByteArray.ext; simp [ByteArray.data_append]), by go_num, kq.trans k2⟩
    · obtain rfl : i = m := by omega
      have hT2 := hT.out
      rw [HM.out] at hT2
      generalize wO 91 6 ns is i = A at *
      clear hx hr hit hpi hwm
      go_wp2_with fail
      go_ret
      exact ⟨by rw [← hT2]; first | rfl | (congr 2; done) | (congr 2; apply ByteArray.ext; simp [ByteArray.data_append]), k0.trans kq⟩
set_option maxRecDepth 100000 in
set_option maxHeartbeats 8000000 in
theorem rprinted7 (t : ByteArray) (ns : List ByteArray) (is : List J) (v : Value) (w : World) (hv : RdV w v (.mk 7 t ns is)) (hit : RPi w is) (hbl : blk (.mk 7 t ns is) ≤ 1048576) (hnl : ns.length = is.length) (T : List UInt8) (hT : wO 123 7 ns is is.length ++ [125] = T) :
    Calls Tryd.prog 31 #[v] w fun e w' => e = .returned (.string ⟨T.toArray⟩) ∧ Keep w w' := by
  replace hT : Hid _ := hT
  have hpl := pr_len _ (.mk 7 t ns is) (Nat.le_refl _)
  rw [pr_eq] at hpl
  have hwl : (wn 7 ns is is.length).length ≤ 16777216 := by
    simp only [show (7 : Nat) ≠ 1 by omega, show (7 : Nat) ≠ 2 by omega, show (7 : Nat) ≠ 3 by omega, show (7 : Nat) ≠ 4 by omega, show (7 : Nat) ≠ 5 by omega, show (7 : Nat) ≠ 6 by omega, if_false, if_true, List.length_append, List.length_cons, List.length_nil] at hpl
    omega
  have hwm := wn_mono2 7 ns is is.length (Nat.le_refl _)
  have hpi : ∀ i, i < is.length → (pr (is.getD i j0)).length ≤ 16777216 := fun i hi => by
    have h1 := pr_len _ (is.getD i j0) (Nat.le_refl _)
    have h2 := blk_item (j := .mk 7 t ns is) (i := i) hi
    simp only [J.is] at h2
    omega
  have hqi : ∀ i, i < ns.length → (ns.getD i ByteArray.empty).data.toList.length ≤ 1048576 := fun i hi => by
    have := blk_name (j := .mk 7 t ns is) (t := ns.getD i ByteArray.empty) (by simp [J.ns, List.getD, hi])
    rw [Array.length_toList]
    have e : (ns.getD i ByteArray.empty).data.size = (ns.getD i ByteArray.empty).size := rfl
    omega
  clear hpl hbl
  cases hv with
  | mk k t ns is an cn ai ci X hk hn ln li hx hr =>
  obtain ⟨w0, hw0, k0, tb⟩ : ∃ w0, w.alloc (Obj.cells #[.int .u8 7, .string t, .slice an ns.length cn, .slice ai is.length ci] 27) = w0 ∧ Keep w w0 ∧ w0.heap[w.heap.size]? = some (Obj.cells #[.int .u8 7, .string t, .slice an ns.length cn, .slice ai is.length ci] 27 (0, 0)) := ⟨_, rfl, (Keep.refl w).alloc _, heap_alloc_new w _⟩
  have a0 := cell_of_row _ _ 0 _ 27 (0, 0) tb
  have a1 := cell_of_row _ _ 1 _ 27 (0, 0) tb
  have a2 := cell_of_row _ _ 2 _ 27 (0, 0) tb
  have a3 := cell_of_row _ _ 3 _ 27 (0, 0) tb
  simp only [List.getElem?_toArray, List.getElem?_cons_zero, List.getElem?_cons_succ] at a0 a1 a2 a3
  obtain ⟨m, hm⟩ : ∃ m, is.length = m := ⟨_, rfl⟩
  have HM : Hid (is.length = m) := hm
  rw [hm] at hnl
  have HNN : Hid (ns.length = m) := hnl
  rw [hm, hnl] at hw0
  rw [hm] at a3
  rw [hnl] at a2 ln
  rw [hm, hnl]
  rw [hm] at li
  have HW0 : Hid (w.alloc (Obj.cells #[.int .u8 7, .string t, .slice an m cn, .slice ai m ci] 27) = w0) := hw0
  clear hm hnl hw0 tb
  go_enter Tryd.func31, Tryd.ntmps31
  go_wp2_with fail
  rw [HW0.out]
  go_wp2_with fail
  go_loopg [3, 5] m (fun gg s3 s5 wx => ∃ i : Nat, i ≤ m ∧ gg = m - i ∧ s3 = .string ⟨(wO 123 7 ns is i).toArray⟩ ∧ s5 = .int .i64 i ∧ Keep w0 wx)
  case atStart => exact ⟨0, by omega, by omega, rfl, rfl, Keep.refl _⟩
  case round =>
    obtain ⟨i, hi, rfl, rfl, rfl, kq⟩ := hrel
    have b3 := kq.cell a3
    have b2 := kq.cell a2
    have b0 := kq.cell a0
    have hwi := hwm i (by rw [HM.out]; exact hi)
    have hAl : (wO 123 7 ns is i).length ≤ 16777217 := by rw [wO_len]; omega
    by_cases hil : i < m
    · have hil2 : i < is.length := by rw [HM.out]; exact hil
      have hws := wn_succ 7 ns is hil2
      have hsp : sep 7 ns i = (if i = 0 then [] else [44]) ++ (qt (ns.getD i ByteArray.empty).data.toList ++ [58]) := rfl
      rw [hsp] at hws
      have HE : Hid (wO 123 7 ns is (i + 1) = wO 123 7 ns is i ++ (if i = 0 then [] else [44]) ++ (qt (ns.getD i ByteArray.empty).data.toList ++ [58]) ++ pr (is.getD i j0)) := by show _ = _; unfold wO; rw [hws]; simp only [List.append_assoc]
      have hpl := hpi i hil2
      obtain ⟨bb, oo, hae, hc0, hc1, hc2, hc3⟩ := hx i hil2
      have kk := k0.trans kq
      have hI := fun wx (kx : Keep wr wx) => hit i hil2 _ wx ((hr i hil2).keep (kk.trans kx))
      have f0 := Keep.cell kk hc0
      have f1 := Keep.cell kk hc1
      have f2 := Keep.cell kk hc2
      have f3 := Keep.cell kk hc3
      subst hae
      obtain ⟨P, hP⟩ : ∃ P, pr (is.getD i j0) = P := ⟨_, rfl⟩
      rw [hP] at hI HE hpl
      clear hx hr hit hc0 hc1 hc2 hc3 hws hsp hP hpi hwi hwl hwm
      obtain ⟨nb, no, hne, hnc⟩ := hn i (by rw [HNN.out]; exact hil)
      have hQ := fun wx => rquoted_any (ns.getD i ByteArray.empty).data.toList wx (Nat.le_trans (hqi i (by rw [HNN.out]; exact hil)) (by decide))
      have hql := Nat.le_trans (qt_len (ns.getD i ByteArray.empty).data.toList) (Nat.add_le_add_right (Nat.mul_le_mul_left 6 (hqi i (by rw [HNN.out]; exact hil))) 2)
      rw [mk_dt] at hQ
      have hnc2 := Keep.cell kk hnc
      subst hne
      generalize ns.getD i ByteArray.empty = nt at *
      generalize qt nt.data.toList = N at *
      clear hqi hnc hn
      generalize (X i).1 = A0 at *
      generalize (X i).2.1 = A1 at *
      generalize (X i).2.2.1 = A2 at *
      generalize (X i).2.2.2 = A3 at *
      generalize wO 123 7 ns is i = A at *
      by_cases h0 : i = 0
      · have hg0 : ¬ ((i : Int) > 0) := by omega
        have hg1 : decide (0 < i) = false := decide_eq_false (by omega)
        have hg2 : ¬ 0 < i := by omega
        rw [if_pos h0] at HE
        try simp only [List.append_nil] at HE
        clear h0
        have HQ := hQ wr
        clear hQ
        go_wp2_with (first
          | (go_at_call 56; refine HQ.mono ?_; clear HQ; rintro e w1 ⟨rfl, k1⟩; have HI := hI w1 k1; have b3' := k1.cell b3; have b0' := k1.cell b0; have f0' := k1.cell f0; have f1' := k1.cell f1; have f2' := k1.cell f2; have f3' := k1.cell f3; clear hI)
          | (go_at_call 31; refine HI.mono ?_; clear HI; rintro e w2 ⟨rfl, k2⟩))
        go_roundg (m - (i + 1))
        case measure => omega
        case rel => exact ⟨i + 1, by omega, rfl, by rw [HE.out]; first | rfl | (congr 1; done) | (congr 1; apply ByteArray.ext; simp [ByteArray.data_append]), by go_num, (kq.trans k1).trans k2⟩
      · have hg0 : ((i : Int) > 0) := by omega
        have hg1 : decide (0 < i) = true := decide_eq_true (by omega)
        have hg2 : 0 < i := by omega
        rw [if_neg h0] at HE
        try simp only [List.append_nil] at HE
        clear h0
        have HQ := hQ wr
        clear hQ
        go_wp2_with (first
          | (go_at_call 56; refine HQ.mono ?_; clear HQ; rintro e w1 ⟨rfl, k1⟩; have HI := hI w1 k1; have b3' := k1.cell b3; have b0' := k1.cell b0; have f0' := k1.cell f0; have f1' := k1.cell f1; have f2' := k1.cell f2; have f3' := k1.cell f3; clear hI)
          | (go_at_call 31; refine HI.mono ?_; clear HI; rintro e w2 ⟨rfl, k2⟩))
        go_roundg (m - (i + 1))
        case measure => omega
        case rel => exact ⟨i + 1, by omega, rfl, by rw [HE.out]; first | rfl | (congr 1; done) | (congr 1; apply ByteArray.ext; simp [ByteArray.data_append]), by go_num, (kq.trans k1).trans k2⟩
    · obtain rfl : i = m := by omega
      have hT2 := hT.out
      rw [HM.out] at hT2
      generalize wO 123 7 ns is i = A at *
      clear hx hr hit hpi hwm
      go_wp2_with fail
      go_ret
      exact ⟨by rw [← hT2]; first | rfl | (congr 2; done) | (congr 2; apply ByteArray.ext; simp [ByteArray.data_append]), k0.trans kq⟩
end Go.Proofs.YteonapeoeckhfaaDoor
set_option linter.unusedVariables false
set_option linter.unusedSimpArgs false
namespace Go.Proofs.YteonapeoeckhfaaDoor
open Go.RowKit Go.Shelf
set_option maxRecDepth 100000 in
set_option maxHeartbeats 8000000 in
theorem rprinted_in : ∀ (n : Nat) (j : J) (v : Value) (w : World), SizeOf.sizeOf j ≤ n → RdV w v j → allJ plain j = true → blk j ≤ 1048576 →
    Calls Tryd.prog 31 #[v] w fun e w' => e = .returned (.string ⟨(pr j).toArray⟩) ∧ Keep w w' := by
  intro n
  induction n with
  | zero => intro j v w hs; cases j; simp at hs
  | succ n ih =>
    intro j v w hs hv hpl hbl
    rw [allJ_eq, Bool.and_eq_true, List.all_eq_true] at hpl
    obtain ⟨hp1, hp2⟩ := hpl
    have hit : RPi w j.is := fun i hi v' w' hv' => ih _ v' w' (by have := J.is_lt hi; omega) hv' (hp2 _ (by simp [List.getD, hi])) (by have := blk_item hi; omega)
    have hvv := hv
    cases hv with
    | mk k t ns is an cn ai ci X hk hn ln li hx hr =>
    have hit2 : RPi w is := hit
    have hP := plain_of (j := .mk k t ns is) (k := k) rfl
    rw [hp1] at hP
    simp only [J.t, J.ns, J.is] at hP
    have ka := (Keep.refl w).alloc (Obj.cells #[.int .u8 (k : Nat), .string t, .slice an ns.length cn, .slice ai is.length ci] 27)
    have hts := blk_text (.mk k t ns is)
    simp only [J.t] at hts
    have hpr := pr_eq k t ns is
    obtain ⟨T, hT⟩ : ∃ T, pr (.mk k t ns is) = T := ⟨_, rfl⟩
    rw [hT] at hpr ⊢
    clear hT hit ih hs hp1 hp2 hx hr
    by_cases h1 : k = 1
    · subst h1
      have hT : T = [110, 117, 108, 108] := by rw [hpr]; simp
      subst hT
      clear hpr hP hit2 hvv hn hbl hts
      go_enter Tryd.func31, Tryd.ntmps31
      go_wp2_with fail
      go_ret
      exact ⟨rfl, ka⟩
    by_cases h2 : k = 2
    · subst h2
      have hT : T = [102, 97, 108, 115, 101] := by rw [hpr]; simp
      subst hT
      clear hpr hP hit2 hvv hn hbl hts
      go_enter Tryd.func31, Tryd.ntmps31
      go_wp2_with fail
      go_ret
      exact ⟨rfl, ka⟩
    by_cases h3 : k = 3
    · subst h3
      have hT : T = [116, 114, 117, 101] := by rw [hpr]; simp
      subst hT
      clear hpr hP hit2 hvv hn hbl hts
      go_enter Tryd.func31, Tryd.ntmps31
      go_wp2_with fail
      go_ret
      exact ⟨rfl, ka⟩
    by_cases h4 : k = 4
    · subst h4
      have hT : T = t.data.toList := by rw [hpr]; simp
      have hT2 : (⟨T.toArray⟩ : ByteArray) = t := by rw [hT]
      rw [hT2]
      clear hpr hP hit2 hvv hn hbl hts hT hT2
      go_enter Tryd.func31, Tryd.ntmps31
      go_wp2_with fail
      go_ret
      exact ⟨rfl, ka⟩
    by_cases h5 : k = 5
    · subst h5
      have hT : T = qt t.data.toList := by rw [hpr]; simp
      subst hT
      have hC := fun wx => rquoted_any t.data.toList wx (by rw [Array.length_toList]; have e : t.data.size = t.size := rfl; omega)
      rw [mk_dt] at hC
      clear hpr hP hit2 hvv hn hbl hts
      go_enter Tryd.func31, Tryd.ntmps31
      go_wp2_with (go_at_call 56; refine (hC _).mono ?_; clear hC; rintro e w2 ⟨rfl, k2⟩)
      go_ret
      exact ⟨rfl, ka.trans k2⟩
    by_cases h6 : k = 6
    · subst h6
      have hT : wO 91 6 ns is is.length ++ [93] = T := by rw [hpr]; first | rfl | simp [wO]
      exact rprinted6 t ns is _ w hvv hit2 hbl T hT
    by_cases h7 : k = 7
    · subst h7
      have hT : wO 123 7 ns is is.length ++ [125] = T := by rw [hpr]; first | rfl | simp [wO]
      have hn7 : ns.length = is.length := by simp at hP; exact hP.1.2
      exact rprinted7 t ns is _ w hvv hit2 hbl hn7 T hT
    exfalso
    simp [h1, h2, h3, h4, h5, h6, h7] at hP
end Go.Proofs.YteonapeoeckhfaaDoor
