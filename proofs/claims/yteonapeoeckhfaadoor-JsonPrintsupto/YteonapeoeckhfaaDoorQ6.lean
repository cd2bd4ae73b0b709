import Derived.Test.YteonapeoeckhfaaDoorJD
import Derived.Test.YteonapeoeckhfaaDoorQ5
import Derived.Test.YteonapeoeckhfaaDoorQ3
set_option linter.unusedVariables false
set_option linter.unusedSimpArgs false
namespace Go.Proofs.YteonapeoeckhfaaDoor
open Go.RowKit Go.Shelf
theorem foldl_max_append (l : List Nat) (a x : Nat) : (l ++ [x]).foldl Nat.max a = Nat.max (l.foldl Nat.max a) x := by
  rw [List.foldl_append]; rfl
theorem mx_succ (is : List J) {i : Nat} (h : i < is.length) : mx (is.take (i + 1)) = Nat.max (mx (is.take i)) (dp (is.getD i j0)) := by
  have e : is.getD i j0 = is[i] := by simp [List.getD, h]
  unfold mx
  rw [List.take_succ_eq_append_getElem h, List.map_append, e]
  exact foldl_max_append _ _ _
set_option maxRecDepth 100000 in
set_option maxHeartbeats 4000000 in
theorem rdeep_in : ∀ (n : Nat) (j : J) (v : Value) (w : World), SizeOf.sizeOf j ≤ n → RdV w v j → blk j ≤ 1048576 →
    Calls Tryd.prog 36 #[v] w fun e w' => e = .returned (.int .i64 (dp j : Nat)) ∧ Keep w w' := by
  intro n
  induction n with
  | zero => intro j v w hs; cases j; simp at hs
  | succ n ih =>
    intro j v w hs hv hbl
    have hdb := dp_blk _ j (Nat.le_refl _)
    cases hv with
    | mk k t ns is an cn ai ci X hk hn ln li hx hr =>
    have hlt : ∀ i, i < is.length → SizeOf.sizeOf (is.getD i j0) ≤ n := fun i hi => by
      have := J.is_lt (a := .mk k t ns is) (i := i) hi
      simp only [J.is] at this
      omega
    have hbi : ∀ i, i < is.length → blk (is.getD i j0) ≤ 1048576 := fun i hi => by
      have := blk_item (j := .mk k t ns is) (i := i) hi
      simp only [J.is] at this
      omega
    obtain ⟨w0, hw0, k0, tb⟩ : ∃ w0, w.alloc (Obj.cells #[.int .u8 (k : Nat), .string t, .slice an ns.length cn, .slice ai is.length ci] 27) = w0 ∧ Keep w w0 ∧ w0.heap[w.heap.size]? = some (Obj.cells #[.int .u8 (k : Nat), .string t, .slice an ns.length cn, .slice ai is.length ci] 27 (0, 0)) := ⟨_, rfl, (Keep.refl w).alloc _, heap_alloc_new w _⟩
    have a0 := cell_of_row _ _ 0 _ 27 (0, 0) tb
    have a1 := cell_of_row _ _ 1 _ 27 (0, 0) tb
    have a2 := cell_of_row _ _ 2 _ 27 (0, 0) tb
    have a3 := cell_of_row _ _ 3 _ 27 (0, 0) tb
    simp only [List.getElem?_toArray, List.getElem?_cons_zero, List.getElem?_cons_succ] at a0 a1 a2 a3
    obtain ⟨m, hm⟩ : ∃ m, is.length = m := ⟨_, rfl⟩
    have HM : Hid (is.length = m) := hm
    obtain ⟨nn, hnn⟩ : ∃ nn, ns.length = nn := ⟨_, rfl⟩
    have HNN : Hid (ns.length = nn) := hnn
    rw [hm, hnn] at hw0
    rw [hm] at a3
    rw [hnn] at a2
    rw [hm, hnn]
    rw [hm] at li
    rw [hnn] at ln
    have HW0 : Hid (w.alloc (Obj.cells #[.int .u8 (k : Nat), .string t, .slice an nn cn, .slice ai m ci] 27) = w0) := hw0
    clear hm hnn hw0 tb
    have hdp : dp (.mk k t ns is) = mx is + own1 (.mk k t ns is) := dp_eq _
    have hb67 : (own1 (.mk k t ns is) = 1 ∧ (k = 6 ∨ k = 7)) ∨ (own1 (.mk k t ns is) = 0 ∧ ((k : Int) == 6) = false ∧ ((k : Int) == 7) = false) := by
      unfold own1
      simp only [J.k]
      by_cases q : k = 6 ∨ k = 7
      · left; exact ⟨if_pos q, q⟩
      · right
        refine ⟨if_neg q, ?_, ?_⟩
        · rw [beq_eq_false_iff_ne]; omega
        · rw [beq_eq_false_iff_ne]; omega
    have hmx : mx is ≤ 1048576 := by omega
    obtain ⟨D, hD⟩ : ∃ D, dp (.mk k t ns is) = D := ⟨_, rfl⟩
    rw [hD] at hdp ⊢
    have HMX : Hid (∀ i, mx (is.take i) ≤ 1048576) := fun i => Nat.le_trans ((mx_le _ _).2 (fun p hp => by
      have h1 : p < is.length := by rw [List.length_take] at hp; omega
      have h2 : (is.take i).getD p j0 = is.getD p j0 := by
        have : p < i := by rw [List.length_take] at hp; omega
        simp [List.getD, List.getElem?_take, this]
      rw [h2]
      exact (mx_le is (mx is)).1 (Nat.le_refl _) p h1)) hmx
    clear hD hdb hbl hs
    go_enter Tryd.func36, Tryd.ntmps36
    go_wp2_with fail
    rw [HW0.out]
    go_loopg [3, 4] m (fun gg s3 s4 wx => ∃ i : Nat, i ≤ m ∧ gg = m - i ∧ s4 = .int .i64 i ∧ s3 = .int .i64 (mx (is.take i) : Nat) ∧ Keep w0 wx)
    case atStart => exact ⟨0, by omega, by omega, rfl, rfl, Keep.refl _⟩
    case round =>
      obtain ⟨i, hi, rfl, rfl, rfl, kq⟩ := hrel
      have b3 := kq.cell a3
      have b0 := kq.cell a0
      have hmi := HMX.out i
      by_cases hil : i < m
      · have hms := mx_succ is (i := i) (by rw [HM.out]; exact hil)
        have hil2 : i < is.length := by rw [HM.out]; exact hil
        obtain ⟨bb, oo, hae, hc0, hc1, hc2, hc3⟩ := hx i hil2
        have kk := k0.trans kq
        have f0 := Keep.cell kk hc0
        have f1 := Keep.cell kk hc1
        have f2 := Keep.cell kk hc2
        have f3 := Keep.cell kk hc3
        have hI := ih (is.getD i j0) _ wr (hlt i hil2) ((hr i hil2).keep kk) (hbi i hil2)
        subst hae
        clear hx hr ih hlt hc0 hc1 hc2 hc3
        generalize (X i).1 = A0 at *
        generalize (X i).2.1 = A1 at *
        generalize (X i).2.2.1 = A2 at *
        generalize (X i).2.2.2 = A3 at *
        obtain ⟨M, hM⟩ : ∃ M, mx (is.take i) = M := ⟨_, rfl⟩
        obtain ⟨d, hd⟩ : ∃ d, dp (is.getD i j0) = d := ⟨_, rfl⟩
        rw [hM, hd] at hms
        rw [hd] at hI
        rw [hM] at hmi
        have HMM : Hid (mx (is.take i) = M) := hM
        rw [hM]
        clear hM hd
        by_cases hdm : M < d
        · have HS : Hid (mx (is.take (i + 1)) = d) := by show _ = _; rw [hms]; exact Nat.max_eq_right (by omega)
          have hc1 : ((d : Int) > (M : Int)) := by omega
          have hc2 : decide ((M : Int) < (d : Int)) = true := decide_eq_true (by omega)
          clear hms
          go_wp2_with (go_at_call 36; refine hI.mono ?_; clear hI; rintro e w2 ⟨rfl, k2⟩)
          go_roundg (m - (i + 1))
          case measure => omega
          case rel => exact ⟨i + 1, by omega, rfl, by go_num, by rw [HS.out], kq.trans k2⟩
        · have HS : Hid (mx (is.take (i + 1)) = M) := by show _ = _; rw [hms]; exact Nat.max_eq_left (by omega)
          have hc1 : ¬ ((d : Int) > (M : Int)) := by omega
          have hc2 : decide ((M : Int) < (d : Int)) = false := decide_eq_false (by omega)
          clear hms
          go_wp2_with (go_at_call 36; refine hI.mono ?_; clear hI; rintro e w2 ⟨rfl, k2⟩)
          go_roundg (m - (i + 1))
          case measure => omega
          case rel => exact ⟨i + 1, by omega, rfl, by go_num, by rw [HS.out], kq.trans k2⟩
      · obtain rfl : i = m := by omega
        have HT : Hid (is.take i = is) := by show _ = _; rw [← HM.out]; exact List.take_length
        have HD : Hid (D = mx (is.take i) + own1 (.mk k t ns is)) := by show _ = _; rw [HT.out]; exact hdp
        generalize mx (is.take i) = M at HD hmi ⊢
        clear hdp hx hr ih hlt hmx
        rcases hb67 with ⟨ho, hk67⟩ | ⟨ho, h6, h7⟩
        · have HD1 : Hid (D = M + 1) := by show _ = _; rw [HD.out, ho]
          have hwp : wrap64 ((M : Int) + 1) = (M : Int) + 1 := IntWalk.wrap64_in _ (by omega)
          rcases hk67 with rfl | rfl
          · go_wp2_with fail
            go_ret
            exact ⟨by rw [HD1.out]; rfl, k0.trans kq⟩
          · have h6 : (((7 : Nat) : Int) == 6) = false := by decide
            go_wp2_with fail
            go_ret
            exact ⟨by rw [HD1.out]; rfl, k0.trans kq⟩
        · have HD1 : Hid (D = M) := by show _ = _; rw [HD.out, ho]; rfl
          go_wp2_with fail
          go_ret
          exact ⟨by rw [HD1.out]; rfl, k0.trans kq⟩
open Go.Maps
theorem run_makeMap77 (w : World) : (Instr.makeMap 77 none).run Tryd.prog w = .ok (.map (some w.heap.size)) (w.alloc (.map #[] 0)) := by
  simp [Instr.makeMap, asInt, run_underlying Tryd.underlying77]
/-- Texts that stand in a map as 1. -/
def CntM (w : World) (b n : Nat) (l : List ByteArray) : Prop := ∃ D : DataW Unit, w.ownsMap Tryd.prog 9 (plainElem Tryd.prog 3) b n D ∧ ∀ s : ByteArray, D.atKey (.string s.data.toList) (.lit (.int .i64 0)) = .lit (.int .i64 (if inSet s l = true then 1 else 0))
theorem CntM.made (w : World) : CntM (w.alloc (.map #[] 0)) w.heap.size 0 [] := ⟨.map [], World.ownsMap_made _ _ _ _, fun s => rfl⟩
theorem CntM.same {w w' : World} {b n : Nat} {l : List ByteArray} (h : CntM w b n l) (e : w'.heap[b]? = w.heap[b]?) : CntM w' b n l := by
  obtain ⟨D, ⟨es, clock, hb, r⟩, hh⟩ := h
  exact ⟨D, ⟨es, clock, e.trans hb, r⟩, hh⟩
theorem CntM.lt {w : World} {b n : Nat} {l : List ByteArray} (h : CntM w b n l) : b < w.heap.size := by
  obtain ⟨D, h1, -⟩ := h
  exact h1.lt
theorem CntM.look {w : World} {b n : Nat} {l : List ByteArray} (h : CntM w b n l) {s : ByteArray} (hs : s.size ≤ 281474976710656) : (Instr.lookup 77 (.map (some b)) (.string s) false).run Tryd.prog w = .ok (.int .i64 (if inSet s l = true then 1 else 0)) w := by
  obtain ⟨D, h1, hh⟩ := h
  obtain ⟨c, hrun, hat, -⟩ := h1.lookup_int K9 Tryd.underlying77 Tryd.underlying3 (zero3 w) (key9 hs)
  rw [hh s] at hat
  simp only [DataW.lit.injEq, Lit.int.injEq, true_and] at hat
  rw [hrun, hat]
theorem CntM.put {w : World} {b n : Nat} {l : List ByteArray} (h : CntM w b n l) (hn : n ≤ 281474976710656) {s : ByteArray} (hs : s.size ≤ 281474976710656) : ∃ w', (Instr.mapUpdate 77 (.map (some b)) (.string s) (.int .i64 1)).run Tryd.prog w = .ok () w' ∧ CntM w' b (n + 1) (s :: l) ∧ w.grownBy w' (some b) := by
  obtain ⟨D, h1, hh⟩ := h
  have hm := h1.isMap
  obtain ⟨w', hrun, h2, h3⟩ := h1.update K9 Tryd.underlying77 (by simp only [maxLen]; omega) (key9 hs) (plainElem_int (a := 1) Tryd.underlying3 (by decide))
  refine ⟨w', hrun, ⟨_, h2, fun s' => ?_⟩, h3⟩
  by_cases e : s = s'
  · subst e
    rw [atKey_put_same hm (k := .string s.data.toList) (show WideAt.IsKeyLit (.string s.data.toList) from trivial)]
    simp [inSet]
  · rw [atKey_put_other (lit_ne (Ne.symm e)), hh s']
    have e' : inSet s' (s :: l) = inSet s' l := by unfold inSet; rw [List.any_cons, decide_eq_false e, Bool.false_or]
    rw [e']
theorem tw_app (a b : List ByteArray) (h : tw b = true) : tw (a ++ b) = true := by
  induction a with
  | nil => exact h
  | cons x a ih => show (inSet x (a ++ b) || tw (a ++ b)) = true; rw [ih, Bool.or_true]
theorem tw_sn {l : List ByteArray} (k : Nat) (h : tw (sn l k) = true) : twn l = true := by
  unfold twn
  have e : l.reverse = (l.drop k).reverse ++ (l.take k).reverse := by rw [← List.reverse_append, List.take_append_drop]
  rw [e]
  exact tw_app _ _ h
set_option maxRecDepth 100000 in
set_option maxHeartbeats 4000000 in
theorem rtwins_in : ∀ (n : Nat) (j : J) (v : Value) (w : World), SizeOf.sizeOf j ≤ n → RdV w v j → blk j ≤ 1048576 →
    Calls Tryd.prog 38 #[v] w fun e w' => e = .returned (.bool (!(allJ noTw j))) ∧ Keep w w' := by
  intro n
  induction n with
  | zero => intro j v w hs; cases j; simp at hs
  | succ n ih =>
    intro j v w hs hv hbl
    cases hv with
    | mk k t ns is an cn ai ci X hk hn ln li hx hr =>
    have hlt : ∀ i, i < is.length → SizeOf.sizeOf (is.getD i j0) ≤ n := fun i hi => by
      have := J.is_lt (a := .mk k t ns is) (i := i) hi
      simp only [J.is] at this
      omega
    have hbi : ∀ i, i < is.length → blk (is.getD i j0) ≤ 1048576 := fun i hi => by
      have := blk_item (j := .mk k t ns is) (i := i) hi
      simp only [J.is] at this
      omega
    obtain ⟨w0, hw0, k0, tb⟩ : ∃ w0, w.alloc (Obj.cells #[.int .u8 (k : Nat), .string t, .slice an ns.length cn, .slice ai is.length ci] 27) = w0 ∧ Keep w w0 ∧ w0.heap[w.heap.size]? = some (Obj.cells #[.int .u8 (k : Nat), .string t, .slice an ns.length cn, .slice ai is.length ci] 27 (0, 0)) := ⟨_, rfl, (Keep.refl w).alloc _, heap_alloc_new w _⟩
    have a0 := cell_of_row _ _ 0 _ 27 (0, 0) tb
    have a1 := cell_of_row _ _ 1 _ 27 (0, 0) tb
    have a2 := cell_of_row _ _ 2 _ 27 (0, 0) tb
    have a3 := cell_of_row _ _ 3 _ 27 (0, 0) tb
    simp only [List.getElem?_toArray, List.getElem?_cons_zero, List.getElem?_cons_succ] at a0 a1 a2 a3
    obtain ⟨m, hm⟩ : ∃ m, is.length = m := ⟨_, rfl⟩
    have HM : Hid (is.length = m) := hm
    obtain ⟨nn, hnn⟩ : ∃ nn, ns.length = nn := ⟨_, rfl⟩
    have HNN : Hid (ns.length = nn) := hnn
    rw [hm, hnn] at hw0
    rw [hm] at a3
    rw [hnn] at a2
    rw [hm, hnn]
    rw [hm] at li
    rw [hnn] at ln
    have HW0 : Hid (w.alloc (Obj.cells #[.int .u8 (k : Nat), .string t, .slice an nn cn, .slice ai m ci] 27) = w0) := hw0
    clear hm hnn hw0 tb
    have hA : allJ noTw (.mk k t ns is) = (noTw (.mk k t ns is) && is.all (allJ noTw)) := allJ_eq _ _
    obtain ⟨ANS, hANS⟩ : ∃ ANS, (!(allJ noTw (.mk k t ns is))) = ANS := ⟨_, rfl⟩
    have hNT : noTw (.mk k t ns is) = !(twn ns) := rfl
    have hAN : ANS = !((!(twn ns)) && is.all (allJ noTw)) := by rw [← hANS, hA, hNT]
    rw [hANS]
    have hns : ∀ t ∈ ns, t.size ≤ 1048576 := fun u hu => by
      have := blk_name (j := .mk k t ns is) (t := u) hu
      omega
    have hnl : nn ≤ 1048576 := by
      have := blk_names (.mk k t ns is)
      simp only [J.ns] at this
      have := HNN.out
      omega
    have hml : m ≤ 1048576 := by
      have := blk_items (.mk k t ns is)
      simp only [J.is] at this
      have := HM.out
      omega
    have hmk := run_makeMap77
    have hs0 : w0.heap.size = w.heap.size + 1 := by rw [← HW0.out]; simp
    have hM0 : Hid (CntM (w0.alloc (.map #[] 0)) (w.heap.size + 1) 0 (sn ns 0)) := by rw [← hs0]; exact CntM.made w0
    have HS0 : Hid (w0.heap.size ≤ w.heap.size + 1) := by show _ ≤ _; omega
    clear hs0
    have km := (Keep.refl w0).alloc (.map #[] 0)
    clear hA hbl hs hNT hANS
    go_enter Tryd.func38, Tryd.ntmps38
    go_wp2_with fail
    rw [HW0.out]
    go_wp2_with fail
    go_loopg [4] nn (fun gg s4 wx => ∃ i : Nat, i ≤ nn ∧ gg = nn - i ∧ s4 = .int .i64 i ∧ Hid (CntM wx (w.heap.size + 1) i (sn ns i)) ∧ Hid (tw (sn ns i) = false) ∧ Keep w0 wx)
    case atStart => exact ⟨0, by omega, by omega, rfl, hM0, rfl, km⟩
    case round =>
      obtain ⟨i, hi, rfl, rfl, hM, hT, kq⟩ := hrel
      have b2 := kq.cell a2
      by_cases hil : i < nn
      · have hil2 : i < ns.length := by rw [HNN.out]; exact hil
        obtain ⟨b, o, hae, hc⟩ := hn i hil2
        have hc2 := (k0.trans kq).cell hc
        obtain ⟨u, hu⟩ : ∃ u, ns.getD i ByteArray.empty = u := ⟨_, rfl⟩
        have hum : u ∈ ns := by rw [← hu]; simp [List.getD, hil2]
        have huz := hns u hum
        rw [hu] at hc2
        have hs7 : sn ns (i + 1) = u :: sn ns i := by rw [sn_succ hil2, hu]
        have hlk := hM.out.look (s := u) (by omega)
        subst hae
        cases hin : inSet u (sn ns i) with
        | true =>
          rw [hin] at hlk
          rw [if_pos rfl] at hlk
          have hTW : twn ns = true := tw_sn (i + 1) (by rw [hs7]; show (inSet u (sn ns i) || _) = true; rw [hin]; rfl)
          have HT : Hid (ANS = true) := by show _ = _; rw [hAN, hTW]; rfl
          clear hx hr ih hlt hin hs7 hc hu hTW hAN
          go_wp2_with fail
          go_ret
          exact ⟨ret_bool HT.out.symm, k0.trans kq⟩
        | false =>
          rw [hin] at hlk
          rw [if_neg (by simp)] at hlk
          obtain ⟨w7, hput, hM7, g7⟩ := hM.out.put (by omega) (s := u) (by omega)
          rw [← hs7] at hM7
          have k7 : Keep w0 w7 := Kb.keep kq (Kb.of_grown g7) HS0.out
          have hT7 : Hid (tw (sn ns (i + 1)) = false) := by show _ = _; rw [hs7]; show (inSet u (sn ns i) || tw (sn ns i)) = false; rw [hin, hT.out]; rfl
          replace hM7 : Hid _ := hM7
          clear hx hr ih hlt hin hs7 hc hu g7
          go_wp2_with fail
          go_roundg (nn - (i + 1))
          case measure => omega
          case rel => exact ⟨i + 1, by omega, rfl, by go_num, hM7, hT7, k7⟩
      · obtain rfl : i = nn := by omega
        have hTW : twn ns = false := by
          have := hT.out
          have e : sn ns i = ns.reverse := by rw [← HNN.out]; exact sn_all ns
          rw [e] at this
          exact this
        rw [hTW] at hAN
        have krw := kq
        have HAN : Hid (ANS = !(is.all (allJ noTw))) := by show _ = _; rw [hAN]; rfl
        clear hTW hAN hT hM
        go_wp2_with fail
        go_loopg [5] m (fun gg s5 wx => ∃ q : Nat, q ≤ m ∧ gg = m - q ∧ s5 = .int .i64 q ∧ Hid (∀ p, p < q → allJ noTw (is.getD p j0) = true) ∧ Keep w0 wx)
        case atStart => exact ⟨0, by omega, by omega, rfl, fun p hp => by omega, krw⟩
        case round =>
          obtain ⟨i, hi, rfl, rfl, hq, kq⟩ := hrel
          have b3 := kq.cell a3
          by_cases hil : i < m
          · have hil2 : i < is.length := by rw [HM.out]; exact hil
            obtain ⟨bb, oo, hae, hc0, hc1, hc2, hc3⟩ := hx i hil2
            have kk := k0.trans kq
            have f0 := Keep.cell kk hc0
            have f1 := Keep.cell kk hc1
            have f2 := Keep.cell kk hc2
            have f3 := Keep.cell kk hc3
            have hI := ih (is.getD i j0) _ wr (hlt i hil2) ((hr i hil2).keep kk) (hbi i hil2)
            subst hae
            clear hx hr ih hlt hc0 hc1 hc2 hc3
            generalize (X i).1 = A0 at *
            generalize (X i).2.1 = A1 at *
            generalize (X i).2.2.1 = A2 at *
            generalize (X i).2.2.2 = A3 at *
            cases hv : allJ noTw (is.getD i j0) with
            | true =>
              rw [hv] at hI
              have HV : Hid (allJ noTw (is.getD i j0) = true) := hv
              clear hv
              go_wp2_with (go_at_call 38; refine hI.mono ?_; clear hI; rintro e w2 ⟨rfl, k2⟩)
              go_roundg (m - (i + 1))
              case measure => omega
              case rel =>
                refine ⟨i + 1, by omega, rfl, by go_num, ?_, kq.trans k2⟩
                intro p hp
                by_cases hpj : p = i
                · subst hpj; exact HV.out
                · exact hq.out p (by omega)
            | false =>
              rw [hv] at hI
              have HE : Hid (is.all (allJ noTw) = false) := all_not hil2 hv
              clear hv
              go_wp2_with (go_at_call 38; refine hI.mono ?_; clear hI; rintro e w2 ⟨rfl, k2⟩)
              go_ret
              exact ⟨ret_bool (by rw [HAN.out, HE.out]; rfl), (k0.trans kq).trans k2⟩
          · have HE : Hid (is.all (allJ noTw) = true) := all_upto (fun p hp => hq.out p (by rw [HM.out] at hp; omega))
            clear hx hr ih hlt
            go_wp2_with fail
            go_ret
            exact ⟨ret_bool (by rw [HAN.out, HE.out]; rfl), k0.trans kq⟩
end Go.Proofs.YteonapeoeckhfaaDoor
