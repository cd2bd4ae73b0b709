import Derived.Test.YteonapeoeckhfaaDoorP3
import Derived.Deep.CutBlock
import Derived.Deep.CutRange
set_option linter.unusedVariables false
set_option linter.unusedSimpArgs false
namespace Go.Proofs.YteonapeoeckhfaaDoor
open Go.RowKit Go.Shelf
theorem wn_mono (k : Nat) (ns : List ByteArray) (is : List J) {i j : Nat} (h : i ≤ j) (hj : j ≤ is.length) : (wn k ns is i).length ≤ (wn k ns is j).length := by
  induction j with
  | zero => obtain rfl : i = 0 := by omega
            exact Nat.le_refl _
  | succ j ih =>
    by_cases e : i = j + 1
    · subst e; exact Nat.le_refl _
    · have := ih (by omega) (by omega)
      rw [wn_succ k ns is (by omega), List.length_append, List.length_append]
      omega
def sp1 (i : Nat) : List UInt8 := if i = 0 then [] else [44]
def sp2 (k : Nat) (ns : List ByteArray) (i : Nat) : List UInt8 := if k = 7 then qt (ns.getD i ByteArray.empty).data.toList ++ [58] else []
theorem sep_eq (k : Nat) (ns : List ByteArray) (i : Nat) : sep k ns i = sp1 i ++ sp2 k ns i := rfl
/-- What is asked of the items' own writing. -/
def ItemsOk (W : World) (g : Nat) (is : List J) : Prop :=
  ∀ i, i < is.length → ∀ (v : Value) (l : List UInt8) (w : World), RdV W v (is.getD i j0) → Pp W w g l → l.length ≤ 16777216 →
    Calls Tryd.prog 30 #[.pointer (some ⟨g, 0, none⟩), v] w (PO W g l (pr (is.getD i j0)) w)
theorem b27 {W w w' : World} {g b : Nat} {cs : Array Value} (k : Kw W.heap.size g w w') (h : w.heap[b]? = some (.cells cs 27 (0, 0))) (hg : b ≠ g) : w'.heap[b]? = some (.cells cs 27 (0, 0)) :=
  k.block b _ h hg (.inr (fun cur z e => by simp at e))
set_option maxRecDepth 100000 in
set_option maxHeartbeats 8000000 in
theorem within_any (hI : IxC) (W : World) (g : Nat) (l bb eb : List UInt8) (k : Nat) (t : ByteArray) (ns : List ByteArray) (is : List J) (v : Value) (w : World) (hv : RdV W v (.mk k t ns is)) (hit : ItemsOk W g is) (h : Pp W w g l) (hl : l.length ≤ 16777216)
    (hbb : bb.length = 1) (heb : eb.length = 1) (hns : k = 7 → ns.length = is.length) (hf : FitT (.mk k t ns is)) :
    Calls Tryd.prog 55 #[.pointer (some ⟨g, 0, none⟩), .string ⟨bb.toArray⟩, v, .string ⟨eb.toArray⟩] w (PO W g l (bb ++ wn k ns is is.length ++ eb) w) := by
  cases hv with
  | mk k t ns is an cn ai ci X hk hn ln li hx hr =>
  obtain ⟨vb, hgb, -⟩ := h.box
  have hglt : g < w.heap.size := (Array.getElem?_eq_some_iff.1 hgb).1
  clear hgb
  have ka := (Keep.refl w).alloc (Obj.cells #[.int .u8 (k : Nat), .string t, .slice an ns.length cn, .slice ai is.length ci] 27)
  have hb0 := heap_alloc_new w (Obj.cells #[.int .u8 (k : Nat), .string t, .slice an ns.length cn, .slice ai is.length ci] 27)
  have hp0 : Hid (Pp W (w.alloc (Obj.cells #[.int .u8 (k : Nat), .string t, .slice an ns.length cn, .slice ai is.length ci] 27)) g l) := h.keep ka
  obtain ⟨w0, hw0⟩ : ∃ w0, w.alloc (Obj.cells #[.int .u8 (k : Nat), .string t, .slice an ns.length cn, .slice ai is.length ci] 27) = w0 := ⟨_, rfl⟩
  rw [hw0] at ka hb0 hp0
  have hgne : w.heap.size ≠ g := by omega
  obtain ⟨m, hm⟩ : ∃ m, is.length = m := ⟨_, rfl⟩
  have HM : Hid (is.length = m) := hm
  obtain ⟨nn, hnn⟩ : ∃ nn, ns.length = nn := ⟨_, rfl⟩
  have HNN : Hid (ns.length = nn) := hnn
  rw [hm] at li hb0 hns hw0
  rw [hnn] at ln hb0 hns hw0
  rw [hm, hnn]
  have HW0 : Hid (w.alloc (Obj.cells #[.int .u8 (k : Nat), .string t, .slice an nn cn, .slice ai m ci] 27) = w0) := hw0
  have hA := write_any W g l bb w0 hp0.out hl (by omega)
  have kw0 : Kw W.heap.size g w w0 := Kw.of_keep ka
  -- what is too long in part is too long in all
  have hBad : Hid (∀ (i X : Nat), i ≤ m → ¬ l.length + X ≤ 16777216 → X ≤ 1 + (wn k ns is i).length → ¬ l.length + (bb ++ wn k ns is m ++ eb).length ≤ 16777216) := by
    intro i X hi h1 h2
    have := wn_mono k ns is hi (by rw [HM.out]; exact Nat.le_refl _)
    simp only [List.length_append, hbb, heb]
    omega
  obtain ⟨T, hT⟩ : ∃ T, bb ++ wn k ns is m ++ eb = T := ⟨_, rfl⟩
  rw [hT] at hBad ⊢
  have HT : Hid (bb ++ wn k ns is m ++ eb = T) := hT
  clear hm hnn h hw0 hT
  go_enter Tryd.func55, Tryd.ntmps55
  by_cases f1 : l.length + bb.length ≤ 16777216
  · have F1 : Hid (l.length + bb.length + (wn k ns is 0).length ≤ 16777216) := f1
    go_wp2_with fail
    rw [HW0.out]
    go_wp2_with (go_at_call 53; refine hA.mono ?_; clear hA; rintro e w1 hp; obtain ⟨rfl, p1, k1⟩ := hp.len f1; clear hp f1; replace p1 : Hid _ := p1; have b1 := b27 k1 hb0 hgne; have a3 := cell_of_row _ _ 3 _ 27 (0, 0) b1; simp only [List.getElem?_toArray, List.getElem?_cons_zero, List.getElem?_cons_succ] at a3)
    go_loopg [16] m (fun gg s16 wx => ∃ i : Nat, i ≤ m ∧ gg = m - i ∧ s16 = .int .i64 i ∧ Hid (l.length + bb.length + (wn k ns is i).length ≤ 16777216) ∧ Hid (Pp W wx g (l ++ bb ++ wn k ns is i)) ∧ Kw W.heap.size g w0 wx)
    case atStart => exact ⟨0, by omega, by omega, rfl, F1, by show Pp _ _ _ _; rw [show l ++ bb ++ wn k ns is 0 = l ++ bb from List.append_nil _]; exact p1.out, k1⟩
    case round =>
      obtain ⟨i, hi, rfl, rfl, hfl, hP, kx⟩ := hrel
      by_cases hil : i < m
      · have hil2 : i < is.length := by rw [HM.out]; exact hil
        have hws := wn_succ k ns is hil2
        rw [sep_eq] at hws
        obtain ⟨bi, oi, hae, hc0, hc1, hc2, hc3⟩ := hx i hil2
        have kWr := hP.out.kp
        have f0 := Keep.cell kWr hc0
        have f1 := Keep.cell kWr hc1
        have f2 := Keep.cell kWr hc2
        have f3 := Keep.cell kWr hc3
        have hri := hr i hil2
        obtain ⟨q1, q2, q3, q4, q5, q6, q7, q8, e0, e1, e2, e3⟩ := RdV.shape hri
        rw [e0, e1, e2, e3] at hri
        rw [e0] at f0
        rw [e1] at f1
        rw [e2] at f2
        rw [e3] at f3
        have hIT := fun l' w' => hit i hil2 _ l' w' hri
        clear e0 e1 e2 e3 hri hc0 hc1 hc2 hc3
        subst hae
        have bv := b27 kx hb0 hgne
        have a0 := cell_of_row _ _ 0 _ 27 (0, 0) bv
        have a2 := cell_of_row _ _ 2 _ 27 (0, 0) bv
        simp only [List.getElem?_toArray, List.getElem?_cons_zero, List.getElem?_cons_succ] at a0 a2
        have ki := (Keep.refl wr).alloc (Obj.cells #[.int .u8 (q1 : Nat), .string q2, .slice q3 q4 q5, .slice q6 q7 q8] 27)
        have bi0 := heap_alloc_new wr (Obj.cells #[.int .u8 (q1 : Nat), .string q2, .slice q3 q4 q5, .slice q6 q7 q8] 27)
        obtain ⟨wi, hwi⟩ : ∃ wi, wr.alloc (Obj.cells #[.int .u8 (q1 : Nat), .string q2, .slice q3 q4 q5, .slice q6 q7 q8] 27) = wi := ⟨_, rfl⟩
        have HWI : Hid (wr.alloc (Obj.cells #[.int .u8 (q1 : Nat), .string q2, .slice q3 q4 q5, .slice q6 q7 q8] 27) = wi) := hwi
        rw [hwi] at ki bi0
        have PI : Hid (Pp W wi g (l ++ bb ++ wn k ns is i)) := hP.out.keep ki
        have kxi : Kw W.heap.size g w0 wi := kx.trans (Kw.of_keep ki)
        have hgr : wr.heap.size ≠ g := by
          obtain ⟨vb2, hgb2, -⟩ := hP.out.box
          have := (Array.getElem?_eq_some_iff.1 hgb2).1
          omega
        have bvi := b27 kxi hb0 hgne
        clear hwi
        go_upto_if 22 with fail
        rw [HWI.out]
        -- the comma
        have S1 : Hid ((sp1 i).length ≤ 1) := by show _ ≤ _; unfold sp1; split <;> simp
        have hV1 := write_any W g (l ++ bb ++ wn k ns is i) [44] wi PI.out (by have := hfl.out; simp only [List.length_append]; omega) (by simp)
        have HX : Hid ((wn k ns is (i + 1)).length = (wn k ns is i).length + ((sp1 i).length + (sp2 k ns i).length) + (pr (is.getD i j0)).length) := by show _ = _; rw [hws]; simp only [List.length_append]
        have hV2 := fun wx (hp : Pp W wx g (l ++ bb ++ wn k ns is i ++ sp1 i)) (hz : (l ++ bb ++ wn k ns is i ++ sp1 i).length ≤ 16777216) (hs : (ns.getD i ByteArray.empty).data.toList.length ≤ 140737488355328) => quote_any hI W g (l ++ bb ++ wn k ns is i ++ sp1 i) (ns.getD i ByteArray.empty).data.toList wx hp hz hs
        have hV3 := fun wx (hp : Pp W wx g (l ++ bb ++ wn k ns is i ++ sp1 i ++ qt (ns.getD i ByteArray.empty).data.toList)) hz => write_any W g (l ++ bb ++ wn k ns is i ++ sp1 i ++ qt (ns.getD i ByteArray.empty).data.toList) [58] wx hp hz (by simp)
        have hV4 := fun wx (hp : Pp W wx g (l ++ bb ++ wn k ns is i ++ sp1 i ++ sp2 k ns i)) hz => hIT (l ++ bb ++ wn k ns is i ++ sp1 i ++ sp2 k ns i) wx hp hz
        have HWS : Hid (l ++ bb ++ wn k ns is i ++ sp1 i ++ sp2 k ns i ++ pr (is.getD i j0) = l ++ bb ++ wn k ns is (i + 1)) := by show _ = _; rw [hws]; simp only [List.append_assoc]
        have HN7 : Hid (k = 7 → nn = m) := hns
        clear hws hIT hx hr
        go_cut [] from 22 to 24 (fun wx => Hid (l.length + bb.length + (wn k ns is i).length + (sp1 i).length ≤ 16777216) ∧ Hid (Pp W wx g (l ++ bb ++ wn k ns is i ++ sp1 i)) ∧ Kw W.heap.size g wi wx)
        case first =>
          clear hV2 hV3 hV4
          by_cases h0 : i = 0
          · have hc : decide (0 < i) = false := decide_eq_false (by omega)
            have hs1 : Hid (sp1 i = []) := if_pos h0
            have PI2 : Hid (Pp W wi g (l ++ bb ++ wn k ns is i ++ sp1 i)) := by rw [hs1.out, List.append_nil]; exact PI
            clear h0
            rw [hc]
            go_wp2_with fail
            go_meet
            exact ⟨by show _ ≤ _; rw [hs1.out]; exact hfl.out, PI2, Kw.refl _ _ _⟩
          · have hc : decide (0 < i) = true := decide_eq_true (by omega)
            have hs1 : Hid (sp1 i = [44]) := if_neg h0
            rw [hc]
            by_cases f4 : (l ++ bb ++ wn k ns is i).length + [(44 : UInt8)].length ≤ 16777216
            · have F4 : Hid ((l ++ bb ++ wn k ns is i).length + [(44 : UInt8)].length ≤ 16777216) := f4
              clear h0
              go_wp2_with (go_at_call 53; refine hV1.mono ?_; clear hV1; rintro e w2 hp; obtain ⟨rfl, p2, k2⟩ := hp.len f4; clear hp f4)
              go_meet
              refine ⟨?_, ?_, k2⟩
              · have := F4.out
                show _ ≤ _
                rw [hs1.out]
                simp only [List.length_append] at this
                omega
              · show Pp _ _ _ _
                rw [hs1.out]; exact p2
            · have HB : Hid (¬ l.length + T.length ≤ 16777216) := by
                refine hBad.out (i + 1) (bb.length + (wn k ns is i).length + 1) (by omega) ?_ ?_
                · simp only [List.length_append, List.length_cons, List.length_nil] at f4; omega
                · rw [HX.out, hs1.out, hbb]; simp only [List.length_cons, List.length_nil]; omega
              clear h0
              go_wp2_with (go_at_call 53; refine hV1.mono ?_; clear hV1; rintro e w2 hp; obtain ⟨rfl, k2⟩ := hp.not f4; clear hp f4)
              exact ⟨rfl, PO.bad HB.out ((kw0.trans kxi).trans k2)⟩
        case rest =>
          obtain ⟨hsz1, hP1, kc1⟩ := hcut
          clear hV1 PI
          have bv2 := b27 kc1 bvi hgne
          have bi2 := b27 kc1 bi0 hgr
          have d0 := cell_of_row _ _ 0 _ 27 (0, 0) bv2
          have d2 := cell_of_row _ _ 2 _ 27 (0, 0) bv2
          simp only [List.getElem?_toArray, List.getElem?_cons_zero, List.getElem?_cons_succ] at d0 d2
          go_upto_if 27 with fail
          go_cut [] from 27 to 36 (fun wx => Hid (l.length + bb.length + (wn k ns is i).length + (sp1 i).length + (sp2 k ns i).length ≤ 16777216) ∧ Hid (Pp W wx g (l ++ bb ++ wn k ns is i ++ sp1 i ++ sp2 k ns i)) ∧ Kw W.heap.size g wc wx)
          case first =>
            clear hV4
            by_cases h7 : k = 7
            · have hc : ((k : Int) == 7) = true := by rw [h7]; rfl
              have hnm := HN7.out h7
              obtain ⟨b5, o5, hae5, hc5⟩ := hn i (by rw [HNN.out, hnm]; exact hil)
              have hc6 := hP1.out.kp.cell hc5
              have hmem : ns.getD i ByteArray.empty ∈ ns := by
                have : i < ns.length := by rw [HNN.out, hnm]; exact hil
                simp [List.getD, this]
              have hs5 := hf.2 _ hmem
              have hs2 : Hid (sp2 k ns i = qt (ns.getD i ByteArray.empty).data.toList ++ [58]) := if_pos h7
              have hQ := hV2 wc hP1.out (by have := hsz1.out; simp only [List.length_append]; omega) (by rw [Array.length_toList]; exact hs5)
              rw [mk_dt] at hQ
              have HX2 : Hid ((sp2 k ns i).length = (qt (ns.getD i ByteArray.empty).data.toList).length + 1) := by show _ = _; rw [hs2.out]; simp only [List.length_append, List.length_cons, List.length_nil]
              subst hae5
              clear hV2 h7 hc5 hmem hs5
              generalize ns.getD i ByteArray.empty = nm at *
              rw [hc]
              subst hnm
              by_cases f4 : (l ++ bb ++ wn k ns is i ++ sp1 i).length + (qt nm.data.toList).length ≤ 16777216
              · have F4 : Hid ((l ++ bb ++ wn k ns is i ++ sp1 i).length + (qt nm.data.toList).length ≤ 16777216) := f4
                have f5 : (l ++ bb ++ wn k ns is i ++ sp1 i ++ qt nm.data.toList).length ≤ 16777216 := by rw [List.length_append]; exact f4
                have hV3' := fun wx hp => hV3 wx hp f5
                clear hV3 f5
                by_cases f6 : (l ++ bb ++ wn k ns is i ++ sp1 i ++ qt nm.data.toList).length + [(58 : UInt8)].length ≤ 16777216
                · have F6 : Hid ((l ++ bb ++ wn k ns is i ++ sp1 i ++ qt nm.data.toList).length + [(58 : UInt8)].length ≤ 16777216) := f6
                  go_wp2_with (first
                    | (go_at_call 54; refine hQ.mono ?_; clear hQ; rintro e w2 hp; obtain ⟨rfl, p2, k2⟩ := hp.len f4; clear hp f4; have hV3 := hV3' w2 p2; clear hV3')
                    | (go_at_call 53; refine hV3.mono ?_; clear hV3; rintro e w3 hp; obtain ⟨rfl, p3, k3⟩ := hp.len f6; clear hp f6))
                  go_meet
                  refine ⟨?_, ?_, k2.trans k3⟩
                  · have := F6.out
                    have := HX2.out
                    show _ ≤ _
                    simp only [List.length_append, List.length_cons, List.length_nil] at *
                    omega
                  · show Pp _ _ _ _
                    rw [hs2.out, ← List.append_assoc]; exact p3
                · have HB : Hid (¬ l.length + T.length ≤ 16777216) := by
                    refine hBad.out (i + 1) (bb.length + (wn k ns is i).length + (sp1 i).length + (qt nm.data.toList).length + 1) (by omega) ?_ ?_
                    · simp only [List.length_append, List.length_cons, List.length_nil] at f6; omega
                    · rw [HX.out, HX2.out, hbb]; omega
                  go_wp2_with (first
                    | (go_at_call 54; refine hQ.mono ?_; clear hQ; rintro e w2 hp; obtain ⟨rfl, p2, k2⟩ := hp.len f4; clear hp f4; have hV3 := hV3' w2 p2; clear hV3')
                    | (go_at_call 53; refine hV3.mono ?_; clear hV3; rintro e w3 hp; obtain ⟨rfl, k3⟩ := hp.not f6; clear hp f6))
                  exact ⟨rfl, PO.bad HB.out ((((kw0.trans kxi).trans kc1).trans k2).trans k3)⟩
              · have HB : Hid (¬ l.length + T.length ≤ 16777216) := by
                  refine hBad.out (i + 1) (bb.length + (wn k ns is i).length + (sp1 i).length + (qt nm.data.toList).length) (by omega) ?_ ?_
                  · simp only [List.length_append, List.length_cons, List.length_nil] at f4; omega
                  · rw [HX.out, HX2.out, hbb]; omega
                go_wp2_with (go_at_call 54; refine hQ.mono ?_; clear hQ; rintro e w2 hp; obtain ⟨rfl, k2⟩ := hp.not f4; clear hp f4)
                exact ⟨rfl, PO.bad HB.out (((kw0.trans kxi).trans kc1).trans k2)⟩
            · have hc : ((k : Int) == 7) = false := by rw [beq_eq_false_iff_ne]; omega
              have hs2 : Hid (sp2 k ns i = []) := if_neg h7
              have P2 : Hid (Pp W wc g (l ++ bb ++ wn k ns is i ++ sp1 i ++ sp2 k ns i)) := by rw [hs2.out, List.append_nil]; exact hP1
              clear h7 hV2 hV3
              rw [hc]
              go_wp2_with fail
              go_meet
              exact ⟨by show _ ≤ _; rw [hs2.out]; exact hsz1.out, P2, Kw.refl _ _ _⟩
          case rest =>
            rename_i wd
            obtain ⟨hsz2, hP2, kc2⟩ := hcut
            have bi3 := b27 kc2 bi2 hgr
            have yy0 := cell_of_row _ _ 0 _ 27 (0, 0) bi3
            have yy1 := cell_of_row _ _ 1 _ 27 (0, 0) bi3
            have yy2 := cell_of_row _ _ 2 _ 27 (0, 0) bi3
            have yy3 := cell_of_row _ _ 3 _ 27 (0, 0) bi3
            simp only [List.getElem?_toArray, List.getElem?_cons_zero, List.getElem?_cons_succ] at yy0 yy1 yy2 yy3
            have hV5 := hV4 wc hP2.out (by have := hsz2.out; simp only [List.length_append]; omega)
            clear hV4 hV2 hV3
            by_cases f7 : (l ++ bb ++ wn k ns is i ++ sp1 i ++ sp2 k ns i).length + (pr (is.getD i j0)).length ≤ 16777216
            · have F7 : Hid (l.length + bb.length + (wn k ns is (i + 1)).length ≤ 16777216) := by
                have := HX.out
                show _ ≤ _
                simp only [List.length_append] at f7
                omega
              go_wp2_with (go_at_call 30; refine hV5.mono ?_; clear hV5; rintro e w5 hp; obtain ⟨rfl, p5, k5⟩ := hp.len f7; clear hp f7; rw [HWS.out] at p5; replace p5 : Hid _ := p5)
              go_roundg (m - (i + 1))
              case measure => omega
              case rel => exact ⟨i + 1, by omega, rfl, by go_num, F7, p5, ((kxi.trans kc1).trans kc2).trans k5⟩
            · have HB : Hid (¬ l.length + T.length ≤ 16777216) := by
                refine hBad.out (i + 1) (bb.length + (wn k ns is (i + 1)).length) (by omega) ?_ (by omega)
                have := HX.out
                simp only [List.length_append] at f7
                omega
              go_wp2_with (go_at_call 30; refine hV5.mono ?_; clear hV5; rintro e w5 hp; obtain ⟨rfl, k5⟩ := hp.not f7; clear hp f7)
              exact ⟨rfl, PO.bad HB.out ((((kw0.trans kxi).trans kc1).trans kc2).trans k5)⟩
      · obtain rfl : i = m := by omega
        have hZ := write_any W g (l ++ bb ++ wn k ns is i) eb wr hP.out (by have := hfl.out; simp only [List.length_append]; omega) (by omega)
        have HE : Hid (l ++ bb ++ wn k ns is i ++ eb = l ++ T) := by show _ = _; rw [← HT.out]; simp only [List.append_assoc]
        have HTL : Hid (T.length = bb.length + (wn k ns is i).length + eb.length) := by show _ = _; rw [← HT.out]; simp only [List.length_append]
        clear hx hr hit
        by_cases f8 : (l ++ bb ++ wn k ns is i).length + eb.length ≤ 16777216
        · have HO : Hid (l.length + T.length ≤ 16777216) := by
            have := HTL.out
            simp only [List.length_append] at f8
            show _ ≤ _
            omega
          go_wp2_with (go_at_call 53; refine hZ.mono ?_; clear hZ; rintro e w3 hp; obtain ⟨rfl, p3, k3⟩ := hp.len f8; clear hp f8; rw [HE.out] at p3; replace p3 : Hid _ := p3)
          go_end0
          exact PO.ok HO.out p3.out ((kw0.trans kx).trans k3)
        · have HB : Hid (¬ l.length + T.length ≤ 16777216) := by
            have := HTL.out
            simp only [List.length_append] at f8
            show ¬ _
            omega
          go_wp2_with (go_at_call 53; refine hZ.mono ?_; clear hZ; rintro e w3 hp; obtain ⟨rfl, k3⟩ := hp.not f8; clear hp f8)
          exact ⟨rfl, PO.bad HB.out ((kw0.trans kx).trans k3)⟩
  · have HB : Hid (¬ l.length + T.length ≤ 16777216) := hBad.out 0 bb.length (by omega) f1 (by omega)
    go_wp2_with fail
    rw [HW0.out]
    go_wp2_with (go_at_call 53; refine hA.mono ?_; clear hA; rintro e w1 hp; obtain ⟨rfl, k1⟩ := hp.not f1; clear hp f1)
    exact ⟨rfl, PO.bad HB.out (kw0.trans k1)⟩
end Go.Proofs.YteonapeoeckhfaaDoor
