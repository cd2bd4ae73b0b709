import Derived.Test.YteonapeoeckhfaaDoorJ9
import Derived.Test.YteonapeoeckhfaaDoorG6
set_option linter.unusedVariables false
set_option linter.unusedSimpArgs false
namespace Go.Proofs.YteonapeoeckhfaaDoor
open Go.RowKit Go.Shelf
def ftB (x : J) : Bool := decide (x.t.size ≤ 140737488355328) && x.ns.all (fun t => decide (t.size ≤ 140737488355328))
/-- Every text of a value, and of all within it, is one that a machine may hold. -/
def FT (j : J) : Prop := allJ ftB j = true
theorem FT.here {j : J} (h : FT j) : FitT j := by
  unfold FT at h
  rw [allJ_eq, Bool.and_eq_true] at h
  have h1 := h.1
  unfold ftB at h1
  rw [Bool.and_eq_true, List.all_eq_true] at h1
  exact ⟨of_decide_eq_true h1.1, fun t ht => of_decide_eq_true (h1.2 t ht)⟩
theorem FT.item {j : J} (h : FT j) {i : Nat} (hi : i < j.is.length) : FT (j.is.getD i j0) := by
  unfold FT at h
  rw [allJ_eq, Bool.and_eq_true, List.all_eq_true] at h
  exact h.2 _ (by simp [List.getD, hi])
set_option maxRecDepth 100000 in
set_option maxHeartbeats 4000000 in
theorem checkDepth_in : ∀ (n : Nat) (j : J) (v : Value) (d : Nat) (w : World), SizeOf.sizeOf j ≤ n → RdV w v j → d ≤ 256 →
    Calls Tryd.prog 33 #[v, .int .i64 (d : Int)] w fun e w' => e = (if d + dp j ≤ 256 then .returned (.tuple #[]) else .panicked [PE 101 0]) ∧ Keep w w' := by
  intro n
  induction n with
  | zero => intro j v d w hs; cases j; simp at hs
  | succ n ih =>
    intro j v d w hs hv hd
    cases hv with
    | mk k t ns is an cn ai ci X hk hn ln li hx hr =>
    have hlt : ∀ i, i < is.length → SizeOf.sizeOf (is.getD i j0) ≤ n := fun i hi => by
      have := J.is_lt (a := .mk k t ns is) (i := i) hi
      simp only [J.is] at this
      omega
    have hdp : dp (.mk k t ns is) = mx is + own1 (.mk k t ns is) := dp_eq _
    obtain ⟨o1, ho1⟩ : ∃ o1, own1 (.mk k t ns is) = o1 := ⟨_, rfl⟩
    have hb67 : (o1 = 1 ∧ (k = 6 ∨ k = 7)) ∨ (o1 = 0 ∧ ((k : Int) == 6) = false ∧ ((k : Int) == 7) = false) := by
      rw [← ho1]
      unfold own1
      simp only [J.k]
      by_cases q : k = 6 ∨ k = 7
      · left; exact ⟨if_pos q, q⟩
      · right
        refine ⟨if_neg q, ?_, ?_⟩
        · rw [beq_eq_false_iff_ne]; omega
        · rw [beq_eq_false_iff_ne]; omega
    rw [ho1] at hdp
    rw [hdp]
    clear ho1 hdp
    have hD : Hid (d + (mx is + o1) = (d + o1) + mx is) := by show _ = _; omega
    rw [hD.out]
    obtain ⟨D, hDe⟩ : ∃ D, d + o1 = D := ⟨_, rfl⟩
    rw [hDe]
    obtain ⟨m, hm⟩ : ∃ m, is.length = m := ⟨_, rfl⟩
    have HM : Hid (is.length = m) := hm
    rw [hm] at li
    rw [hm]
    clear hD hm
    by_cases hD2 : D ≤ 256
    · have hgd : decide ((256 : Int) < (D : Int)) = false := decide_eq_false (by omega)
      have hg2 : ¬ ((D : Int) > 256) := by omega
      rcases hb67 with ⟨ho, hk67⟩ | ⟨ho, hb6, hb7⟩
      · subst ho
        have hw1 : IntKind.i64.wrap ((d : Int) + 1) = (D : Int) := by rw [IntWalk.i64_left]; rw [show (d : Int) + 1 = (D : Int) by omega]; exact IntWalk.wrap64_in _ (by omega)
        have hw2 : wrap64 ((d : Int) + 1) = (D : Int) := by rw [show (d : Int) + 1 = (D : Int) by omega]; exact IntWalk.wrap64_in _ (by omega)
        replace hDe : Hid (d + 1 = D) := hDe
        rcases hk67 with rfl | rfl
        · go_enter Tryd.func33, Tryd.ntmps33
          go_wp2_with fail
          go_loopg [23] m (fun gg s wx => ∃ i : Nat, i ≤ m ∧ gg = m - i ∧ s = .int .i64 i ∧ Hid (∀ p, p < i → D + dp (is.getD p j0) ≤ 256) ∧ Keep w wx)
          case atStart => exact ⟨0, by omega, by omega, rfl, fun p hp => by omega, (Keep.refl w).alloc _⟩
          case round =>
            obtain ⟨i, hi, rfl, rfl, hq, kq⟩ := hrel
            have kk := kq
            by_cases hil : i < m
            · have hil2 : i < is.length := by rw [HM.out]; exact hil
              obtain ⟨bb, oo, hae, hc0, hc1, hc2, hc3⟩ := hx i hil2
              have f0 := Keep.cell kk hc0
              have f1 := Keep.cell kk hc1
              have f2 := Keep.cell kk hc2
              have f3 := Keep.cell kk hc3
              have hri := hr i hil2
              have hI := fun wx (kx : Keep w wx) => ih (is.getD i j0) _ D wx (hlt i hil2) (hri.keep kx) hD2
              obtain ⟨q1, q2, q3, q4, q5, q6, q7, q8, e0, e1, e2, e3⟩ := RdV.shape hri
              rw [e0, e1, e2, e3] at hI
              rw [e0] at f0
              rw [e1] at f1
              rw [e2] at f2
              rw [e3] at f3
              clear e0 e1 e2 e3 hri hc0 hc1 hc2 hc3
              subst hae
              have kb := (Keep.refl wr).alloc (Obj.cells #[.int .u8 (q1 : Nat), .string q2, .slice q3 q4 q5, .slice q6 q7 q8] 27)
              by_cases hit : D + dp (is.getD i j0) ≤ 256
              · rw [if_pos hit] at hI
                have HIT : Hid (D + dp (is.getD i j0) ≤ 256) := hit
                clear hx hr hlt ih hit
                go_wp2_with (go_at_call 33; refine (hI _ (kk.trans kb)).mono ?_; clear hI; rintro e w4 ⟨rfl, k4⟩)
                go_roundg (m - (i + 1))
                case measure => omega
                case rel =>
                  refine ⟨i + 1, by omega, rfl, by go_num, ?_, (kq.trans kb).trans k4⟩
                  intro p hp
                  by_cases hpj : p = i
                  · subst hpj; exact HIT.out
                  · exact hq.out p (by omega)
              · rw [if_neg hit] at hI
                have HE : Hid (¬ D + mx is ≤ 256) := by
                  intro h
                  have h2 := (mx_le is (256 - D)).1 (by omega) i hil2
                  exact hit (by omega)
                clear hx hr hlt ih hit
                go_wp2_with (go_at_call 33; refine (hI _ (kk.trans kb)).mono ?_; clear hI; rintro e w4 ⟨rfl, k4⟩)
                refine ⟨rfl, ?_, (kk.trans kb).trans k4⟩
                first | rfl | rw [if_neg HE.out]
            · have HE : Hid (D + mx is ≤ 256) := by
                show D + mx is ≤ 256
                have h2 := (mx_le is (256 - D)).2 (fun p hp => by
                  have := hq.out p (by rw [HM.out] at hp; omega)
                  omega)
                omega
              clear hx hr hlt ih
              go_wp2_with fail
              go_end0
              refine ⟨?_, kk⟩
              first | rfl | rw [if_pos HE.out]

        · have hb6 : (((7 : Nat) : Int) == 6) = false := by decide
          go_enter Tryd.func33, Tryd.ntmps33
          go_wp2_with fail
          go_loopg [23] m (fun gg s wx => ∃ i : Nat, i ≤ m ∧ gg = m - i ∧ s = .int .i64 i ∧ Hid (∀ p, p < i → D + dp (is.getD p j0) ≤ 256) ∧ Keep w wx)
          case atStart => exact ⟨0, by omega, by omega, rfl, fun p hp => by omega, (Keep.refl w).alloc _⟩
          case round =>
            obtain ⟨i, hi, rfl, rfl, hq, kq⟩ := hrel
            have kk := kq
            by_cases hil : i < m
            · have hil2 : i < is.length := by rw [HM.out]; exact hil
              obtain ⟨bb, oo, hae, hc0, hc1, hc2, hc3⟩ := hx i hil2
              have f0 := Keep.cell kk hc0
              have f1 := Keep.cell kk hc1
              have f2 := Keep.cell kk hc2
              have f3 := Keep.cell kk hc3
              have hri := hr i hil2
              have hI := fun wx (kx : Keep w wx) => ih (is.getD i j0) _ D wx (hlt i hil2) (hri.keep kx) hD2
              obtain ⟨q1, q2, q3, q4, q5, q6, q7, q8, e0, e1, e2, e3⟩ := RdV.shape hri
              rw [e0, e1, e2, e3] at hI
              rw [e0] at f0
              rw [e1] at f1
              rw [e2] at f2
              rw [e3] at f3
              clear e0 e1 e2 e3 hri hc0 hc1 hc2 hc3
              subst hae
              have kb := (Keep.refl wr).alloc (Obj.cells #[.int .u8 (q1 : Nat), .string q2, .slice q3 q4 q5, .slice q6 q7 q8] 27)
              by_cases hit : D + dp (is.getD i j0) ≤ 256
              · rw [if_pos hit] at hI
                have HIT : Hid (D + dp (is.getD i j0) ≤ 256) := hit
                clear hx hr hlt ih hit
                go_wp2_with (go_at_call 33; refine (hI _ (kk.trans kb)).mono ?_; clear hI; rintro e w4 ⟨rfl, k4⟩)
                go_roundg (m - (i + 1))
                case measure => omega
                case rel =>
                  refine ⟨i + 1, by omega, rfl, by go_num, ?_, (kq.trans kb).trans k4⟩
                  intro p hp
                  by_cases hpj : p = i
                  · subst hpj; exact HIT.out
                  · exact hq.out p (by omega)
              · rw [if_neg hit] at hI
                have HE : Hid (¬ D + mx is ≤ 256) := by
                  intro h
                  have h2 := (mx_le is (256 - D)).1 (by omega) i hil2
                  exact hit (by omega)
                clear hx hr hlt ih hit
                go_wp2_with (go_at_call 33; refine (hI _ (kk.trans kb)).mono ?_; clear hI; rintro e w4 ⟨rfl, k4⟩)
                refine ⟨rfl, ?_, (kk.trans kb).trans k4⟩
                first | rfl | rw [if_neg HE.out]
            · have HE : Hid (D + mx is ≤ 256) := by
                show D + mx is ≤ 256
                have h2 := (mx_le is (256 - D)).2 (fun p hp => by
                  have := hq.out p (by rw [HM.out] at hp; omega)
                  omega)
                omega
              clear hx hr hlt ih
              go_wp2_with fail
              go_end0
              refine ⟨?_, kk⟩
              first | rfl | rw [if_pos HE.out]

      · subst ho
        have hDe2 : D = d := by omega
        clear hDe
        subst hDe2
        go_enter Tryd.func33, Tryd.ntmps33
        go_wp2_with fail
        go_loopg [23] m (fun gg s wx => ∃ i : Nat, i ≤ m ∧ gg = m - i ∧ s = .int .i64 i ∧ Hid (∀ p, p < i → D + dp (is.getD p j0) ≤ 256) ∧ Keep w wx)
        case atStart => exact ⟨0, by omega, by omega, rfl, fun p hp => by omega, (Keep.refl w).alloc _⟩
        case round =>
          obtain ⟨i, hi, rfl, rfl, hq, kq⟩ := hrel
          have kk := kq
          by_cases hil : i < m
          · have hil2 : i < is.length := by rw [HM.out]; exact hil
            obtain ⟨bb, oo, hae, hc0, hc1, hc2, hc3⟩ := hx i hil2
            have f0 := Keep.cell kk hc0
            have f1 := Keep.cell kk hc1
            have f2 := Keep.cell kk hc2
            have f3 := Keep.cell kk hc3
            have hri := hr i hil2
            have hI := fun wx (kx : Keep w wx) => ih (is.getD i j0) _ D wx (hlt i hil2) (hri.keep kx) hD2
            obtain ⟨q1, q2, q3, q4, q5, q6, q7, q8, e0, e1, e2, e3⟩ := RdV.shape hri
            rw [e0, e1, e2, e3] at hI
            rw [e0] at f0
            rw [e1] at f1
            rw [e2] at f2
            rw [e3] at f3
            clear e0 e1 e2 e3 hri hc0 hc1 hc2 hc3
            subst hae
            have kb := (Keep.refl wr).alloc (Obj.cells #[.int .u8 (q1 : Nat), .string q2, .slice q3 q4 q5, .slice q6 q7 q8] 27)
            by_cases hit : D + dp (is.getD i j0) ≤ 256
            · rw [if_pos hit] at hI
              have HIT : Hid (D + dp (is.getD i j0) ≤ 256) := hit
              clear hx hr hlt ih hit
              go_wp2_with (go_at_call 33; refine (hI _ (kk.trans kb)).mono ?_; clear hI; rintro e w4 ⟨rfl, k4⟩)
              go_roundg (m - (i + 1))
              case measure => omega
              case rel =>
                refine ⟨i + 1, by omega, rfl, by go_num, ?_, (kq.trans kb).trans k4⟩
                intro p hp
                by_cases hpj : p = i
                · subst hpj; exact HIT.out
                · exact hq.out p (by omega)
            · rw [if_neg hit] at hI
              have HE : Hid (¬ D + mx is ≤ 256) := by
                intro h
                have h2 := (mx_le is (256 - D)).1 (by omega) i hil2
                exact hit (by omega)
              clear hx hr hlt ih hit
              go_wp2_with (go_at_call 33; refine (hI _ (kk.trans kb)).mono ?_; clear hI; rintro e w4 ⟨rfl, k4⟩)
              refine ⟨rfl, ?_, (kk.trans kb).trans k4⟩
              first | rfl | rw [if_neg HE.out]
          · have HE : Hid (D + mx is ≤ 256) := by
              show D + mx is ≤ 256
              have h2 := (mx_le is (256 - D)).2 (fun p hp => by
                have := hq.out p (by rw [HM.out] at hp; omega)
                omega)
              omega
            clear hx hr hlt ih
            go_wp2_with fail
            go_end0
            refine ⟨?_, kk⟩
            first | rfl | rw [if_pos HE.out]


    · have HE : Hid (¬ D + mx is ≤ 256) := by show ¬ _; omega
      have hgd : decide ((256 : Int) < (D : Int)) = true := decide_eq_true (by omega)
      have hg2 : ((D : Int) > 256) := by omega
      rw [if_neg HE.out]
      clear hx hr hlt ih hD2
      rcases hb67 with ⟨ho, hk67⟩ | ⟨ho, hb6, hb7⟩
      · subst ho
        have hw1 : IntKind.i64.wrap ((d : Int) + 1) = (D : Int) := by rw [IntWalk.i64_left]; rw [show (d : Int) + 1 = (D : Int) by omega]; exact IntWalk.wrap64_in _ (by omega)
        have hw2 : wrap64 ((d : Int) + 1) = (D : Int) := by rw [show (d : Int) + 1 = (D : Int) by omega]; exact IntWalk.wrap64_in _ (by omega)
        replace hDe : Hid (d + 1 = D) := hDe
        rcases hk67 with rfl | rfl
        · go_enter Tryd.func33, Tryd.ntmps33
          go_wp2_with fail
          exact ⟨rfl, rfl, (Keep.refl w).alloc _⟩

        · have hb6 : (((7 : Nat) : Int) == 6) = false := by decide
          go_enter Tryd.func33, Tryd.ntmps33
          go_wp2_with fail
          exact ⟨rfl, rfl, (Keep.refl w).alloc _⟩

      · subst ho
        have hDe2 : D = d := by omega
        clear hDe
        subst hDe2
        exfalso; omega


set_option maxRecDepth 100000 in
set_option maxHeartbeats 4000000 in
theorem checkFields_in (hI : IxC) : ∀ (n : Nat) (j : J) (v : Value) (w : World), SizeOf.sizeOf j ≤ n → RdV w v j → FT j → UT w →
    Calls Tryd.prog 34 #[v] w fun e w' => e = (if allJ plain j = true then .returned (.tuple #[]) else .panicked [PE 100 0]) ∧ Keep w w' := by
  intro n
  induction n with
  | zero => intro j v w hs; cases j; simp at hs
  | succ n ih =>
    intro j v w hs hv hft hT
    cases hv with
    | mk k t ns is an cn ai ci X hk hn ln li hx hr =>
    have hlt : ∀ i, i < is.length → SizeOf.sizeOf (is.getD i j0) ≤ n := fun i hi => by
      have := J.is_lt (a := .mk k t ns is) (i := i) hi
      simp only [J.is] at this
      omega
    have hfi : ∀ i, i < is.length → FT (is.getD i j0) := fun i hi => FT.item hft hi
    have hfh := hft.here
    have hA : allJ plain (.mk k t ns is) = (plain (.mk k t ns is) && is.all (allJ plain)) := allJ_eq _ _
    rw [hA]
    have hC : ∀ wx, Keep w wx → _ := fun wx kx => isPlain_any hI k t ns is an cn ai ci wx (hT.keep kx) (hn.keep kx) ln hk hfh
    have ka := (Keep.refl w).alloc (Obj.cells #[.int .u8 (k : Nat), .string t, .slice an ns.length cn, .slice ai is.length ci] 27)
    have hb := heap_alloc_new w (Obj.cells #[.int .u8 (k : Nat), .string t, .slice an ns.length cn, .slice ai is.length ci] 27)
    have hC1 := hC _ ka
    clear hC hA
    obtain ⟨m, hm⟩ : ∃ m, is.length = m := ⟨_, rfl⟩
    have HM : Hid (is.length = m) := hm
    rw [hm] at li hC1 ka hb
    rw [hm]
    clear hm
    cases hp : plain (.mk k t ns is) with
    | false =>
      rw [hp] at hC1
      clear hx hr hlt ih hfi hp
      go_enter Tryd.func34, Tryd.ntmps34
      go_wp2_with (go_at_call 57; refine hC1.mono ?_; clear hC1; rintro e w2 ⟨rfl, k2⟩)
      exact ⟨rfl, by simp [PE], ka.trans k2⟩
    | true =>
      rw [hp] at hC1
      clear hp
      rw [Bool.true_and]
      go_enter Tryd.func34, Tryd.ntmps34
      go_wp2_with (go_at_call 57; refine hC1.mono ?_; clear hC1; rintro e w2 ⟨rfl, k2⟩; have k02 := ka.trans k2; have a3 := k2.cell (cell_of_row _ _ 3 _ 27 (0, 0) hb))
      go_loopg [12] m (fun gg s wx => ∃ i : Nat, i ≤ m ∧ gg = m - i ∧ s = .int .i64 i ∧ Hid (∀ p, p < i → allJ plain (is.getD p j0) = true) ∧ Keep w wx)
      case atStart => exact ⟨0, by omega, by omega, rfl, fun p hp => by omega, k02⟩
      case round =>
        obtain ⟨i, hi, rfl, rfl, hq, kq⟩ := hrel
        have kk := kq
        by_cases hil : i < m
        · have hil2 : i < is.length := by rw [HM.out]; exact hil
          obtain ⟨bb, oo, hae, hc0, hc1, hc2, hc3⟩ := hx i hil2
          have f0 := Keep.cell kk hc0
          have f1 := Keep.cell kk hc1
          have f2 := Keep.cell kk hc2
          have f3 := Keep.cell kk hc3
          have hri := hr i hil2
          have hI := fun wx (kx : Keep w wx) => ih (is.getD i j0) _  wx (hlt i hil2) (hri.keep kx) (hfi i hil2) (hT.keep kx)
          obtain ⟨q1, q2, q3, q4, q5, q6, q7, q8, e0, e1, e2, e3⟩ := RdV.shape hri
          rw [e0, e1, e2, e3] at hI
          rw [e0] at f0
          rw [e1] at f1
          rw [e2] at f2
          rw [e3] at f3
          clear e0 e1 e2 e3 hri hc0 hc1 hc2 hc3
          subst hae
          have kb := (Keep.refl wr).alloc (Obj.cells #[.int .u8 (q1 : Nat), .string q2, .slice q3 q4 q5, .slice q6 q7 q8] 27)
          by_cases hit : allJ plain (is.getD i j0) = true
          · rw [if_pos hit] at hI
            have HIT : Hid (allJ plain (is.getD i j0) = true) := hit
            clear hx hr hlt ih hit hfi
            go_wp2_with (go_at_call 34; refine (hI _ (kk.trans kb)).mono ?_; clear hI; rintro e w4 ⟨rfl, k4⟩)
            go_roundg (m - (i + 1))
            case measure => omega
            case rel =>
              refine ⟨i + 1, by omega, rfl, by go_num, ?_, (kq.trans kb).trans k4⟩
              intro p hp
              by_cases hpj : p = i
              · subst hpj; exact HIT.out
              · exact hq.out p (by omega)
          · rw [if_neg hit] at hI
            have HE : Hid (¬ is.all (allJ plain) = true) := by
              intro h
              rw [List.all_eq_true] at h
              exact hit (h _ (by simp [List.getD, hil2]))
            clear hx hr hlt ih hit hfi
            go_wp2_with (go_at_call 34; refine (hI _ (kk.trans kb)).mono ?_; clear hI; rintro e w4 ⟨rfl, k4⟩)
            refine ⟨rfl, ?_, (kk.trans kb).trans k4⟩
            first | rfl | rw [if_neg HE.out]
        · have HE : Hid (is.all (allJ plain) = true) := by
            show is.all (allJ plain) = true
            exact all_upto (fun p hp => hq.out p (by rw [HM.out] at hp; omega))
          clear hx hr hlt ih hfi
          go_wp2_with fail
          go_end0
          refine ⟨?_, kk⟩
          first | rfl | rw [if_pos HE.out]

/-- Whether no name stands twice. -/
def noTw (j : J) : Bool := !(twn j.ns)
set_option maxRecDepth 100000 in
set_option maxHeartbeats 4000000 in
theorem checkNames_in : ∀ (n : Nat) (j : J) (v : Value) (w : World), SizeOf.sizeOf j ≤ n → RdV w v j → FT j → 
    Calls Tryd.prog 35 #[v] w fun e w' => e = (if allJ noTw j = true then .returned (.tuple #[]) else .panicked [PE 102 0]) ∧ Keep w w' := by
  intro n
  induction n with
  | zero => intro j v w hs; cases j; simp at hs
  | succ n ih =>
    intro j v w hs hv hft 
    cases hv with
    | mk k t ns is an cn ai ci X hk hn ln li hx hr =>
    have hlt : ∀ i, i < is.length → SizeOf.sizeOf (is.getD i j0) ≤ n := fun i hi => by
      have := J.is_lt (a := .mk k t ns is) (i := i) hi
      simp only [J.is] at this
      omega
    have hfi : ∀ i, i < is.length → FT (is.getD i j0) := fun i hi => FT.item hft hi
    have hfh := hft.here
    have hA : allJ noTw (.mk k t ns is) = (noTw (.mk k t ns is) && is.all (allJ noTw)) := allJ_eq _ _
    rw [hA]
    have hC : ∀ wx, Keep w wx → _ := fun wx kx => hasTwins_any ns an cn wx (hn.keep kx) ln hfh.2
    have ka := (Keep.refl w).alloc (Obj.cells #[.int .u8 (k : Nat), .string t, .slice an ns.length cn, .slice ai is.length ci] 27)
    have hb := heap_alloc_new w (Obj.cells #[.int .u8 (k : Nat), .string t, .slice an ns.length cn, .slice ai is.length ci] 27)
    have hC1 := hC _ ka
    clear hC hA
    obtain ⟨m, hm⟩ : ∃ m, is.length = m := ⟨_, rfl⟩
    have HM : Hid (is.length = m) := hm
    rw [hm] at li hC1 ka hb
    rw [hm]
    clear hm
    cases hp : noTw (.mk k t ns is) with
    | false =>
      have hp2 : twn ns = true := by unfold noTw at hp; simpa [J.ns] using hp
      rw [hp2] at hC1
      clear hx hr hlt ih hfi hp
      go_enter Tryd.func35, Tryd.ntmps35
      go_wp2_with (go_at_call 58; refine hC1.mono ?_; clear hC1; rintro e w2 ⟨rfl, k2⟩)
      exact ⟨rfl, by simp [PE], ka.trans k2⟩
    | true =>
      have hp2 : twn ns = false := by unfold noTw at hp; simpa [J.ns] using hp
      rw [hp2] at hC1
      clear hp
      rw [Bool.true_and]
      go_enter Tryd.func35, Tryd.ntmps35
      go_wp2_with (go_at_call 58; refine hC1.mono ?_; clear hC1; rintro e w2 ⟨rfl, k2⟩; have k02 := ka.trans k2; have a3 := k2.cell (cell_of_row _ _ 3 _ 27 (0, 0) hb))
      go_loopg [12] m (fun gg s wx => ∃ i : Nat, i ≤ m ∧ gg = m - i ∧ s = .int .i64 i ∧ Hid (∀ p, p < i → allJ noTw (is.getD p j0) = true) ∧ Keep w wx)
      case atStart => exact ⟨0, by omega, by omega, rfl, fun p hp => by omega, k02⟩
      case round =>
        obtain ⟨i, hi, rfl, rfl, hq, kq⟩ := hrel
        have kk := kq
        by_cases hil : i < m
        · have hil2 : i < is.length := by rw [HM.out]; exact hil
          obtain ⟨bb, oo, hae, hc0, hc1, hc2, hc3⟩ := hx i hil2
          have f0 := Keep.cell kk hc0
          have f1 := Keep.cell kk hc1
          have f2 := Keep.cell kk hc2
          have f3 := Keep.cell kk hc3
          have hri := hr i hil2
          have hI := fun wx (kx : Keep w wx) => ih (is.getD i j0) _  wx (hlt i hil2) (hri.keep kx) (hfi i hil2) 
          obtain ⟨q1, q2, q3, q4, q5, q6, q7, q8, e0, e1, e2, e3⟩ := RdV.shape hri
          rw [e0, e1, e2, e3] at hI
          rw [e0] at f0
          rw [e1] at f1
          rw [e2] at f2
          rw [e3] at f3
          clear e0 e1 e2 e3 hri hc0 hc1 hc2 hc3
          subst hae
          have kb := (Keep.refl wr).alloc (Obj.cells #[.int .u8 (q1 : Nat), .string q2, .slice q3 q4 q5, .slice q6 q7 q8] 27)
          by_cases hit : allJ noTw (is.getD i j0) = true
          · rw [if_pos hit] at hI
            have HIT : Hid (allJ noTw (is.getD i j0) = true) := hit
            clear hx hr hlt ih hit hfi
            go_wp2_with (go_at_call 35; refine (hI _ (kk.trans kb)).mono ?_; clear hI; rintro e w4 ⟨rfl, k4⟩)
            go_roundg (m - (i + 1))
            case measure => omega
            case rel =>
              refine ⟨i + 1, by omega, rfl, by go_num, ?_, (kq.trans kb).trans k4⟩
              intro p hp
              by_cases hpj : p = i
              · subst hpj; exact HIT.out
              · exact hq.out p (by omega)
          · rw [if_neg hit] at hI
            have HE : Hid (¬ is.all (allJ noTw) = true) := by
              intro h
              rw [List.all_eq_true] at h
              exact hit (h _ (by simp [List.getD, hil2]))
            clear hx hr hlt ih hit hfi
            go_wp2_with (go_at_call 35; refine (hI _ (kk.trans kb)).mono ?_; clear hI; rintro e w4 ⟨rfl, k4⟩)
            refine ⟨rfl, ?_, (kk.trans kb).trans k4⟩
            first | rfl | rw [if_neg HE.out]
        · have HE : Hid (is.all (allJ noTw) = true) := by
            show is.all (allJ noTw) = true
            exact all_upto (fun p hp => hq.out p (by rw [HM.out] at hp; omega))
          clear hx hr hlt ih hfi
          go_wp2_with fail
          go_end0
          refine ⟨?_, kk⟩
          first | rfl | rw [if_pos HE.out]

end Go.Proofs.YteonapeoeckhfaaDoor
