import Derived.Test.YtaogjiffnebnkaaProg
import Derived.Test.YtaogjiffnebnkaaP4
import Derived.Test.YtaogjiffnebnkaaRI
import Derived.Test.YtaogjiffnebnkaaTS8
import Derived.Test.YtaogjiffnebnkaaTS6
import Derived.WalkKit
import Derived.WalkSpells
import Derived.WalkLawsBesides
import Derived.Deep.Draws
import Derived.Deep.QuietTactic
import Derived.BigQuiet
import Derived.Laws.Externs
import Derived.Laws.CopyOwn
import Derived.RangeFuncBox
import Derived.RangeFuncLeaves
import Derived.RangeFuncCalls
import Derived.RangeFuncRecord
import Derived.Below
import Derived.Shelf.Abstract
import Derived.OwnWalkIn
import Derived.TacticsInMore
import Derived.LoopNIn
import Derived.LoopIn
import Derived.Sort.LoopGhostIn
import Derived.Deep.RegionLaw
import Derived.Deep.RegionWith
import Derived.Deep.RegionHeld3
import Derived.Stop.RegionWithIn
import Derived.RegionTactic
import Derived.Orders
import Derived.OrdersIn
import Derived.RegionIn
import Derived.Laws.StructEq
set_option linter.unusedVariables false
set_option linter.unusedSimpArgs false
namespace Go.Proofs.Ytaogjiffnebnkaa
open Go.RowKit Go.Shelf
/-- Two ensembles are one. -/
def EnsEq (nm1 : ByteArray) (fs1 : List ByteArray) (N1 : Int) (bs1 : List Int) (ts1 : List (Int × List Nd)) (nm2 : ByteArray) (fs2 : List ByteArray) (N2 : Int) (bs2 : List Int) (ts2 : List (Int × List Nd)) : Prop := nm1 = nm2 ∧ fs1 = fs2 ∧ N1 = N2 ∧ bs1 = bs2 ∧ ts1 = ts2
theorem ba_ne {x y : ByteArray} (h : x ≠ y) : (x.toList == y.toList) = false := by
  rw [beq_eq_false_iff_ne]
  intro e
  rw [ByteArray.toList_eq, ByteArray.toList_eq] at e
  exact h (ByteArray.ext (Array.toList_inj.mp e))
theorem str_ext {l m : List ByteArray} (hl : l.length = m.length) (h : ∀ j, j < l.length → l.getD j ByteArray.empty = m.getD j ByteArray.empty) : l = m := by
  refine List.ext_getElem hl fun j h1 h2 => ?_
  have := h j h1
  simpa [List.getD, h1, h2] using this
theorem tr_ext {l m : List (Int × List Nd)} (hl : l.length = m.length) (h : ∀ j, j < l.length → l.getD j (0, []) = m.getD j (0, [])) : l = m := by
  refine List.ext_getElem hl fun j h1 h2 => ?_
  have := h j h1
  simpa [List.getD, h1, h2] using this
theorem mk7 {a0 a1 a2 a3 a4 a5 a6 : Prop} (h0 : a0) (h1 : a1) (h2 : a2) (h3 : a3) (h4 : a4) (h5 : a5) (h6 : a6) : a0 ∧ a1 ∧ a2 ∧ a3 ∧ a4 ∧ a5 ∧ a6 := ⟨h0, h1, h2, h3, h4, h5, h6⟩
set_option maxRecDepth 100000 in
set_option maxHeartbeats 4000000 in
theorem rSame_any (nm1 : ByteArray) (fa1 : Option Addr) (fs1 : List ByteArray) (cf1 : Nat) (N1 : Int) (ba1 : Option Addr) (bs1 : List Int) (cb1 : Nat) (ta1 : Option Addr) (ts1 : List (Int × List Nd)) (ct1 : Nat) (nm2 : ByteArray) (fa2 : Option Addr) (fs2 : List ByteArray) (cf2 : Nat) (N2 : Int) (ba2 : Option Addr) (bs2 : List Int) (cb2 : Nat) (ta2 : Option Addr) (ts2 : List (Int × List Nd)) (ct2 : Nat) (w : World)
    (hf1 : RdS w fa1 fs1) (hfl : fs1.length ≤ 8796093022208) (hb1 : RdI w ba1 bs1) (hbl : bs1.length ≤ 17592186044416) (ht1 : RdT w ta1 ts1) (htl : ts1.length ≤ 4398046511104)
    (hf2 : RdS w fa2 fs2) (hb2 : RdI w ba2 bs2) (ht2 : RdT w ta2 ts2) :
    Calls Try.prog 38 #[ens nm1 fa1 fs1.length cf1 N1 ba1 bs1.length cb1 ta1 ts1.length ct1, ens nm2 fa2 fs2.length cf2 N2 ba2 bs2.length cb2 ta2 ts2.length ct2] w fun e w' => e = .returned (.bool (@decide (EnsEq nm1 fs1 N1 bs1 ts1 nm2 fs2 N2 bs2 ts2) (Classical.propDecidable _))) ∧ Keep w w' := by
  unfold ens
  obtain ⟨w1, hw1, k1, s1, r0, r1⟩ := boxes2n w #[Value.string nm1, Value.slice fa1 fs1.length cf1, Value.int .i64 N1, Value.slice ba1 bs1.length cb1, Value.slice ta1 ts1.length ct1] #[Value.string nm2, Value.slice fa2 fs2.length cf2, Value.int .i64 N2, Value.slice ba2 bs2.length cb2, Value.slice ta2 ts2.length ct2] 71 71
  replace hw1 : Hid _ := hw1
  have d00 := cell_of_row _ _ 0 _ 71 (0, 0) r0
  have d01 := cell_of_row _ _ 1 _ 71 (0, 0) r0
  have d02 := cell_of_row _ _ 2 _ 71 (0, 0) r0
  have d03 := cell_of_row _ _ 3 _ 71 (0, 0) r0
  have d04 := cell_of_row _ _ 4 _ 71 (0, 0) r0
  have d10 := cell_of_row _ _ 0 _ 71 (0, 0) r1
  have d11 := cell_of_row _ _ 1 _ 71 (0, 0) r1
  have d12 := cell_of_row _ _ 2 _ 71 (0, 0) r1
  have d13 := cell_of_row _ _ 3 _ 71 (0, 0) r1
  have d14 := cell_of_row _ _ 4 _ 71 (0, 0) r1
  simp at d00 d01 d02 d03 d04 d10 d11 d12 d13 d14
  replace r0 : Hid _ := r0
  replace r1 : Hid _ := r1
  by_cases hn : nm1 = nm2
  · by_cases hN : N1 = N2
    · by_cases hF : fs1.length = fs2.length
      · by_cases hB : bs1.length = bs2.length
        · by_cases hT : ts1.length = ts2.length
          · subst hn
            subst hN
            rw [← hF] at d11 hw1 r1
            rw [← hB] at d13 hw1 r1
            rw [← hT] at d14 hw1 r1
            replace hw1 : Hid _ := hw1
            go_enter Try.func38, Try.ntmps38
            rw [← hF, ← hB, ← hT]
            replace hF : Hid _ := hF
            replace hB : Hid _ := hB
            replace hT : Hid _ := hT
            have kf1 := hf1.keep k1
            have kf2 := hf2.keep k1
            have kb1 := hb1.keep k1
            have kb2 := hb2.keep k1
            have kt1 := ht1.keep k1
            have kt2 := ht2.keep k1
            clear hf1 hf2 hb1 hb2 ht1 ht2
            go_wp2_with fail
            rw [hw1.out]
            go_loopw [50] (fun iv wr => ∃ k : Nat, k ≤ fs1.length ∧ iv = .int .i64 k ∧ Keep w1 wr ∧ Hid (∀ j, j < k → fs1.getD j ByteArray.empty = fs2.getD j ByteArray.empty)) (fun iv _ => fs1.length - (intOf iv).toNat)
            case atStart => exact ⟨0, by omega, rfl, Keep.refl _, by intro j hj; omega⟩
            case round =>
              obtain ⟨k, hk, rfl, kw, hinv⟩ := hrel
              have kv := kw
              have e0 := kv.cell d01
              have e1 := kv.cell d11
              by_cases hkl : k < fs1.length
              · have hkc : (k : Int) < (fs1.length : Int) := by omega
                have hkl2 : k < fs2.length := by have := hF.out; omega
                obtain ⟨b1, o1, rfl, c1⟩ := (kf1.keep kv) k hkl
                obtain ⟨b2, o2, rfl, c2⟩ := (kf2.keep kv) k hkl2
                obtain ⟨x, hx⟩ : ∃ x, fs1.getD k ByteArray.empty = x := ⟨_, rfl⟩
                obtain ⟨y, hy⟩ : ∃ y, fs2.getD k ByteArray.empty = y := ⟨_, rfl⟩
                rw [hx] at c1
                rw [hy] at c2
                have HX : Hid (fs1.getD k ByteArray.empty = x ∧ fs2.getD k ByteArray.empty = y) := ⟨hx, hy⟩
                clear hx hy
                by_cases hxy : x = y
                · subst hxy
                  have HN : Hid (∀ j, j < k + 1 → fs1.getD j ByteArray.empty = fs2.getD j ByteArray.empty) := by
                    intro j hj
                    by_cases e : j = k
                    · subst e; rw [HX.out.1, HX.out.2]
                    · exact hinv.out j (by omega)
                  go_wp2_with fail
                  go_quiet (fail)
                  all_goals
                    go_simp
                    go_wp2_with fail
                    refine ⟨⟨k + 1, by omega, by go_num, kw.drewN _, HN⟩, by simp [intOf]; omega⟩
                · have q1 : (x.toList == y.toList) = false := ba_ne hxy
                  have HF : Hid (@decide (EnsEq nm1 fs1 N1 bs1 ts1 nm1 fs2 N1 bs2 ts2) (Classical.propDecidable _) = false) := by
                    show _ = _
                    rw [decide_eq_false_iff_not]
                    intro e
                    have hh := HX.out
                    rw [e.2.1] at hh
                    exact hxy (hh.1.symm.trans hh.2)
                  clear hxy
                  go_wp2_with fail
                  go_quiet (fail)
                  all_goals
                    go_simp
                    go_wp2_with fail
                    go_ret
                    exact ⟨ret_bool HF.out.symm, k1.trans (kv.drewN _)⟩
              · have hkc : ¬ (k : Int) < (fs1.length : Int) := by omega
                have HE1 : Hid (fs1 = fs2) := str_ext hF.out (fun j hj => hinv.out j (by omega))
                have e03 := kv.cell d03
                have e13 := kv.cell d13
                go_wp2_with fail
                have ka := kv
                clear e0 e1 hinv hkc hkl hk kw kv
                go_loopw [68] (fun iv wr => ∃ k : Nat, k ≤ bs1.length ∧ iv = .int .i64 k ∧ Keep w1 wr ∧ Hid (∀ j, j < k → bs1.getD j 0 = bs2.getD j 0)) (fun iv _ => bs1.length - (intOf iv).toNat)
                case atStart => exact ⟨0, by omega, rfl, ka, by intro j hj; omega⟩
                case round =>
                  obtain ⟨k, hk, rfl, kw, hinv⟩ := hrel
                  have kv := kw
                  have e0 := kv.cell d03
                  have e1 := kv.cell d13
                  by_cases hkl : k < bs1.length
                  · have hkc : (k : Int) < (bs1.length : Int) := by omega
                    have hkl2 : k < bs2.length := by have := hB.out; omega
                    obtain ⟨b1, o1, rfl, c1⟩ := (kb1.keep kv) k hkl
                    obtain ⟨b2, o2, rfl, c2⟩ := (kb2.keep kv) k hkl2
                    obtain ⟨x, hx⟩ : ∃ x, bs1.getD k 0 = x := ⟨_, rfl⟩
                    obtain ⟨y, hy⟩ : ∃ y, bs2.getD k 0 = y := ⟨_, rfl⟩
                    rw [hx] at c1
                    rw [hy] at c2
                    have HX : Hid (bs1.getD k 0 = x ∧ bs2.getD k 0 = y) := ⟨hx, hy⟩
                    clear hx hy
                    by_cases hxy : x = y
                    · subst hxy
                      have HN : Hid (∀ j, j < k + 1 → bs1.getD j 0 = bs2.getD j 0) := by
                        intro j hj
                        by_cases e : j = k
                        · subst e; rw [HX.out.1, HX.out.2]
                        · exact hinv.out j (by omega)
                      go_wp2_with fail
                      go_quiet (fail)
                      all_goals
                        go_simp
                        go_wp2_with fail
                        refine ⟨⟨k + 1, by omega, by go_num, kw.drewN _, HN⟩, by simp [intOf]; omega⟩
                    · have q1 : (x == y) = false := by rw [beq_eq_false_iff_ne]; exact hxy
                      have q2 : (x != y) = true := by rw [bne_iff_ne]; exact hxy
                      have HF : Hid (@decide (EnsEq nm1 fs1 N1 bs1 ts1 nm1 fs2 N1 bs2 ts2) (Classical.propDecidable _) = false) := by
                        show _ = _
                        rw [decide_eq_false_iff_not]
                        intro e
                        have hh := HX.out
                        rw [e.2.2.2.1] at hh
                        exact hxy (hh.1.symm.trans hh.2)
                      clear hxy
                      go_wp2_with fail
                      go_quiet (fail)
                      all_goals
                        go_simp
                        go_wp2_with fail
                        go_ret
                        exact ⟨ret_bool HF.out.symm, k1.trans (kv.drewN _)⟩
                  · have hkc : ¬ (k : Int) < (bs1.length : Int) := by omega
                    have HE2 : Hid (bs1 = bs2) := int_ext hB.out (fun j hj => hinv.out j (by omega))
                    have e04 := kv.cell d04
                    have e14 := kv.cell d14
                    go_wp2_with fail
                    have ka := kv
                    clear e0 e1 hinv hkc hkl hk kw kv
                    go_loopw [86] (fun iv wr => ∃ k : Nat, k ≤ ts1.length ∧ iv = .int .i64 k ∧ Keep w1 wr ∧ Hid (∀ j, j < k → ts1.getD j (0, []) = ts2.getD j (0, []))) (fun iv _ => ts1.length - (intOf iv).toNat)
                    case atStart => exact ⟨0, by omega, rfl, ka, by intro j hj; omega⟩
                    case round =>
                      obtain ⟨k, hk, rfl, kw, hinv⟩ := hrel
                      have kv := kw
                      have e0 := kv.cell d04
                      have e1 := kv.cell d14
                      by_cases hkl : k < ts1.length
                      · have hkc : (k : Int) < (ts1.length : Int) := by omega
                        have hkl2 : k < ts2.length := by have := hT.out; omega
                        obtain ⟨b1, o1, na1, nc1, rfl, c1, c1', n1, l1c, l1l, l1f⟩ := (kt1.keep kv) k hkl
                        obtain ⟨b2, o2, na2, nc2, rfl, c2, c2', n2, l2c, l2l, l2f⟩ := (kt2.keep kv) k hkl2
                        obtain ⟨x, hx⟩ : ∃ x, ts1.getD k (0, []) = x := ⟨_, rfl⟩
                        obtain ⟨y, hy⟩ : ∃ y, ts2.getD k (0, []) = y := ⟨_, rfl⟩
                        rw [hx] at c1 c1' n1 l1c l1l l1f
                        rw [hy] at c2 c2' n2 l2c l2l l2f
                        have HX : Hid (ts1.getD k (0, []) = x ∧ ts2.getD k (0, []) = y) := ⟨hx, hy⟩
                        clear hx hy
                        obtain ⟨ox, Lx⟩ := x
                        obtain ⟨oy, Ly⟩ := y
                        simp only at c1 c1' n1 l1c l1l l1f c2 c2' n2 l2c l2l l2f
                        have hA := fun (wx : World) (kx : Keep wr wx) => rAlike_any na1 na2 nc1 nc2 ox oy Lx Ly wx l1l (n1.keep kx) (n2.keep kx)
                        by_cases hxy : ox = oy ∧ Lx = Ly
                        · have hd : @decide (ox = oy ∧ Lx = Ly) (Classical.propDecidable _) = true := @decide_eq_true _ (Classical.propDecidable _) hxy
                          rw [hd] at hA
                          have HN : Hid (∀ j, j < k + 1 → ts1.getD j (0, []) = ts2.getD j (0, [])) := by
                            intro j hj
                            by_cases e : j = k
                            · subst e; rw [HX.out.1, HX.out.2]; rw [hxy.1, hxy.2]
                            · exact hinv.out j (by omega)
                          clear hxy hd
                          go_wp2_with fail
                          go_region_held3 (fun wx => Keep wr wx ∧ wx.cell? ⟨w.heap.size, 4, none⟩ = some (Value.slice (some ⟨b1, o1, none⟩) ts1.length ct1) ∧ wx.cell? ⟨w.heap.size + 1, 4, none⟩ = some (Value.slice (some ⟨b2, o2, none⟩) ts1.length ct2) ∧ wx.cell? ⟨b1, o1 + k * 2, none⟩ = some (Value.int .i64 ox) ∧ wx.cell? ⟨b1, o1 + k * 2 + 1, none⟩ = some (Value.slice na1 Lx.length nc1) ∧ wx.cell? ⟨b2, o2 + k * 2, none⟩ = some (Value.int .i64 oy) ∧ wx.cell? ⟨b2, o2 + k * 2 + 1, none⟩ = some (Value.slice na2 Ly.length nc2)) (first | exact ⟨(Keep.refl wr).drew, e0, e1, c1, c1', c2, c2'⟩ | exact SK) (first | (go_at_call 62; refine (hA _ (Keep.refl wr).drew).mono ?_; rintro e wA ⟨rfl, kA⟩; have kA0 := (Keep.refl wr).drew.trans kA; have SK := mk7 kA0 (kA0.cell e0) (kA0.cell e1) (kA0.cell c1) (kA0.cell c1') (kA0.cell c2) (kA0.cell c2')))
                          all_goals
                            go_simp
                            go_wp2_with fail
                            refine ⟨⟨k + 1, by omega, by go_num, kw.trans kA0, HN⟩, by simp [intOf]; omega⟩
                        · have hd : @decide (ox = oy ∧ Lx = Ly) (Classical.propDecidable _) = false := @decide_eq_false _ (Classical.propDecidable _) hxy
                          rw [hd] at hA
                          have HF : Hid (@decide (EnsEq nm1 fs1 N1 bs1 ts1 nm1 fs2 N1 bs2 ts2) (Classical.propDecidable _) = false) := by
                            show _ = _
                            rw [decide_eq_false_iff_not]
                            intro e
                            have hh := HX.out
                            rw [e.2.2.2.2] at hh
                            exact hxy (by simpa using hh.1.symm.trans hh.2)
                          clear hxy
                          go_wp2_with fail
                          go_region_held3 (fun wx => Keep wr wx ∧ wx.cell? ⟨w.heap.size, 4, none⟩ = some (Value.slice (some ⟨b1, o1, none⟩) ts1.length ct1) ∧ wx.cell? ⟨w.heap.size + 1, 4, none⟩ = some (Value.slice (some ⟨b2, o2, none⟩) ts1.length ct2) ∧ wx.cell? ⟨b1, o1 + k * 2, none⟩ = some (Value.int .i64 ox) ∧ wx.cell? ⟨b1, o1 + k * 2 + 1, none⟩ = some (Value.slice na1 Lx.length nc1) ∧ wx.cell? ⟨b2, o2 + k * 2, none⟩ = some (Value.int .i64 oy) ∧ wx.cell? ⟨b2, o2 + k * 2 + 1, none⟩ = some (Value.slice na2 Ly.length nc2)) (first | exact ⟨(Keep.refl wr).drew, e0, e1, c1, c1', c2, c2'⟩ | exact SK) (first | (go_at_call 62; refine (hA _ (Keep.refl wr).drew).mono ?_; rintro e wA ⟨rfl, kA⟩; have kA0 := (Keep.refl wr).drew.trans kA; have SK := mk7 kA0 (kA0.cell e0) (kA0.cell e1) (kA0.cell c1) (kA0.cell c1') (kA0.cell c2) (kA0.cell c2')))
                          all_goals
                            go_simp
                            go_wp2_with fail
                            go_ret
                            exact ⟨ret_bool HF.out.symm, k1.trans (kv.trans kA0)⟩
                      · have hkc : ¬ (k : Int) < (ts1.length : Int) := by omega
                        have HE3 : Hid (ts1 = ts2) := tr_ext hT.out (fun j hj => hinv.out j (by omega))
                        have HT : Hid (@decide (EnsEq nm1 fs1 N1 bs1 ts1 nm1 fs2 N1 bs2 ts2) (Classical.propDecidable _) = true) := @decide_eq_true _ (Classical.propDecidable _) ⟨rfl, HE1.out, rfl, HE2.out, HE3.out⟩
                        go_wp2_with fail
                        go_ret
                        exact ⟨ret_bool HT.out.symm, k1.trans kv⟩
          · have q1 : ((ts1.length : Int) == (ts2.length : Int)) = false := by rw [beq_eq_false_iff_ne]; omega
            have q2 : ((ts1.length : Int) != (ts2.length : Int)) = true := by rw [bne_iff_ne]; omega
            have HF : Hid (@decide (EnsEq nm1 fs1 N1 bs1 ts1 nm2 fs2 N2 bs2 ts2) (Classical.propDecidable _) = false) := by
              show _ = _
              rw [decide_eq_false_iff_not]
              intro e; exact hT (congrArg List.length e.2.2.2.2)
            clear hT
            have p_hN : (N1 == N2) = true := by rw [beq_iff_eq]; exact hN
            have z_hN : (N1 != N2) = false := by rw [bne_eq_false_iff_eq]; exact hN
            have p_hF : ((fs1.length : Int) == (fs2.length : Int)) = true := by rw [beq_iff_eq]; omega
            have z_hF : ((fs1.length : Int) != (fs2.length : Int)) = false := by rw [bne_eq_false_iff_eq]; omega
            have p_hB : ((bs1.length : Int) == (bs2.length : Int)) = true := by rw [beq_iff_eq]; omega
            have z_hB : ((bs1.length : Int) != (bs2.length : Int)) = false := by rw [bne_eq_false_iff_eq]; omega
            go_enter Try.func38, Try.ntmps38
            go_wp2_with fail
            go_ret
            exact ⟨ret_bool HF.out.symm, ((Keep.refl w).alloc _).alloc _⟩
        · have q1 : ((bs1.length : Int) == (bs2.length : Int)) = false := by rw [beq_eq_false_iff_ne]; omega
          have q2 : ((bs1.length : Int) != (bs2.length : Int)) = true := by rw [bne_iff_ne]; omega
          have HF : Hid (@decide (EnsEq nm1 fs1 N1 bs1 ts1 nm2 fs2 N2 bs2 ts2) (Classical.propDecidable _) = false) := by
            show _ = _
            rw [decide_eq_false_iff_not]
            intro e; exact hB (congrArg List.length e.2.2.2.1)
          clear hB
          have p_hN : (N1 == N2) = true := by rw [beq_iff_eq]; exact hN
          have z_hN : (N1 != N2) = false := by rw [bne_eq_false_iff_eq]; exact hN
          have p_hF : ((fs1.length : Int) == (fs2.length : Int)) = true := by rw [beq_iff_eq]; omega
          have z_hF : ((fs1.length : Int) != (fs2.length : Int)) = false := by rw [bne_eq_false_iff_eq]; omega
          go_enter Try.func38, Try.ntmps38
          go_wp2_with fail
          go_ret
          exact ⟨ret_bool HF.out.symm, ((Keep.refl w).alloc _).alloc _⟩
      · have q1 : ((fs1.length : Int) == (fs2.length : Int)) = false := by rw [beq_eq_false_iff_ne]; omega
        have q2 : ((fs1.length : Int) != (fs2.length : Int)) = true := by rw [bne_iff_ne]; omega
        have HF : Hid (@decide (EnsEq nm1 fs1 N1 bs1 ts1 nm2 fs2 N2 bs2 ts2) (Classical.propDecidable _) = false) := by
          show _ = _
          rw [decide_eq_false_iff_not]
          intro e; exact hF (congrArg List.length e.2.1)
        clear hF
        have p_hN : (N1 == N2) = true := by rw [beq_iff_eq]; exact hN
        have z_hN : (N1 != N2) = false := by rw [bne_eq_false_iff_eq]; exact hN
        go_enter Try.func38, Try.ntmps38
        go_wp2_with fail
        go_ret
        exact ⟨ret_bool HF.out.symm, ((Keep.refl w).alloc _).alloc _⟩
    · have q1 : (N1 == N2) = false := by rw [beq_eq_false_iff_ne]; exact hN
      have q2 : (N1 != N2) = true := by rw [bne_iff_ne]; exact hN
      have HF : Hid (@decide (EnsEq nm1 fs1 N1 bs1 ts1 nm2 fs2 N2 bs2 ts2) (Classical.propDecidable _) = false) := by
        show _ = _
        rw [decide_eq_false_iff_not]
        intro e; exact hN (e.2.2.1)
      clear hN
      go_enter Try.func38, Try.ntmps38
      go_wp2_with fail
      go_ret
      exact ⟨ret_bool HF.out.symm, ((Keep.refl w).alloc _).alloc _⟩
  · have q1 : (nm1.toList == nm2.toList) = false := ba_ne hn
    have HF : Hid (@decide (EnsEq nm1 fs1 N1 bs1 ts1 nm2 fs2 N2 bs2 ts2) (Classical.propDecidable _) = false) := by
      show _ = _
      rw [decide_eq_false_iff_not]
      intro e; exact hn e.1
    clear hn
    go_enter Try.func38, Try.ntmps38
    go_wp2_with fail
    go_ret
    exact ⟨ret_bool HF.out.symm, ((Keep.refl w).alloc _).alloc _⟩
end Go.Proofs.Ytaogjiffnebnkaa
