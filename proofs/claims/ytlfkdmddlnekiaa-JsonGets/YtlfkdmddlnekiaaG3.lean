import Derived.Test.YtlfkdmddlnekiaaG2
set_option linter.unusedVariables false
set_option linter.unusedSimpArgs false
namespace Go.Proofs.Ytlfkdmddlnekiaa
open Go.RowKit
theorem eqS_true {a b : List ByteArray} (h : a = b) : eqD a b (Classical.propDecidable _) = true := by unfold eqD; simp [h]
theorem eqS_false {a b : List ByteArray} (h : a ≠ b) : eqD a b (Classical.propDecidable _) = false := by unfold eqD; simp [h]
set_option maxRecDepth 100000 in
set_option maxHeartbeats 400000 in
theorem equalS_any (an an2 : Option Addr) (cn cn2 : Nat) (ns ns2 : List ByteArray) (w : World) (ln : ns.length ≤ 140737488355328) (ln2 : ns2.length ≤ 140737488355328) (hn : RdS w an ns) (hn2 : RdS w an2 ns2) :
    Calls Try.prog 11 #[.slice an ns.length cn, .slice an2 ns2.length cn2] w fun e w' => e = .returned (.bool (eqD ns ns2 (Classical.propDecidable _))) ∧ Keep w w' := by
  by_cases e3 : ns.length = ns2.length
  · have c3 : ((ns.length : Int) != (ns2.length : Int)) = false := by rw [bne_eq_false_iff_eq]; omega
    replace e3 : Hid _ := e3
    go_enter Try.func11, Try.ntmps11
    go_wp2_with fail
    go_loopw [13] (fun i wr => ∃ j : Nat, j ≤ ns.length ∧ i = .int .i64 j ∧ Hid (∀ p, p < j → ns.getD p ByteArray.empty = ns2.getD p ByteArray.empty) ∧ Keep w wr) (fun i _ => ns.length - (intOf i).toNat)
    case atStart => exact ⟨0, by omega, rfl, fun p hp => by omega, Keep.refl _⟩
    case round =>
      obtain ⟨j, hj, rfl, hq, kr⟩ := hrel
      by_cases hjl : j < ns.length
      · have hj2 : j < ns2.length := by have := e3.out; omega
        obtain ⟨bb, oo, hae, hc⟩ := (hn.keep kr) j hjl
        obtain ⟨bb2, oo2, hae2, hc2⟩ := (hn2.keep kr) j hj2
        subst hae hae2
        obtain ⟨s, hs1⟩ : ∃ s, ns.getD j ByteArray.empty = s := ⟨_, rfl⟩
        obtain ⟨s2, hs2⟩ : ∃ s2, ns2.getD j ByteArray.empty = s2 := ⟨_, rfl⟩
        rw [hs1] at hc
        rw [hs2] at hc2
        replace hs1 : Hid _ := hs1
        replace hs2 : Hid _ := hs2
        by_cases hss : s = s2
        · subst hss
          have c5 : (s.toList != s.toList) = false := by rw [bne_eq_false_iff_eq]
          go_wp2
          go_quiet (fail)
          go_wp2
          go_roundw
          case rel =>
            refine ⟨j + 1, by omega, by go_num, ?_, kr.drewN _⟩
            intro p hp
            by_cases hpj : p = j
            · subst hpj; rw [hs1.out, hs2.out]
            · exact hq.out p (by omega)
          case measure => simp [intOf]; omega
        · have c5 := ba_nn hss
          have c6 := ba_ne hss
          have HE : Hid (eqD ns ns2 (Classical.propDecidable _) = false) := eqS_false (by
            intro h
            subst h
            exact hss (hs1.out.symm.trans hs2.out))
          go_wp2
          go_quiet (fail)
          go_wp2
          go_ret
          exact ⟨ret_bool HE.out.symm, kr.drewN _⟩
      · have hns : ns = ns2 := str_ext e3.out (fun p hp => hq.out p (by omega))
        have HE : Hid (eqD ns ns2 (Classical.propDecidable _) = true) := eqS_true hns
        clear hns
        go_wp2_with fail
        go_ret
        exact ⟨ret_bool HE.out.symm, kr⟩
  · have c3 : ((ns.length : Int) != (ns2.length : Int)) = true := by rw [bne_iff_ne]; omega
    have HE : Hid (eqD ns ns2 (Classical.propDecidable _) = false) := eqS_false (by intro h; exact e3 (by rw [h]))
    replace e3 : Hid _ := e3
    go_enter Try.func11, Try.ntmps11
    go_wp2_with fail
    go_ret
    exact ⟨ret_bool HE.out.symm, Keep.refl _⟩
end Go.Proofs.Ytlfkdmddlnekiaa
