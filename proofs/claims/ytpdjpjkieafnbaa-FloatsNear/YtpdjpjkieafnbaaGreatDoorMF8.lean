import Derived.Test.YtpdjpjkieafnbaaGreatDoorProg
import Derived.Test.YtpdjpjkieafnbaaGreatDoorLE7
import Derived.Test.YtpdjpjkieafnbaaGreatDoorLF10
import Derived.Test.YtpdjpjkieafnbaaGreatDoorMF7
import Derived.WalkKit
import Derived.WalkSpells
import Derived.WalkLawsBesides
import Derived.Laws.CopyOwn
import Derived.Deep.Draws
import Derived.Deep.QuietTactic
import Derived.BigQuiet
import Derived.Laws.MathBits
import Derived.Laws.BytesArg
import Derived.Lib.OthersKept
import Derived.Deep.RegionWith
import Derived.WalkMore
import Derived.Deep.LoopGhost
import Derived.Deep.RegionLaw
set_option linter.unusedVariables false
set_option linter.unusedSimpArgs false
namespace Go.Proofs.YtpdjpjkieafnbaaGreatDoor.Li
open Go.RowKit Lb
theorem str_to (cs : List Nat) (q : Nat) (hq : q ≤ cs.length) (wx : World) : (Instr.slice 9 (.string (S8 cs)) none (some (.int .i64 (q : Nat))) none).run Tryz.prog wx = .ok (.string (S8 (cs.take q))) wx := by
  have hsz := S8_size cs
  have h1 : (S8 cs).extract 0 q = S8 (cs.take q) := by
    rw [S8, ByteArray.extract_mk]
    simp [S8, List.map_take]
  simp [Instr.slice, Instr.sliceBounds, Instr.sliceBound, asIntOf, run_underlying Tryz.underlying9, hsz, hq, h1]
theorem str_from (cs : List Nat) (q : Nat) (hq : q ≤ cs.length) (wx : World) : (Instr.slice 9 (.string (S8 cs)) (some (.int .i64 (q : Nat))) none none).run Tryz.prog wx = .ok (.string (S8 (cs.drop q))) wx := by
  have hsz := S8_size cs
  have h1 : (S8 cs).extract q cs.length = S8 (cs.drop q) := by
    rw [S8, ByteArray.extract_mk]
    simp [S8, List.map_drop]
    rw [List.take_of_length_le (by simp)]
  simp [Instr.slice, Instr.sliceBounds, Instr.sliceBound, asIntOf, run_underlying Tryz.underlying9, hsz, hq, h1]
def JoinedSaid (k : Nat) : Prop := ∀ (av : Option Addr) (c : Nat) (cs : List Nat) (w : World), k ≤ c → Pw w av k → (∀ x ∈ cs, 48 ≤ x ∧ x < 58) → cs.length ≤ 1099511627776 →
    Calls Tryz.prog 74 #[.string (S8 cs), .slice av k c] w fun e w' => ∃ v, e = .returned v ∧ NatR w.heap.size w' v (numv cs) ∧ Keep w w'
set_option maxRecDepth 100000 in
set_option maxHeartbeats 1600000 in
theorem joined_step (k : Nat) (hk : k < 32) (ih : JoinedSaid k) : JoinedSaid (k + 1) := by
  intro av c cs w hc hpw hcs hl
  have hsz := S8_size cs
  obtain ⟨g, gx, cx, lx, rfl, hcell, hlx, hrx, hmx, hnx, hvx⟩ := hpw k (by omega)
  have h2k : 2 ^ k ≤ 2147483648 := Nat.le_trans (Nat.pow_le_pow_right (by omega) (show k ≤ 31 by omega)) (by decide)
  obtain ⟨P, hP⟩ : ∃ P, 288 * 2 ^ k = P := ⟨_, rfl⟩
  have hPi : (288 : Int) * 2 ^ k = (P : Int) := by rw [← hP]; simp
  have hPw : IntKind.i64.wrap (288 * 2 ^ k) = (P : Int) := by rw [hPi, IntKind.wrap_i64]; omega
  have HP : Hid (288 * 2 ^ k = P) := hP
  have hPb : P ≤ 618475290624 := by omega
  clear hP h2k
  by_cases hcut : cs.length ≤ P
  · have hd : decide ((cs.length : Int) - (P : Int) ≤ 0) = true := by simp; omega
    have hJ := ih (some ⟨g, 0, none⟩) c cs w (by omega) (hpw.less (by omega)) hcs hl
    go_enter Tryz.func74, Tryz.ntmps74
    go_wp2_with fail
    refine hJ.mono ?_
    rintro e w1 ⟨v, rfl, hn, hk1⟩
    have hn' := hn
    obtain ⟨a1, c1, l1, rfl, -⟩ := hn.shape
    go_wp2_with fail
    go_ret
    exact ⟨_, rfl, hn', hk1⟩
  · have hd : decide ((cs.length : Int) - (P : Int) ≤ 0) = false := by simp; omega
    obtain ⟨q, hq⟩ : ∃ q, q + P = cs.length := ⟨cs.length - P, by omega⟩
    have hqi : (cs.length : Int) - (P : Int) = (q : Int) := by omega
    have hd0 : decide ((q : Int) ≤ 0) = false := by simp; omega
    have hs1 := str_to cs q (by omega)
    have hs2 := str_from cs q (by omega)
    have hs3 := fun wx => slice70_to wx g (k + 1) c k (by omega)
    have hJ1 := fun wx (h : Pw wx (some ⟨g, 0, none⟩) k) => ih (some ⟨g, 0, none⟩) c (cs.take q) wx (by omega) h (fun x hx => hcs x (List.mem_of_mem_take hx)) (by simp; omega)
    have hJ2 := fun wx (h : Pw wx (some ⟨g, 0, none⟩) k) => ih (some ⟨g, 0, none⟩) c (cs.drop q) wx (by omega) h (fun x hx => hcs x (List.mem_of_mem_drop hx)) (by simp; omega)
    have hp0 := hpw.less (show k ≤ k + 1 by omega)
    have HV : Hid (numv (cs.take q) * 10 ^ P + numv (cs.drop q) = numv cs) := by
      show _ = _
      have h1 := numv_append (cs.take q) (cs.drop q)
      rw [List.take_append_drop] at h1
      rw [h1, List.length_drop, show cs.length - q = P by omega]
    have hlA : (cs.take q).length ≤ 1099511627776 := by simp; omega
    have hlB : (cs.drop q).length ≤ 1099511627776 := by simp; omega
    have hnA0 := numv_lt (cs.take q) (fun x hx => hcs x (List.mem_of_mem_take hx))
    have hnB0 := numv_lt (cs.drop q) (fun x hx => hcs x (List.mem_of_mem_drop hx))
    have hlx2 : lx.length ≤ 77309411328 := by
      have h1 := ten_len lx k hnx hvx
      have h2 : 2 ^ k ≤ 2147483648 := Nat.le_trans (Nat.pow_le_pow_right (by omega) (show k ≤ 31 by omega)) (by decide)
      omega
    clear hd
    generalize cs.take q = ca at *
    generalize cs.drop q = cb at *
    go_enter Tryz.func74, Tryz.ntmps74
    go_wp2_with fail
    go_region_with (first
      | (go_at_call_of 74 (Value.string (S8 ca)); refine (hJ1 _ ?_).mono ?_; (first | exact hp0 | exact Pw.keep (w := w.drew) hp0 hkB); rintro e wA ⟨vA, rfl, hnA, hkA⟩; have hnA' := hnA; obtain ⟨aA, cA, lA, rfl, hcA, rA, mA, pA, eA, -⟩ := hnA.shape)
      | (go_at_call_of 74 (Value.string (S8 cb)); refine (hJ2 _ ?_).mono ?_; (first | exact hp0 | exact Pw.keep (w := w.drew) hp0 hkA); rintro e wB ⟨vB, rfl, hnB, hkB⟩; have hnB' := hnB; obtain ⟨aB, cB, lB, rfl, hcB, rB, mB, pB, eB, -⟩ := hnB.shape))
    have hk1 : Keep w wA := ((Keep.refl w).drew).trans hkA
    have hk2 : Keep w wB := hk1.trans hkB
    have hcw := hk2.cell hcell
    have hLA : lA.length ≤ 1099511627776 := Nat.le_trans (len_le_pow pA ca.length (by rw [eA]; exact Nat.lt_of_lt_of_le hnA0 (Nat.pow_le_pow_left (by omega) _))) hlA
    have hLB : lB.length ≤ 1099511627776 := Nat.le_trans (len_le_pow pB cb.length (by rw [eB]; exact Nat.lt_of_lt_of_le hnB0 (Nat.pow_le_pow_left (by omega) _))) hlB
    have hPr := product_any aA (some ⟨gx, 0, none⟩) cA cx lA lx wB hcA hlx (by omega) (by omega) (rA.keep hkB) (hrx.keep hk2) mA hmx
    have HF : Hid (val lA * val lx + val lB = numv cs) := by
      show _ = _
      rw [eA, eB, hvx, HP.out]; exact HV.out
    clear eA eB hvx hnA0 hnB0 hnA hnB hnA' hnB' hJ1 hJ2 hs1 hs2 hs3
    go_simp
    go_wp2_with fail
    refine hPr.mono ?_
    rintro e wP ⟨vP, rfl, hnP, hkP⟩
    obtain ⟨aP, cP, lP, rfl, hcP, rP, mP, pP, eP, -⟩ := hnP.natR.shape
    have hLP : lP.length ≤ lA.length + lx.length := len_le_pow pP _ (by
      rw [eP, Nat.pow_add]
      exact Nat.mul_lt_mul_of_lt_of_le (val_lt mA) (Nat.le_of_lt (val_lt hmx)) (Nat.pos_of_ne_zero (by simp)))
    have hS := sum_any aP aB cP cB lP lB wP (by omega) (by omega) rP (rB.keep hkP) mP mB
    rw [eP, HF.out] at hS
    clear hPr eP
    go_wp2_with fail
    refine hS.mono ?_
    rintro e wS ⟨vS, rfl, hnS, hkS⟩
    have hnS' := hnS
    obtain ⟨aS, cS, lS, rfl, -⟩ := hnS.shape
    go_wp2_with fail
    go_ret
    exact ⟨_, rfl, hnS'.mono (hk2.trans hkP).le, (hk2.trans hkP).trans hkS⟩
theorem joined_any : ∀ k, k ≤ 32 → JoinedSaid k
  | 0, _ => fun av c cs w _ _ hcs hl => joined_zero av c cs w hcs (by omega)
  | k + 1, h => joined_step k (by omega) (joined_any k (by omega))
end Go.Proofs.YtpdjpjkieafnbaaGreatDoor.Li
