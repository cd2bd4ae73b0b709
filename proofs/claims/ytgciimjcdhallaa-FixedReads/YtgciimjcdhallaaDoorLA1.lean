import Derived.Test.YtgciimjcdhallaaDoorProg
import Derived.Test.YtgciimjcdhallaaDoorLLQ11
import Derived.Test.YtgciimjcdhallaaDoorLLLH2
import Derived.Test.YtgciimjcdhallaaDoorLLLC5
import Derived.WalkKit
import Derived.WalkSpells
import Derived.WalkLawsBesides
import Derived.Laws.CopyOwn
import Derived.Deep.Draws
import Derived.Deep.QuietTactic
import Derived.BigQuiet
import Derived.Laws.MathBits
import Derived.Shelf.Small.Bits
import Derived.Laws.BytesArg
import Derived.Lib.OthersKept
import Derived.Deep.RegionWith
import Derived.Laws.Externs
import Derived.WalkMore
import Derived.Deep.LoopGhost
import Derived.Deep.RegionHeld3
set_option linter.unusedVariables false
set_option linter.unusedSimpArgs false
namespace Go.Proofs.YtgciimjcdhallaaDoor.Li
open Go.RowKit Lb
theorem nl_nrm {l : List Nat} (h : Nrm l) : nl l = l.length := by
  rcases l.eq_nil_or_concat with rfl | ⟨L, x, rfl⟩
  · rfl
  · have hx : x ≠ 0 := by simpa [Nrm] using h
    refine nl_eq _ _ ?_ ?_
    · intro j hj
      rw [List.getD_eq_getElem?_getD, List.getElem?_eq_none hj]; rfl
    · intro _
      simpa [List.getD] using hx
set_option maxHeartbeats 400000 in
theorem size_any (a : Option Addr) (c : Nat) (l : List Nat) (w : World) (hl : l.length ≤ 35184372088000) (hr : Rd w a l) (hm : Lim l) (hn : Nrm l) :
    Calls Tryd.prog 50 #[.slice a l.length c] w fun e w' => e = .returned (.int .i64 (lenB l : Nat)) ∧ Keep w w' := by
  have h1 := nl_nrm hn
  by_cases h0 : l.length = 0
  · have hb : ((l.length : Int) == 0) = true := by rw [beq_iff_eq]; omega
    have he : Hid (lenB l = 0) := by show _ = _; unfold lenB; rw [if_pos (by omega)]
    clear h0
    go_enter Tryd.func50, Tryd.ntmps50
    go_wp2
    go_ret
    exact ⟨ret_int (by rw [he.out]; rfl), Keep.refl _⟩
  · obtain ⟨m, hm'⟩ : ∃ m, l.length = m + 1 := ⟨l.length - 1, by omega⟩
    obtain ⟨x, hx⟩ : ∃ x, l.getD m 0 = x := ⟨_, rfl⟩
    have hxl : x < 4294967296 := hx ▸ Lim_getD hm _
    have he : Hid (lenB l = 32 * m + bitLen x) := by show _ = _; unfold lenB; rw [if_neg (by omega), h1, hm', Nat.add_sub_cancel, hx]
    have hbl := bitLen_le x hxl
    have hml : m ≤ 35184372088000 := by omega
    obtain ⟨b, o, rfl, hc⟩ := hr m (by omega)
    rw [hx] at hc
    rw [hm']
    clear hx hr h0 h1 hl hm' hn hm
    have hb2 : (((m : Int) + 1) == 0) = false := by simp; omega
    go_enter Tryd.func50, Tryd.ntmps50
    go_wp2
    go_loop [3, 4] (fun n t => ∃ k y : Nat, y < 4294967296 ∧ k + bitLen y = 32 * m + bitLen x ∧ k ≤ 32 * m + 32 ∧ n = .int .i64 k ∧ t = .int .u32 y) (fun _ t => (intOf t).toNat)
    case atStart => exact ⟨32 * m, x, hxl, rfl, by omega, by simp, rfl⟩
    case round =>
      obtain ⟨k, y, hy, hsum, hk2, rfl, rfl⟩ := hrel
      have Hs : Hid (k + bitLen y = 32 * m + bitLen x) := hsum
      clear hsum
      by_cases hy0 : 0 < y
      · have hh := bitLen_half y hy0
        have Hh : Hid (bitLen y = bitLen (y / 2) + 1) := hh
        have hk3 : k < 32 * m + 32 := by have := Hs.out; omega
        clear hh
        go_wp2
        go_round
        case rel => exact ⟨k + 1, y / 2, by omega, by have := Hs.out; have := Hh.out; omega, by omega, by go_num, by simp⟩
        case measure => simp [intOf]; omega
      · go_wp2
        go_ret
        exact ⟨ret_int (by
          have := Hs.out
          rw [show y = 0 by omega] at this
          simp [bitLen] at this
          rw [he.out, bitLen]; omega), Keep.refl _⟩
set_option maxHeartbeats 400000 in
theorem cmp_any (a b : Option Addr) (ca cb : Nat) (la lb : List Nat) (w : World) (hla : la.length ≤ 9223372036854775807) (_hlb : lb.length ≤ 9223372036854775807) (hra : Rd w a la) (hrb : Rd w b lb) :
    Calls Tryd.prog 52 #[.slice a la.length ca, .slice b lb.length cb] w fun e w' => e = .returned (.int .i64 (cmpL la lb)) ∧ Dr w w' := by
  by_cases hlt : la.length < lb.length
  · have heq : ((la.length : Int) != (lb.length : Int)) = true := by simp; omega
    go_enter Tryd.func52, Tryd.ntmps52
    go_wp2
    go_ret
    exact ⟨ret_int (by unfold cmpL; rw [if_pos hlt]), Dr.refl _⟩
  by_cases hgt : lb.length < la.length
  · have heq : ((la.length : Int) != (lb.length : Int)) = true := by simp; omega
    go_enter Tryd.func52, Tryd.ntmps52
    go_wp2
    go_ret
    exact ⟨ret_int (by unfold cmpL; rw [if_neg hlt, if_pos hgt]), Dr.refl _⟩
  have heq : ((la.length : Int) != (lb.length : Int)) = false := by simp; omega
  have hc : Hid (cmpL la lb = cmpTop la lb la.length) := by show _ = _; unfold cmpL; rw [if_neg hlt, if_neg hgt]
  go_enter Tryd.func52, Tryd.ntmps52
  go_wp2
  go_loopw [5] (fun i wr => ∃ k : Nat, k ≤ la.length ∧ i = .int .i64 ((k : Int) - 1) ∧ Hid (cmpTop la lb k = cmpTop la lb la.length) ∧ Dr w wr) (fun i _ => (intOf i + 1).toNat)
  case atStart => exact ⟨la.length, Nat.le_refl _, rfl, rfl, Dr.refl _⟩
  case round =>
    obtain ⟨k, hk, rfl, hrest, hd⟩ := hrel
    rcases k with _ | k
    · go_wp2
      go_ret
      exact ⟨ret_int (by rw [hc.out, ← hrest.out]; rfl), hd⟩
    · have e1 : ((k + 1 : Nat) : Int) - 1 = (k : Int) := by omega
      rw [e1]
      obtain ⟨b1, o1, rfl, hc1⟩ := hra k (by omega)
      obtain ⟨b2, o2, rfl, hc2⟩ := hrb k (by omega)
      obtain ⟨x, hx⟩ : ∃ x, la.getD k 0 = x := ⟨_, rfl⟩
      obtain ⟨y, hy⟩ : ∃ y, lb.getD k 0 = y := ⟨_, rfl⟩
      rw [hx, ← hd.cell] at hc1
      rw [hy, ← hd.cell] at hc2
      have hstep : Hid (cmpTop la lb (k + 1) = if x < y then -1 else if y < x then 1 else cmpTop la lb k) := by
        show _ = _
        rw [cmpTop, hx, hy]
      clear hx hy e1
      rcases Nat.lt_trichotomy x y with hxy | hxy | hxy
      · have hne : ((x : Int) != (y : Int)) = true := by simp; omega
        go_wp2
        go_quiet (fail)
        have hd1 : Dr w (wr.drewN nq) := hd.drewN nq
        have hc1' : (wr.drewN nq).cell? _ = _ := hc1
        have hc2' : (wr.drewN nq).cell? _ = _ := hc2
        clear hc1 hc2 hd
        generalize wr.drewN nq = w1 at hd1 hc1' hc2' ⊢
        go_wp2_with fail
        go_quiet (fail)
        go_wp2
        go_ret
        exact ⟨ret_int (by rw [hc.out, ← hrest.out, hstep.out, if_pos hxy]), hd1.drewN _⟩
      · subst hxy
        go_wp2
        go_quiet (fail)
        go_wp2
        go_roundw
        case rel => exact ⟨k, by omega, by go_num, by rw [← hrest.out, hstep.out, if_neg (by omega), if_neg (by omega)]; rfl, hd.drewN _⟩
        case measure => simp [intOf]
      · have hne : ((x : Int) != (y : Int)) = true := by simp; omega
        have hd' : decide ((x : Int) < y) = false := by simp; omega
        go_wp2
        go_quiet (fail)
        have hd1 : Dr w (wr.drewN nq) := hd.drewN nq
        have hc1' : (wr.drewN nq).cell? _ = _ := hc1
        have hc2' : (wr.drewN nq).cell? _ = _ := hc2
        clear hc1 hc2 hd
        generalize wr.drewN nq = w1 at hd1 hc1' hc2' ⊢
        go_wp2_with fail
        go_quiet (fail)
        go_wp2
        go_ret
        exact ⟨ret_int (by rw [hc.out, ← hrest.out, hstep.out, if_neg (by omega), if_pos hxy]), hd1.drewN _⟩
end Go.Proofs.YtgciimjcdhallaaDoor.Li
