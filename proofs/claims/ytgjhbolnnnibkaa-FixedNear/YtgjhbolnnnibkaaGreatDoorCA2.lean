import Derived.Test.YtgjhbolnnnibkaaGreatDoorProg
import Derived.Test.YtgjhbolnnnibkaaGreatDoorQQ12
import Derived.Test.YtgjhbolnnnibkaaGreatDoorNC9
import Derived.Test.YtgjhbolnnnibkaaGreatDoorNB2
import Derived.Test.YtgjhbolnnnibkaaGreatDoorAA5
import Derived.WalkKit
import Derived.WalkSpells
import Derived.WalkLawsBesides
import Derived.Laws.CopyOwn
import Derived.Deep.Draws
import Derived.Deep.QuietTactic
import Derived.BigQuiet
import Derived.Laws.MathBits
import Derived.Laws.BytesArg
import Derived.Lib.OthersKept
import Derived.Deep.RegionWith
import Derived.Laws.Externs
import Derived.WalkMore
import Derived.Deep.LoopGhost
import Derived.Deep.RegionHeld3
import Derived.Deep.CutBlock
import Derived.Deep.CutRange
import Derived.Test.YtgjhbolnnnibkaaGreatDoorQQ9
set_option linter.unusedVariables false
set_option linter.unusedSimpArgs false
namespace Go.Proofs.YtgjhbolnnnibkaaGreatDoor.Li
open Go.RowKit Lb Nr
theorem set_far {l : List Nat} {j x p : Nat} (h : j ≠ p) : (l.set j x).getD p 0 = l.getD p 0 := by
  simp [List.getD, List.getElem?_set_ne h]
set_option maxRecDepth 100000 in
set_option maxHeartbeats 1000000 in
theorem Product_any (a b : Option Addr) (ca cb : Nat) (la lb : List Nat) (w : World) (hla : la.length ≤ 1000000) (hlb : lb.length ≤ 1000000) (hra : Rd w a la) (hrb : Rd w b lb) (hma : Lim la) (hmb : Lim lb) :
    Calls Tryz.prog 24 #[.slice a la.length ca, .slice b lb.length cb] w fun e w' => ∃ v, e = .returned v ∧ Nv w' v (val la * val lb) ∧ Keep w w' := by
  obtain ⟨N, hN⟩ : ∃ N, la.length + lb.length = N := ⟨_, rfl⟩
  have hsz : N ≤ 70368744177664 := by omega
  have hsz2 : N ≤ 2000000 := by omega
  have hNi : (la.length : Int) + (lb.length : Int) = (N : Int) := by omega
  have HN : Hid (la.length + lb.length = N) := hN
  clear hN
  go_enter Tryz.func24, Tryz.ntmps24
  go_wp2_with (at_make; refine wpList_make32 _ rfl _ _ rfl _ _ _ _ N rfl rfl rfl rfl hsz ?_; intro w1 hrow hk hsz1)
  clear hNi
  go_loopw [6] (fun i wr => ∃ (k : Nat) (rk : List Nat), k ≤ la.length ∧ i = .int .i64 k ∧ Row wr w.heap.size rk ∧ Hid (rk.length = N) ∧ Lim rk ∧ Hid (val rk = val (la.take k) * val lb) ∧ Hid (∀ p, k + lb.length ≤ p → rk.getD p 0 = 0) ∧ Keep w wr) (fun i _ => la.length - (intOf i).toNat)
  case atStart => exact ⟨0, _, by omega, rfl, hrow, by show _ = _; simp, by intro x hx; simp at hx; omega, by show _ = _; rw [val_rep]; simp [val], by intro p _; simp [List.getD, List.getElem?_replicate]; split <;> rfl, hk⟩
  case round =>
    obtain ⟨k, rk, hkk, rfl, hrk, hlen, hmk, hv, hz, hkp⟩ := hrel
    by_cases hkl : k < la.length
    · obtain ⟨x, hx⟩ : ∃ x, la.getD k 0 = x := ⟨_, rfl⟩
      have hxl : x < 4294967296 := hx ▸ Lim_getD hma _
      have Hx : Hid (la.getD k 0 = x) := hx
      clear hx
      have hNN : la.length + lb.length ≤ N := by have := HN.out; omega
      go_wp2_with fail
      go_loopw [7, 8] (fun c j wj => ∃ (jn cn : Nat) (rj : List Nat), jn ≤ lb.length ∧ cn < 4294967296 ∧ j = .int .i64 jn ∧ c = .int .u64 cn ∧ Row wj w.heap.size rj ∧ Hid (rj.length = N) ∧ Lim rj ∧ Hid (val rj + cn * 4294967296 ^ (k + jn) = val rk + 4294967296 ^ k * (x * val (lb.take jn))) ∧ Hid (∀ p, k + lb.length ≤ p → rj.getD p 0 = 0) ∧ Keep w wj) (fun _ j _ => lb.length - (intOf j).toNat)
      case atStart => exact ⟨0, 0, rk, by omega, by omega, rfl, rfl, hrk, hlen, hmk, by show _ = _; simp [val], hz, hkp⟩
      case round =>
        obtain ⟨jn, cn, rj, hjn, hcn, rfl, rfl, hrj, hlj, hmj, hvj, hzj, hkj⟩ := hrel
        clear hrk hkp
        by_cases hB : jn < lb.length
        · obtain ⟨b1, o1, rfl, hx1⟩ := (hra.keep hkj) k hkl
          obtain ⟨b2, o2, rfl, hy1⟩ := (hrb.keep hkj) jn hB
          rw [Hx.out] at hx1
          obtain ⟨v, hv0⟩ : ∃ v, lb.getD jn 0 = v := ⟨_, rfl⟩
          have hvl : v < 4294967296 := hv0 ▸ Lim_getD hmb _
          rw [hv0] at hy1
          have Hv : Hid (lb.getD jn 0 = v) := hv0; clear hv0
          have hp := prodB x v hxl hvl
          have hpi : (x : Int) * (v : Int) ≤ 18446744065119617025 := by rw [← Int.natCast_mul]; omega
          have hpi0 : 0 ≤ (x : Int) * (v : Int) := by rw [← Int.natCast_mul]; omega
          have hc2 := hrj.cell (k + jn) (by rw [hlj.out]; omega)
          have hfz := hrj.frozen (k + jn)
          obtain ⟨u, hu⟩ : ∃ u, rj.getD (k + jn) 0 = u := ⟨_, rfl⟩
          have hul : u < 4294967296 := hu ▸ Lim_getD hmj _
          rw [hu] at hc2
          have Hu : Hid (rj.getD (k + jn) 0 = u) := hu; clear hu
          have hlt64 : cn + x * v + u < 18446744073709551616 := by omega
          have HN2 : Hid (cn + x * v + u = cn + (u + x * v)) := by show _ = _; omega
          go_wp2
          go_quiet (fail)
          have hkj1 : Keep w (wr.drewN nq) := hkj.drewN nq
          have hrj1 : Row (wr.drewN nq) w.heap.size rj := hrj
          have hc2' : (wr.drewN nq).cell? _ = _ := hc2
          have hfz' : (wr.drewN nq).frozen? _ = _ := hfz
          clear hc2 hfz hkj hrj hx1 hy1
          generalize wr.drewN nq = w2 at hkj1 hrj1 hc2' hfz' ⊢
          go_wp2
          go_roundw
          case rel =>
            refine ⟨jn + 1, (cn + x * v + u) / 4294967296, rj.set (k + jn) ((cn + x * v + u) % 4294967296), by omega, by omega, by go_num, by simp, ?_, ?_, Lim_set hmj _ _ (by omega), ?_, ?_, hkj1.setCell (Nat.le_refl _) _⟩
            · have h1 := hrj1.set (k + jn) ((cn + x * v + u) % 4294967296); simpa using h1
            · show _ = _
              rw [List.length_set]; exact hlj.out
            · show _ = _
              have h1 := addStep rj (k + jn) cn u (x * v) _ (by rw [hlj.out]; omega) Hu.out hvj.out
              rw [HN2.out, show k + (jn + 1) = k + jn + 1 from rfl, h1, val_take_succ lb, Hv.out, Nat.pow_add]
              grind
            · intro p hp'
              rw [set_far (by omega)]
              exact hzj.out p hp'
          case measure => simp [intOf]; omega
        · have hje : jn = lb.length := by omega
          subst hje
          have hlj' : k + lb.length < rj.length := by rw [hlj.out]; omega
          have hc2 := hrj.cell (k + lb.length) hlj'
          have hfz := hrj.frozen (k + lb.length)
          rw [hzj.out _ (Nat.le_refl _)] at hc2
          have HF : Hid (val (rj.set (k + lb.length) cn) = val (la.take (k + 1)) * val lb) := by
            show _ = _
            have h0 := hvj.out
            rw [List.take_of_length_le (by omega), hv.out] at h0
            have h1 := addStep rj (k + lb.length) cn 0 0 _ hlj' (hzj.out _ (Nat.le_refl _)) h0
            rw [Nat.add_zero, Nat.mod_eq_of_lt hcn, Nat.div_eq_of_lt hcn, Nat.zero_mul, Nat.zero_mul, Nat.add_zero, Nat.add_zero] at h1
            rw [h1, val_take_succ, Hx.out]
            grind
          have hcm : (cn : Int) % 4294967296 = (cn : Int) := by omega
          go_wp2_with fail
          go_roundw
          case rel =>
            refine ⟨k + 1, rj.set (k + lb.length) cn, by omega, by go_num, ?_, ?_, Lim_set hmj _ _ hcn, HF, ?_, hkj.setCell (Nat.le_refl _) _⟩
            · have h1 := hrj.set (k + lb.length) cn; simpa using h1
            · show _ = _
              rw [List.length_set]; exact hlj.out
            · intro p hp'
              rw [set_far (by omega)]
              exact hzj.out p (by omega)
          case measure => simp [intOf]; omega
    · have hke : k = la.length := by omega
      have hN := norm_any (some ⟨w.heap.size, 0, none⟩) N rk wr (by have := hlen.out; omega) (by have := hlen.out; omega) hrk.rd0
      rw [hlen.out] at hN
      have HF : Hid (val rk = val la * val lb) := by
        show _ = _
        rw [hv.out, List.take_of_length_le (by omega)]
      go_wp2_with fail
      refine hN.mono ?_
      rintro e w5 ⟨rfl, rfl⟩
      go_wp2_with fail
      go_ret
      have hcut : (rk.take (nl rk)).length = nl rk := by rw [List.length_take]; have := nl_le rk; omega
      exact ⟨_, rfl, ⟨_, N, rk.take (nl rk), by rw [hcut]; rfl, by have := nl_le rk; have := hlen.out; omega, hrk.rd0.take _, Lim_take hmk _, Nrm_take _, by rw [val_take_nl]; exact HF.out⟩, hkp⟩
end Go.Proofs.YtgjhbolnnnibkaaGreatDoor.Li
set_option linter.unusedVariables false
set_option linter.unusedSimpArgs false
namespace Go.Proofs.YtgjhbolnnnibkaaGreatDoor.Li
open Go.RowKit Lb Nr
/-- The number of an amount and a sign, and the error. -/
def sgV (neg : Bool) (u : Nat) : Int := if neg = true ∧ u ≤ 9223372036854775808 then -(u : Int) else if neg = false ∧ u < 9223372036854775808 then (u : Int) else 0
def sgE (neg : Bool) (u : Nat) : Int := if neg = true ∧ u ≤ 9223372036854775808 then 0 else if neg = false ∧ u < 9223372036854775808 then 0 else 41
theorem neg_wrap (u : Nat) (h : u ≤ 9223372036854775808) : wrap64 (-(wrap64 (u : Int))) = -(u : Int) := by
  simp only [wrap64]
  omega
set_option maxHeartbeats 400000 in
theorem rsigned_any (neg : Bool) (u : Nat) (hu : u < 18446744073709551616) (w : World) : Calls Tryz.prog 26 #[.bool neg, .int .u64 (u : Nat)] w fun e w' => ∃ x ok, e = .returned (.tuple #[.int .i64 x, .bool ok]) ∧ (ok = true → x = sgV neg u ∧ sgE neg u = 0) ∧ (ok = false → sgV neg u = 0 ∧ sgE neg u = 41) ∧ w' = w := by
  have HV : Hid (sgV neg u = if neg = true ∧ u ≤ 9223372036854775808 then -(u : Int) else if neg = false ∧ u < 9223372036854775808 then (u : Int) else 0) := rfl
  have HE : Hid (sgE neg u = if neg = true ∧ u ≤ 9223372036854775808 then 0 else if neg = false ∧ u < 9223372036854775808 then 0 else 41) := rfl
  generalize sgV neg u = V at *
  generalize sgE neg u = E at *
  cases neg
  · by_cases h : u < 9223372036854775808
    · have d : decide ((u : Int) < 9223372036854775808) = true := decide_eq_true (by omega)
      have e : wrap64 (u : Int) = u := IntWalk.wrap64_in _ (by omega)
      have v1 : V = (u : Int) := by rw [HV.out]; simp [h]
      have v2 : E = 0 := by rw [HE.out]; simp [h]
      subst v1 v2
      clear HV HE h hu
      go_enter Tryz.func26, Tryz.ntmps26
      go_wp2
      go_ret2
      refine ⟨_, _, rfl, ?_, ?_, rfl⟩ <;> first | (simp; done) | (simp; exact e) | (simp [e]; done)
    · have d : decide ((u : Int) < 9223372036854775808) = false := decide_eq_false (by omega)
      have v1 : V = 0 := by rw [HV.out]; simp [h]
      have v2 : E = 41 := by rw [HE.out]; simp [h]
      subst v1 v2
      clear HV HE h hu
      go_enter Tryz.func26, Tryz.ntmps26
      go_wp2
      go_ret2
      refine ⟨_, _, rfl, ?_, ?_, rfl⟩ <;> first | (simp; done) | (simp; exact e) | (simp [e]; done)
  · by_cases h : u ≤ 9223372036854775808
    · have d : decide ((u : Int) ≤ 9223372036854775808) = true := decide_eq_true (by omega)
      have e := neg_wrap u h
      have v1 : V = -(u : Int) := by rw [HV.out]; simp [h]
      have v2 : E = 0 := by rw [HE.out]; simp [h]
      subst v1 v2
      clear HV HE h hu
      go_enter Tryz.func26, Tryz.ntmps26
      go_wp2
      go_ret2
      refine ⟨_, _, rfl, ?_, ?_, rfl⟩ <;> first | (simp; done) | (simp; exact e) | (simp [e]; done)
    · have d : decide ((u : Int) ≤ 9223372036854775808) = false := decide_eq_false (by omega)
      have d2 : decide ((u : Int) < 9223372036854775808) = false := decide_eq_false (by omega)
      have v1 : V = 0 := by rw [HV.out]; simp [h]
      have v2 : E = 41 := by rw [HE.out]; simp [h]
      subst v1 v2
      clear HV HE h hu
      go_enter Tryz.func26, Tryz.ntmps26
      go_wp2
      go_ret2
      refine ⟨_, _, rfl, ?_, ?_, rfl⟩ <;> first | (simp; done) | (simp; exact e) | (simp [e]; done)
end Go.Proofs.YtgjhbolnnnibkaaGreatDoor.Li
set_option linter.unusedVariables false
set_option linter.unusedSimpArgs false
namespace Go.Proofs.YtgjhbolnnnibkaaGreatDoor.Li
open Go.RowKit Lb Nr
theorem Product_nv (v1 v2 : Value) (x y k : Nat) (w : World) (h : Nv w v1 x) (g : Nv w v2 y) (hx : x < 4294967296 ^ k) (hy : y < 4294967296 ^ k) (hk : k ≤ 1000) :
    Calls Tryz.prog 24 #[v1, v2] w fun e w' => ∃ v, e = .returned v ∧ Nv w' v (x * y) ∧ Keep w w' := by
  obtain ⟨a, c, l, rfl, h1, h2, h3, h4, h5, h6⟩ := h.few hx
  obtain ⟨b, d, m, rfl, g1, g2, g3, g4, g5, g6⟩ := g.few hy
  have := Product_any a b c d l m w (by omega) (by omega) h2 g2 h3 g3
  rw [h5, g5] at this
  exact this
end Go.Proofs.YtgjhbolnnnibkaaGreatDoor.Li
set_option linter.unusedVariables false
set_option linter.unusedSimpArgs false
namespace Go.Proofs.YtgjhbolnnnibkaaGreatDoor.Li
open Go.RowKit Lb
theorem from_nv (n : Nat) (w : World) (hn : n < 18446744073709551616) :
    Calls Tryz.prog 46 #[.int .u64 (n : Nat)] w fun e w' => ∃ v, e = .returned v ∧ Nv w' v n ∧ Keep w w' := by
  refine (from_any n w hn).mono ?_
  rintro e w' ⟨v, l, rfl, h1, h2, h3, h4, h5⟩
  obtain ⟨a, c, rfl, q1, q2⟩ := h1.shape
  exact ⟨_, rfl, ⟨a, c, l, rfl, q1, q2, h2, h3, h4⟩, h5⟩
theorem From_nv (n : Nat) (w : World) (hn : n < 18446744073709551616) :
    Calls Tryz.prog 25 #[.int .u64 (n : Nat)] w fun e w' => ∃ v, e = .returned v ∧ Nv w' v n ∧ Keep w w' := by
  have h := from_nv n w hn
  go_enter Tryz.func25, Tryz.ntmps25
  go_wp2_with fail
  refine h.mono ?_
  rintro e w' ⟨v, rfl, h1, h2⟩
  go_wp2_with fail
  go_ret
  exact ⟨_, rfl, h1, h2⟩
end Go.Proofs.YtgjhbolnnnibkaaGreatDoor.Li
