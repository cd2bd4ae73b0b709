import Derived.Test.YtgciimjcdhallaaDoorProg
import Derived.Test.YtgciimjcdhallaaDoorLA2
import Derived.WalkKit
import Derived.WalkSpells
import Derived.WalkLawsBesides
import Derived.Laws.CopyOwn
import Derived.Deep.Draws
import Derived.Deep.QuietTactic
import Derived.BigQuiet
import Derived.Laws.MathBits
import Derived.Shelf.Small.Bits
import Derived.Laws.BytesArg
import Derived.Lib.OthersKept
import Derived.Deep.RegionWith
import Derived.Laws.Externs
import Derived.WalkMore
import Derived.Deep.LoopGhost
import Derived.Deep.RegionHeld3
set_option linter.unusedVariables false
set_option linter.unusedSimpArgs false
namespace Go.Proofs.YtgciimjcdhallaaDoor.Li
open Go.RowKit Lb
/-- One step of the difference. -/
theorem subStep (q A B' P x y d : Nat) (c c' t : Int) (hv : (q : Int) + c * (P : Int) = (A : Int) - (B' : Int)) (ht : t = c + x - y) (hd : t = d + 4294967296 * c') :
    ((q + P * d : Nat) : Int) + c' * ((P * 4294967296 : Nat) : Int) = ((A + x * P : Nat) : Int) - ((B' + y * P : Nat) : Int) := by
  simp only [Int.natCast_add, Int.natCast_mul]
  have h1 : (d : Int) = c + x - y - 4294967296 * c' := by omega
  rw [h1]
  generalize (P : Int) = p at *
  grind
set_option maxHeartbeats 400000 in
theorem minus_any (a b : Option Addr) (ca cb : Nat) (la lb : List Nat) (w : World) (hla : la.length ≤ 35184372000000) (hlb : lb.length ≤ la.length) (hra : Rd w a la) (hrb : Rd w b lb) (hma : Lim la) (hmb : Lim lb) (hle : val lb ≤ val la) :
    Calls Tryd.prog 71 #[.slice a la.length ca, .slice b lb.length cb] w fun e w' => ∃ v, e = .returned v ∧ Nv w' v (val la - val lb) ∧ Keep w w' := by
  have HL : Hid (val lb ≤ val la) := hle
  clear hle
  go_enter Tryd.func71, Tryd.ntmps71
  go_wp2_with fail
  go_loopw [5, 6, 7] (fun v c i wr => ∃ (k : Nat) (t : Int) (q : List Nat), k ≤ la.length ∧ i = .int .i64 k ∧ c = .int .i64 t ∧ -1 ≤ t ∧ t ≤ 0 ∧ Own w.heap.size wr v q ∧ Hid (q.length = k) ∧ Lim q ∧ Hid ((val q : Int) + t * ((4294967296 ^ k : Nat) : Int) = (val (la.take k) : Int) - (val (lb.take k) : Int)) ∧ Keep w wr) (fun _ _ i _ => la.length - (intOf i).toNat)
  case atStart => exact ⟨0, 0, [], by omega, rfl, rfl, by omega, by omega, World.ownsRow_nil _ _ _ _, by show _ = _; simp, by intro x hx; simp at hx, by show _ = _; simp [val], Keep.refl _⟩
  case round =>
    obtain ⟨k, t, q, hkk, rfl, rfl, ht1, ht2, hown, hql, hmq, hv, hkp⟩ := hrel
    have hql' : q.length < 35184372088832 := by rw [hql.out]; omega
    obtain ⟨vs, cq, rfl, hcq, hrq⟩ := hown.shape
    clear hrq
    by_cases hkL : k < la.length
    · obtain ⟨b1, o1, rfl, hx1⟩ := (hra.keep hkp) k hkL
      obtain ⟨x, hx⟩ : ∃ x, la.getD k 0 = x := ⟨_, rfl⟩
      have hxl : x < 4294967296 := hx ▸ Lim_getD hma _
      rw [hx] at hx1
      have Hx : Hid (la.getD k 0 = x) := hx; clear hx
      obtain ⟨y, hy⟩ : ∃ y, lb.getD k 0 = y := ⟨_, rfl⟩
      have hyl : y < 4294967296 := hy ▸ Lim_getD hmb _
      have Hy : Hid (lb.getD k 0 = y) := hy
      obtain ⟨T, hT⟩ : ∃ T : Int, t + x - y = T := ⟨_, rfl⟩
      obtain ⟨d, hd⟩ : ∃ d : Nat, T % 4294967296 = d := ⟨(T % 4294967296).toNat, by omega⟩
      have HV : Hid ((val (q ++ [d]) : Int) + T / 4294967296 * ((4294967296 ^ (k + 1) : Nat) : Int) = (val (la.take (k + 1)) : Int) - (val (lb.take (k + 1)) : Int)) := by
        show _ = _
        rw [val_snoc, hql.out, Nat.pow_succ, val_take_succ, val_take_succ, Hx.out, Hy.out]
        exact subStep _ _ _ _ x y d t _ T hv.out hT.symm (by omega)
      have Hql : Hid (∀ n, (q ++ [n]).length = k + 1) := by intro n; have := hql.out; simp; omega
      have hd2 : d < 4294967296 := by omega
      have hT2 : -1 ≤ T / 4294967296 ∧ T / 4294967296 ≤ 0 := by omega
      have hw1 : wrap64 (t + (x : Int)) = t + x := IntWalk.wrap64_in _ (by omega)
      by_cases hB : k < lb.length
      · obtain ⟨b2, o2, rfl, hy1⟩ := (hrb.keep hkp) k hB
        rw [hy] at hy1
        have hw2 : wrap64 (t + (x : Int) - y) = t + (x : Int) - y := IntWalk.wrap64_in _ (by omega)
        have HT : Hid (t + (x : Int) - y = T) := hT
        clear hy hT
        go_wp2_with (at_builtin; refine wpList_app32 rfl _ _ rfl q _ rfl _ d ?_ rfl hown hkp hql' ?_; rotate_left; intro v' w1' hown' hk')
        go_roundw
        case rel => exact ⟨k + 1, T / 4294967296, _, by omega, by go_num, by simp [HT.out], hT2.1, hT2.2, hown', Hql.out _, Lim_snoc hmq _ hd2, HV, hk'⟩
        case measure => simp [intOf]; omega
        · rw [HT.out]; exact hd
      · have hy0 : y = 0 := by rw [← hy]; exact getD_past lb k hB
        subst hy0
        have hT' : t + (x : Int) = T := by omega
        clear hy hT
        go_wp2_with (at_builtin; refine wpList_app32 rfl _ _ rfl q _ rfl _ d ?_ rfl hown hkp hql' ?_; rotate_left; intro v' w1' hown' hk')
        go_roundw
        case rel => exact ⟨k + 1, T / 4294967296, _, by omega, by go_num, by simp, hT2.1, hT2.2, hown', Hql.out _, Lim_snoc hmq _ hd2, HV, hk'⟩
        case measure => simp [intOf]; omega
        · rfl
    · have hke : k = la.length := by omega
      subst hke
      rw [List.take_of_length_le (Nat.le_refl _), List.take_of_length_le hlb] at hv
      have HF : Hid (val q = val la - val lb) := by
        show _ = _
        have h1 := HL.out
        have h2 := hv.out
        have h3 := val_lt hmq
        rw [hql.out] at h3
        rcases (show t = 0 ∨ t = -1 by omega) with h | h
        · subst h; rw [Int.zero_mul] at h2; omega
        · subst h; rw [Int.neg_mul, Int.one_mul] at h2; omega
      have hN := norm_any vs cq q wr hcq (by omega) (by have := hown.shape; obtain ⟨a', c', e', _, r'⟩ := this; simp only [Value.slice.injEq] at e'; rw [e'.1]; exact r')
      go_wp2_with fail
      refine hN.mono ?_
      rintro e w5 ⟨rfl, rfl⟩
      go_wp2_with fail
      go_ret
      have hcut : (q.take (nl q)).length = nl q := by rw [List.length_take]; have := nl_le q; omega
      refine ⟨_, rfl, ⟨vs, cq, q.take (nl q), by rw [hcut]; rfl, by have := nl_le q; omega, ?_, Lim_take hmq _, Nrm_take _, by rw [val_take_nl]; exact HF.out⟩, hkp⟩
      obtain ⟨a', c', e', _, r'⟩ := hown.shape
      simp only [Value.slice.injEq] at e'
      rw [e'.1]
      exact r'.take _
end Go.Proofs.YtgciimjcdhallaaDoor.Li
