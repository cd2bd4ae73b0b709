import Derived.Test.YtpdjpjkieafnbaaDoorProg
import Derived.Test.YtpdjpjkieafnbaaDoorLC18
import Derived.WalkKit
import Derived.WalkSpells
import Derived.WalkLawsBesides
import Derived.Laws.CopyOwn
import Derived.Deep.Draws
import Derived.Deep.QuietTactic
import Derived.BigQuiet
import Derived.Laws.MathBits
import Derived.Laws.BytesArg
import Derived.Lib.OthersKept
set_option linter.unusedVariables false
set_option linter.unusedSimpArgs false
namespace Go.Proofs.YtpdjpjkieafnbaaDoor.Li
open Go.RowKit Lb
theorem getD_past (l : List Nat) (k : Nat) (h : ¬ k < l.length) : l.getD k 0 = 0 := by simp [List.getD, List.getElem?_eq_none (show l.length ≤ k by omega)]
end Go.Proofs.YtpdjpjkieafnbaaDoor.Li
set_option linter.unusedVariables false
set_option linter.unusedSimpArgs false
namespace Go.Proofs.YtpdjpjkieafnbaaDoor.Li
open Go.RowKit Lb
theorem subw (x y t : Nat) (hx : x < 4294967296) (hy : y < 4294967296) (ht : t ≤ 1) : ∃ z c : Nat, IntKind.u64.wrap (IntKind.u64.wrap ((x : Int) - (y : Int)) - (t : Int)) % 4294967296 = (z : Int) ∧
    bits BinOp.and IntKind.u64 (IntKind.u64.wrap (IntKind.u64.wrap ((x : Int) - (y : Int)) - (t : Int)) / 4294967296) 1 = (c : Int) ∧ z < 4294967296 ∧ c ≤ 1 ∧ z + y + t = x + c * 4294967296 := by
  obtain ⟨d, hd, hdl, hdv⟩ : ∃ d : Nat, IntKind.u64.wrap (IntKind.u64.wrap ((x : Int) - (y : Int)) - (t : Int)) = (d : Int) ∧ d < 18446744073709551616 ∧ (d + y + t = x ∨ d + y + t = x + 18446744073709551616) := by
    refine ⟨(IntKind.u64.wrap (IntKind.u64.wrap ((x : Int) - (y : Int)) - (t : Int))).toNat, ?_, ?_, ?_⟩ <;> (rw [IntKind.wrap_u64, IntKind.wrap_u64]; omega)
  rw [hd]
  have hb := u64_and_nat (d / 4294967296) 1 (by omega) (by omega)
  rw [Nat.and_one_is_mod] at hb
  refine ⟨d % 4294967296, d / 4294967296 % 2, by omega, by rw [← hb]; simp, by omega, by omega, ?_⟩
  omega
theorem subw1 (x t : Nat) (hx : x < 4294967296) (ht : t ≤ 1) : ∃ z c : Nat, IntKind.u64.wrap ((x : Int) - (t : Int)) % 4294967296 = (z : Int) ∧
    bits BinOp.and IntKind.u64 (IntKind.u64.wrap ((x : Int) - (t : Int)) / 4294967296) 1 = (c : Int) ∧ z < 4294967296 ∧ c ≤ 1 ∧ z + t = x + c * 4294967296 := by
  obtain ⟨d, hd, hdl, hdv⟩ : ∃ d : Nat, IntKind.u64.wrap ((x : Int) - (t : Int)) = (d : Int) ∧ d < 18446744073709551616 ∧ (d + t = x ∨ d + t = x + 18446744073709551616) := by
    refine ⟨(IntKind.u64.wrap ((x : Int) - (t : Int))).toNat, ?_, ?_, ?_⟩ <;> (rw [IntKind.wrap_u64]; omega)
  rw [hd]
  have hb := u64_and_nat (d / 4294967296) 1 (by omega) (by omega)
  rw [Nat.and_one_is_mod] at hb
  refine ⟨d % 4294967296, d / 4294967296 % 2, by omega, by rw [← hb]; simp, by omega, by omega, ?_⟩
  omega
theorem subStep (X V B A t x y z c : Nat) (h : z + y + t = x + c * 4294967296) (hv : V + B = A + t * X) : (V + X * z) + (B + y * X) = (A + x * X) + c * (X * 4294967296) := by
  have h2 : (z + y + t) * X = (x + c * 4294967296) * X := by rw [h]
  grind
set_option maxRecDepth 100000 in
set_option maxHeartbeats 800000 in
theorem take_any (g : Nat) (b : Option Addr) (cb n c : Nat) (r lb : List Nat) (w : World) (hrl : r.length ≤ 70368744177664) (hn : n ≤ r.length) (hrow : Row w g r) (hrb : Rd w b lb) (hoff : Off g b lb) (hm : Lim r) (hmb : Lim lb)
    (hfit : lb.length ≤ n) (hge : val lb ≤ val (r.take n)) :
    Calls Tryd.prog 70 #[.slice (some ⟨g, 0, none⟩) n c, .slice b lb.length cb] w fun e w' => e = .returned (.tuple #[]) ∧ ∃ q, Row w' g (q ++ r.drop n) ∧ q.length = n ∧ Lim q ∧ val q + val lb = val (r.take n) ∧ Mut g w w' := by
  go_enter Tryd.func70, Tryd.ntmps70
  go_wp2_with fail
  go_loopw [4, 11] (fun c i wr => ∃ (k t : Nat) (q : List Nat), k ≤ lb.length ∧ t ≤ 1 ∧ i = .int .i64 k ∧ c = .int .u64 t ∧ Row wr g (q ++ r.drop k) ∧ Hid (q.length = k) ∧ Lim q ∧ Hid (val q + val (lb.take k) = val (r.take k) + t * 4294967296 ^ k) ∧ Mut g w wr) (fun _ i _ => lb.length - (intOf i).toNat)
  case atStart => exact ⟨0, 0, [], by omega, by omega, rfl, rfl, by simpa using hrow, rfl, by intro y hy; simp at hy, by show _ = _; simp [val], Mut.refl _ _⟩
  case round =>
    obtain ⟨k, t, q, hk, ht, rfl, rfl, hrk, hql, hmq, hv, hmut⟩ := hrel
    by_cases hkl : k < lb.length
    · obtain ⟨b1, o1, rfl, hc1⟩ := (hrb.mut hmut hoff) k hkl
      have hc := hrk.cell k (by have := hql.out; simp; omega)
      rw [get_at q r k hql.out (by omega)] at hc
      have hfz := hrk.frozen k
      obtain ⟨x, hx⟩ : ∃ x, r.getD k 0 = x := ⟨_, rfl⟩
      obtain ⟨y, hy⟩ : ∃ y, lb.getD k 0 = y := ⟨_, rfl⟩
      have hxl : x < 4294967296 := hx ▸ Lim_getD hm _
      have hyl : y < 4294967296 := hy ▸ Lim_getD hmb _
      rw [hx] at hc
      rw [hy] at hc1
      have Hx : Hid (r.getD k 0 = x) := hx; clear hx
      have Hy : Hid (lb.getD k 0 = y) := hy; clear hy
      go_wp2
      go_quiet (fail)
      have hmut1 : Mut g w (wr.drewN nq) := hmut.drewN nq
      have hrk1 : Row (wr.drewN nq) g (q ++ r.drop k) := hrk
      have hc2' : (wr.drewN nq).cell? _ = _ := hc
      have hfz' : (wr.drewN nq).frozen? _ = _ := hfz
      clear hc1 hc hfz hmut hrk
      generalize wr.drewN nq = w1 at hmut1 hrk1 hc2' hfz' ⊢
      go_wp2
      go_roundw
      case rel =>
        obtain ⟨z, c, e1, e2, hz, hc, he⟩ := subw x y t hxl hyl ht
        rw [e1, e2]
        refine ⟨k + 1, c, q ++ [z], by omega, hc, by go_num, rfl, ?_, ?_, Lim_snoc hmq _ hz, ?_, hmut1.setCell _ _⟩
        · have h1 := hrk1.set k z
          rw [set_at q r k _ hql.out (by omega)] at h1
          exact h1
        · show _ = _
          have := hql.out
          simp; omega
        · show _ = _
          rw [val_snoc, hql.out, val_take_succ lb, val_take_succ r, Hx.out, Hy.out, Nat.pow_succ]
          exact subStep _ _ _ _ _ _ _ _ _ he hv.out
      case measure => simp [intOf]; omega
    · have hke : k = lb.length := by omega
      subst hke
      rw [List.take_of_length_le (Nat.le_refl _)] at hv
      go_wp2
      go_loopw [4, 7] (fun c i wr => ∃ (j t : Nat) (q : List Nat), j ≤ n ∧ t ≤ 1 ∧ i = .int .i64 j ∧ c = .int .u64 t ∧ Row wr g (q ++ r.drop j) ∧ Hid (q.length = j) ∧ Lim q ∧ Hid (val q + val lb = val (r.take j) + t * 4294967296 ^ j) ∧ Mut g w wr) (fun _ i _ => n - (intOf i).toNat)
      case atStart => exact ⟨lb.length, t, q, hfit, ht, rfl, rfl, hrk, hql, hmq, hv, hmut⟩
      case round =>
        clear hv hmut hmq hql hrk hkl hk ht
        obtain ⟨j, t, q, hj, ht, rfl, rfl, hrk, hql, hmq, hv, hmut⟩ := hrel
        by_cases ht0 : 0 < t
        · have hjl : j < n := by
            rcases Nat.lt_or_ge j n with h | h
            · exact h
            · exfalso
              have h1 := hv.out
              have h2 := val_lt hmq
              rw [hql.out] at h2
              have h3 : 4294967296 ^ j ≤ t * 4294967296 ^ j := Nat.le_mul_of_pos_left _ ht0
              rw [show j = n by omega] at h1 h2 h3
              omega
          have hc := hrk.cell j (by have := hql.out; simp; omega)
          rw [get_at q r j hql.out (by omega)] at hc
          have hfz := hrk.frozen j
          obtain ⟨x, hx⟩ : ∃ x, r.getD j 0 = x := ⟨_, rfl⟩
          have hxl : x < 4294967296 := hx ▸ Lim_getD hm _
          rw [hx] at hc
          have Hx : Hid (r.getD j 0 = x) := hx; clear hx
          go_wp2
          go_roundw
          case rel =>
            obtain ⟨z, c, e1, e2, hz, hc, he⟩ := subw1 x t hxl ht
            rw [e1, e2]
            refine ⟨j + 1, c, q ++ [z], by omega, hc, by go_num, rfl, ?_, ?_, Lim_snoc hmq _ hz, ?_, hmut.setCell _ _⟩
            · have h1 := hrk.set j z
              rw [set_at q r j _ hql.out (by omega)] at h1
              exact h1
            · show _ = _
              have := hql.out
              simp; omega
            · show _ = _
              rw [val_snoc, hql.out, val_take_succ r, Hx.out, Nat.pow_succ]
              have := subStep (4294967296 ^ j) (val q) (val lb) (val (r.take j)) t x 0 z c (by omega) hv.out
              omega
          case measure => simp [intOf]; omega
        · go_wp2
          go_end0
          have ht1 : t = 0 := by omega
          subst ht1
          have hq := hql.out
          have hsplit : r.take n = r.take j ++ (r.drop j).take (n - j) := by
            rw [← List.take_append_drop j (r.take n), List.take_take, List.drop_take, Nat.min_eq_left hj]
          refine ⟨rfl, q ++ (r.drop j).take (n - j), ?_, by simp; omega, ?_, ?_, hmut⟩
          · rw [List.append_assoc]
            have : (r.drop j).take (n - j) ++ r.drop n = r.drop j := by
              have h1 : r.drop n = (r.drop j).drop (n - j) := by rw [List.drop_drop]; congr 1; omega
              rw [h1, List.take_append_drop]
            rw [this]
            exact hrk
          · intro y hy
            rcases List.mem_append.1 hy with hy | hy
            · exact hmq y hy
            · exact hm y (List.mem_of_mem_drop (List.mem_of_mem_take hy))
          · have h1 := hv.out
            rw [hsplit, val_append, val_append, hq, show (r.take j).length = j by simp; omega]
            omega
end Go.Proofs.YtpdjpjkieafnbaaDoor.Li
