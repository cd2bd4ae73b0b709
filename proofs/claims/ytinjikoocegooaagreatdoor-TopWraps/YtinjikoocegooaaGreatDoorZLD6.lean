import Derived.Test.YtinjikoocegooaaGreatDoorProg
import Derived.Test.YtinjikoocegooaaGreatDoorLC10
import Derived.Test.YtinjikoocegooaaGreatDoorShelf
import Derived.Test.YtinjikoocegooaaGreatDoorZLC18
import Derived.WalkKit
import Derived.WalkSpells
import Derived.WalkLawsBesides
import Derived.Laws.CopyOwn
import Derived.Deep.Draws
import Derived.Deep.QuietTactic
import Derived.BigQuiet
import Derived.Laws.MathBits
import Derived.Shelf.Small.Bits
import Derived.Laws.BytesArg
import Derived.Lib.OthersKept
import Derived.Deep.RegionWith
set_option linter.unusedVariables false
set_option linter.unusedSimpArgs false
namespace Go.Proofs.YtinjikoocegooaaGreatDoor.Li
open Go.RowKit Lb
theorem getD_past (l : List Nat) (k : Nat) (h : ¬ k < l.length) : l.getD k 0 = 0 := by simp [List.getD, List.getElem?_eq_none (show l.length ≤ k by omega)]
end Go.Proofs.YtinjikoocegooaaGreatDoor.Li
set_option linter.unusedVariables false
set_option linter.unusedSimpArgs false
namespace Go.Proofs.YtinjikoocegooaaGreatDoor.Li
open Go.RowKit Lb
theorem subw (x y t : Nat) (hx : x < 4294967296) (hy : y < 4294967296) (ht : t ≤ 1) : ∃ z c : Nat, IntKind.u64.wrap (IntKind.u64.wrap ((x : Int) - (y : Int)) - (t : Int)) % 4294967296 = (z : Int) ∧
    bits BinOp.and IntKind.u64 (IntKind.u64.wrap (IntKind.u64.wrap ((x : Int) - (y : Int)) - (t : Int)) / 4294967296) 1 = (c : Int) ∧ z < 4294967296 ∧ c ≤ 1 ∧ z + y + t = x + c * 4294967296 := by
  obtain ⟨d, hd, hdl, hdv⟩ : ∃ d : Nat, IntKind.u64.wrap (IntKind.u64.wrap ((x : Int) - (y : Int)) - (t : Int)) = (d : Int) ∧ d < 18446744073709551616 ∧ (d + y + t = x ∨ d + y + t = x + 18446744073709551616) := by
    refine ⟨(IntKind.u64.wrap (IntKind.u64.wrap ((x : Int) - (y : Int)) - (t : Int))).toNat, ?_, ?_, ?_⟩ <;> (rw [IntKind.wrap_u64, IntKind.wrap_u64]; omega)
  rw [hd]
  have hb := u64_and_nat (d / 4294967296) 1 (by omega) (by omega)
  rw [Nat.and_one_is_mod] at hb
  refine ⟨d % 4294967296, d / 4294967296 % 2, by omega, by rw [← hb]; simp, by omega, by omega, ?_⟩
  omega
theorem subw1 (x t : Nat) (hx : x < 4294967296) (ht : t ≤ 1) : ∃ z c : Nat, IntKind.u64.wrap ((x : Int) - (t : Int)) % 4294967296 = (z : Int) ∧
    bits BinOp.and IntKind.u64 (IntKind.u64.wrap ((x : Int) - (t : Int)) / 4294967296) 1 = (c : Int) ∧ z < 4294967296 ∧ c ≤ 1 ∧ z + t = x + c * 4294967296 := by
  obtain ⟨d, hd, hdl, hdv⟩ : ∃ d : Nat, IntKind.u64.wrap ((x : Int) - (t : Int)) = (d : Int) ∧ d < 18446744073709551616 ∧ (d + t = x ∨ d + t = x + 18446744073709551616) := by
    refine ⟨(IntKind.u64.wrap ((x : Int) - (t : Int))).toNat, ?_, ?_, ?_⟩ <;> (rw [IntKind.wrap_u64]; omega)
  rw [hd]
  have hb := u64_and_nat (d / 4294967296) 1 (by omega) (by omega)
  rw [Nat.and_one_is_mod] at hb
  refine ⟨d % 4294967296, d / 4294967296 % 2, by omega, by rw [← hb]; simp, by omega, by omega, ?_⟩
  omega
theorem subStep (X V B A t x y z c : Nat) (h : z + y + t = x + c * 4294967296) (hv : V + B = A + t * X) : (V + X * z) + (B + y * X) = (A + x * X) + c * (X * 4294967296) := by
  have h2 : (z + y + t) * X = (x + c * 4294967296) * X := by rw [h]
  grind
set_option maxRecDepth 100000 in
set_option maxHeartbeats 800000 in
theorem take_any (g : Nat) (b : Option Addr) (cb n c : Nat) (r lb : List Nat) (w : World) (hrl : r.length ≤ 70368744177664) (hn : n ≤ r.length) (hrow : Row w g r) (hrb : Rd w b lb) (hoff : Off g b lb) (hm : Lim r) (hmb : Lim lb)
    (hfit : lb.length ≤ n) (hge : val lb ≤ val (r.take n)) :
    Calls Tryz.prog 53 #[.slice (some ⟨g, 0, none⟩) n c, .slice b lb.length cb] w fun e w' => e = .returned (.tuple #[]) ∧ ∃ q, Row w' g (q ++ r.drop n) ∧ q.length = n ∧ Lim q ∧ val q + val lb = val (r.take n) ∧ Mut g w w' := by
  go_enter Tryz.func53, Tryz.ntmps53
  go_wp2_with fail
  go_loopw [4, 11] (fun c i wr => ∃ (k t : Nat) (q : List Nat), k ≤ lb.length ∧ t ≤ 1 ∧ i = .int .i64 k ∧ c = .int .u64 t ∧ Row wr g (q ++ r.drop k) ∧ Hid (q.length = k) ∧ Lim q ∧ Hid (val q + val (lb.take k) = val (r.take k) + t * 4294967296 ^ k) ∧ Mut g w wr) (fun _ i _ => lb.length - (intOf i).toNat)
  case atStart => exact ⟨0, 0, [], by omega, by omega, rfl, rfl, by simpa using hrow, rfl, by intro y hy; simp at hy, by show _ = _; simp [val], Mut.refl _ _⟩
  case round =>
    obtain ⟨k, t, q, hk, ht, rfl, rfl, hrk, hql, hmq, hv, hmut⟩ := hrel
    by_cases hkl : k < lb.length
    · obtain ⟨b1, o1, rfl, hc1⟩ := (hrb.mut hmut hoff) k hkl
      have hc := hrk.cell k (by have := hql.out; simp; omega)
      rw [get_at q r k hql.out (by omega)] at hc
      have hfz := hrk.frozen k
      obtain ⟨x, hx⟩ : ∃ x, r.getD k 0 = x := ⟨_, rfl⟩
      obtain ⟨y, hy⟩ : ∃ y, lb.getD k 0 = y := ⟨_, rfl⟩
      have hxl : x < 4294967296 := hx ▸ Lim_getD hm _
      have hyl : y < 4294967296 := hy ▸ Lim_getD hmb _
      rw [hx] at hc
      rw [hy] at hc1
      have Hx : Hid (r.getD k 0 = x) := hx; clear hx
      have Hy : Hid (lb.getD k 0 = y) := hy; clear hy
      go_wp2
      go_quiet (fail)
      have hmut1 : Mut g w (wr.drewN nq) := hmut.drewN nq
      have hrk1 : Row (wr.drewN nq) g (q ++ r.drop k) := hrk
      have hc2' : (wr.drewN nq).cell? _ = _ := hc
      have hfz' : (wr.drewN nq).frozen? _ = _ := hfz
      clear hc1 hc hfz hmut hrk
      generalize wr.drewN nq = w1 at hmut1 hrk1 hc2' hfz' ⊢
      go_wp2
      go_roundw
      case rel =>
        obtain ⟨z, c, e1, e2, hz, hc, he⟩ := subw x y t hxl hyl ht
        rw [e1, e2]
        refine ⟨k + 1, c, q ++ [z], by omega, hc, by go_num, rfl, ?_, ?_, Lim_snoc hmq _ hz, ?_, hmut1.setCell _ _⟩
        · have h1 := hrk1.set k z
          rw [set_at q r k _ hql.out (by omega)] at h1
          exact h1
        · show _ = _
          have := hql.out
          simp; omega
        · show _ = _
          rw [val_snoc, hql.out, val_take_succ lb, val_take_succ r, Hx.out, Hy.out, Nat.pow_succ]
          exact subStep _ _ _ _ _ _ _ _ _ he hv.out
      case measure => simp [intOf]; omega
    · have hke : k = lb.length := by omega
      subst hke
      rw [List.take_of_length_le (Nat.le_refl _)] at hv
      go_wp2
      go_loopw [4, 7] (fun c i wr => ∃ (j t : Nat) (q : List Nat), j ≤ n ∧ t ≤ 1 ∧ i = .int .i64 j ∧ c = .int .u64 t ∧ Row wr g (q ++ r.drop j) ∧ Hid (q.length = j) ∧ Lim q ∧ Hid (val q + val lb = val (r.take j) + t * 4294967296 ^ j) ∧ Mut g w wr) (fun _ i _ => n - (intOf i).toNat)
      case atStart => exact ⟨lb.length, t, q, hfit, ht, rfl, rfl, hrk, hql, hmq, hv, hmut⟩
      case round =>
        clear hv hmut hmq hql hrk hkl hk ht
        obtain ⟨j, t, q, hj, ht, rfl, rfl, hrk, hql, hmq, hv, hmut⟩ := hrel
        by_cases ht0 : 0 < t
        · have hjl : j < n := by
            rcases Nat.lt_or_ge j n with h | h
            · exact h
            · exfalso
              have h1 := hv.out
              have h2 := val_lt hmq
              rw [hql.out] at h2
              have h3 : 4294967296 ^ j ≤ t * 4294967296 ^ j := Nat.le_mul_of_pos_left _ ht0
              rw [show j = n by omega] at h1 h2 h3
              omega
          have hc := hrk.cell j (by have := hql.out; simp; omega)
          rw [get_at q r j hql.out (by omega)] at hc
          have hfz := hrk.frozen j
          obtain ⟨x, hx⟩ : ∃ x, r.getD j 0 = x := ⟨_, rfl⟩
          have hxl : x < 4294967296 := hx ▸ Lim_getD hm _
          rw [hx] at hc
          have Hx : Hid (r.getD j 0 = x) := hx; clear hx
          go_wp2
          go_roundw
          case rel =>
            obtain ⟨z, c, e1, e2, hz, hc, he⟩ := subw1 x t hxl ht
            rw [e1, e2]
            refine ⟨j + 1, c, q ++ [z], by omega, hc, by go_num, rfl, ?_, ?_, Lim_snoc hmq _ hz, ?_, hmut.setCell _ _⟩
            · have h1 := hrk.set j z
              rw [set_at q r j _ hql.out (by omega)] at h1
              exact h1
            · show _ = _
              have := hql.out
              simp; omega
            · show _ = _
              rw [val_snoc, hql.out, val_take_succ r, Hx.out, Nat.pow_succ]
              have := subStep (4294967296 ^ j) (val q) (val lb) (val (r.take j)) t x 0 z c (by omega) hv.out
              omega
          case measure => simp [intOf]; omega
        · go_wp2
          go_end0
          have ht1 : t = 0 := by omega
          subst ht1
          have hq := hql.out
          have hsplit : r.take n = r.take j ++ (r.drop j).take (n - j) := by
            rw [← List.take_append_drop j (r.take n), List.take_take, List.drop_take, Nat.min_eq_left hj]
          refine ⟨rfl, q ++ (r.drop j).take (n - j), ?_, by simp; omega, ?_, ?_, hmut⟩
          · rw [List.append_assoc]
            have : (r.drop j).take (n - j) ++ r.drop n = r.drop j := by
              have h1 : r.drop n = (r.drop j).drop (n - j) := by rw [List.drop_drop]; congr 1; omega
              rw [h1, List.take_append_drop]
            rw [this]
            exact hrk
          · intro y hy
            rcases List.mem_append.1 hy with hy | hy
            · exact hmq y hy
            · exact hm y (List.mem_of_mem_drop (List.mem_of_mem_take hy))
          · have h1 := hv.out
            rw [hsplit, val_append, val_append, hq, show (r.take j).length = j by simp; omega]
            omega
set_option maxRecDepth 100000 in
set_option maxHeartbeats 400000 in
theorem difference_any (a b : Option Addr) (ca cb : Nat) (la lb : List Nat) (w : World) (hla : la.length ≤ 70368744177664) (hra : Rd w a la) (hrb : Rd w b lb) (hma : Lim la) (hmb : Lim lb) (hfit : lb.length ≤ la.length) (hge : val lb ≤ val la) :
    Calls Tryz.prog 35 #[.slice a la.length ca, .slice b lb.length cb] w fun e w' => ∃ v, e = .returned v ∧ NatR w.heap.size w' v (val la - val lb) ∧ Keep w w' := by
  have hf := fresh_any a ca la w hla hra
  go_enter Tryz.func35, Tryz.ntmps35
  go_wp2_with fail
  refine hf.mono ?_
  rintro e w1 ⟨rfl, hrow, hk, hsz⟩
  have hT := take_any w.heap.size b cb la.length la.length la lb w1 hla (Nat.le_refl _) hrow (hrb.keep hk) (Off.of_lt hrb (Nat.le_refl _)) hma hmb hfit (by rw [List.take_of_length_le (Nat.le_refl _)]; exact hge)
  rw [List.take_of_length_le (Nat.le_refl _), List.drop_eq_nil_of_le (Nat.le_refl _)] at hT
  go_wp2_with fail
  refine hT.mono ?_
  rintro e w2 ⟨rfl, q, hrq, hql, hmq, hvq, hmu⟩
  rw [List.append_nil] at hrq
  have hT2 := trim_any (some ⟨w.heap.size, 0, none⟩) q.length q w2 (Nat.le_refl _) (by omega) hrq.rd0
  rw [hql] at hT2
  clear hT hf
  go_wp2_with fail
  refine hT2.mono ?_
  rintro e w3 ⟨rfl, rfl⟩
  go_wp2
  go_ret
  refine ⟨_, rfl, ?_, hk.mut hmu (Nat.le_refl _)⟩
  have h1 := NatR.of_trim (hrq.res (B := w.heap.size) (Nat.le_refl _)) hmq
  rw [hql, show val q = val la - val lb by omega] at h1
  exact h1
end Go.Proofs.YtinjikoocegooaaGreatDoor.Li
set_option linter.unusedVariables false
set_option linter.unusedSimpArgs false
namespace Go.Proofs.YtinjikoocegooaaGreatDoor.Li
open Go.RowKit Lb
set_option maxRecDepth 100000 in
set_option maxHeartbeats 800000 in
theorem addTimes_any (g o : Nat) (a : Option Addr) (ca c f : Nat) (r la : List Nat) (w : World) (hrl : r.length ≤ 70368744177664) (hrow : Row w g r) (hra : Rd w a la) (hoff : Off g a la) (hm : Lim r) (hma : Lim la) (hf : f < 4294967296)
    (hfit : o + la.length ≤ r.length) :
    Calls Tryz.prog 98 #[.slice (some ⟨g, o, none⟩) la.length c, .slice a la.length ca, .int .u32 (f : Nat)] w fun e w' => ∃ (t : Nat) (r' : List Nat), e = .returned (.int .u32 (t : Nat)) ∧ t < 4294967296 ∧ Row w' g r' ∧ r'.length = r.length ∧ Lim r' ∧ r'.drop (o + la.length) = r.drop (o + la.length) ∧ val r' + t * 4294967296 ^ (o + la.length) = val r + 4294967296 ^ o * (f * val la) ∧ Mut g w w' := by
  go_enter Tryz.func98, Tryz.ntmps98
  go_wp2_with fail
  go_loopw [7, 11] (fun c i wr => ∃ (k t : Nat) (rk : List Nat), k ≤ la.length ∧ t < 4294967296 ∧ i = .int .i64 k ∧ c = .int .u64 t ∧ Row wr g rk ∧ Hid (rk.length = r.length) ∧ Lim rk ∧ Hid (rk.drop (o + k) = r.drop (o + k)) ∧ Hid (val rk + t * 4294967296 ^ (o + k) = val r + 4294967296 ^ o * (f * val (la.take k))) ∧ Mut g w wr) (fun _ i _ => la.length - (intOf i).toNat)
  case atStart => exact ⟨0, 0, r, by omega, by omega, rfl, rfl, hrow, rfl, hm, rfl, by show _ = _; simp [val], Mut.refl _ _⟩
  case round =>
    obtain ⟨k, t, rk, hk, ht, rfl, rfl, hrk, hlen, hmk, hdr, hv, hmut⟩ := hrel
    by_cases hkl : k < la.length
    · obtain ⟨b1, o1, rfl, hc1⟩ := (hra.mut hmut hoff) k hkl
      have hc2 := hrk.cell (o + k) (by rw [hlen.out]; omega)
      have hfz := hrk.frozen (o + k)
      obtain ⟨x, hx⟩ : ∃ x, rk.getD (o + k) 0 = x := ⟨_, rfl⟩
      obtain ⟨y, hy⟩ : ∃ y, la.getD k 0 = y := ⟨_, rfl⟩
      have hxl : x < 4294967296 := hx ▸ Lim_getD hmk _
      have hyl : y < 4294967296 := hy ▸ Lim_getD hma _
      rw [hx] at hc2
      rw [hy] at hc1
      have Hx : Hid (rk.getD (o + k) 0 = x) := hx; clear hx
      have Hy : Hid (la.getD k 0 = y) := hy; clear hy
      have hp := prodB y f hyl hf
      have hpi : (y : Int) * (f : Int) ≤ 18446744065119617025 := by rw [← Int.natCast_mul]; omega
      have hpi0 : 0 ≤ (y : Int) * (f : Int) := by rw [← Int.natCast_mul]; omega
      go_wp2
      go_quiet (fail)
      have hmut1 : Mut g w (wr.drewN nq) := hmut.drewN nq
      have hrk1 : Row (wr.drewN nq) g rk := hrk
      have hc2' : (wr.drewN nq).cell? _ = _ := hc2
      have hfz' : (wr.drewN nq).frozen? _ = _ := hfz
      clear hc1 hc2 hfz hmut hrk
      generalize wr.drewN nq = w1 at hmut1 hrk1 hc2' hfz' ⊢
      go_wp2
      go_roundw
      case rel =>
        refine ⟨k + 1, (t + (x + y * f)) / 4294967296, rk.set (o + k) ((t + (x + y * f)) % 4294967296), by omega, by omega, by go_num, by simp, ?_, ?_, Lim_set hmk _ _ (by omega), ?_, ?_, hmut1.setCell _ _⟩
        · have h1 := hrk1.set (o + k) ((t + (x + y * f)) % 4294967296); simpa using h1
        · show _ = _
          rw [List.length_set]; exact hlen.out
        · show _ = _
          have h1 : rk.drop (o + (k + 1)) = r.drop (o + (k + 1)) := by
            rw [← Nat.add_assoc, ← List.drop_drop, hdr.out, List.drop_drop]
          rw [List.drop_set_of_lt (by omega)]
          exact h1
        · show _ = _
          have h1 := addStep rk (o + k) t x (y * f) _ (by rw [hlen.out]; omega) Hx.out hv.out
          rw [show o + (k + 1) = o + k + 1 from rfl, h1, val_take_succ, Hy.out, Nat.pow_add]
          grind
      case measure => simp [intOf]; omega
    · have hke : k = la.length := by omega
      subst hke
      rw [List.take_of_length_le (Nat.le_refl _)] at hv
      go_wp2
      go_ret
      exact ⟨t, rk, ret_int (by omega), ht, hrk, hlen.out, hmk, hdr.out, hv.out, hmut⟩
/-- A natural without needless limbs at the head of a block of the call's own, which is all limbs. -/
def NatS (B : Nat) (w : World) (v : Value) (n : Nat) : Prop := ∃ g r l, v = .slice (some ⟨g, 0, none⟩) l.length r.length ∧ B ≤ g ∧ Row w g r ∧ l.length ≤ r.length ∧ r.take l.length = l ∧ r.length ≤ 70368744177664 ∧ Lim r ∧ Lim l ∧ Nrm l ∧ val l = n
theorem NatS.natR {B : Nat} {w : World} {v : Value} {n : Nat} (h : NatS B w v n) : NatR B w v n := by
  obtain ⟨g, r, l, h1, h2, h3, h4, h5, h10, h6, h7, h8, h9⟩ := h
  exact ⟨l, .inr ⟨g, r, h1, h2, h3, h4, h5⟩, h7, h8, h9⟩
theorem NatS.mono {B B' : Nat} {w : World} {v : Value} {n : Nat} (h : NatS B w v n) (hB : B' ≤ B) : NatS B' w v n := by
  obtain ⟨g, r, l, h1, h2, h3⟩ := h
  exact ⟨g, r, l, h1, by omega, h3⟩
theorem NatS.keep {B : Nat} {w w' : World} {v : Value} {n : Nat} (h : NatS B w v n) (k : Keep w w') : NatS B w' v n := by
  obtain ⟨g, r, l, h1, h2, h3, h4⟩ := h
  exact ⟨g, r, l, h1, h2, h3.keep k, h4⟩
theorem NatS.of_row {B g : Nat} {w : World} {r : List Nat} (h : Row w g r) (hB : B ≤ g) (hm : Lim r) (hl : r.length ≤ 70368744177664) : NatS B w (.slice (some ⟨g, 0, none⟩) (nl r) r.length) (val r) := by
  have h1 := nl_le r
  have e : (r.take (nl r)).length = nl r := by simp; omega
  exact ⟨g, r, r.take (nl r), by rw [e], hB, h, by omega, by rw [e], hl, hm, Lim_take hm _, Nrm_take _, val_take_nl r⟩
set_option maxRecDepth 100000 in
theorem slice32 (wx : World) (b o n c k m : Nat) (hk : k + m ≤ c) (hc : ¬ c = k) : (Instr.slice 34 (.slice (some ⟨b, o, none⟩) n c) (some (.int .i64 (k : Int))) (some (.int .i64 ((k : Int) + (m : Int)))) none).run Tryz.prog wx = .ok (.slice (some ⟨b, o + k, none⟩) m (c - k)) wx := by
  rw [run_slice_lh (P := Tryz.prog) wx 34 (some ⟨b, o, none⟩) n c Tryz.underlying34 .i64 .i64 k (k + m) (by omega) (by omega) (by omega)]
  have e1 : ((k : Int) + (m : Int)).toNat = k + m := by omega
  have e2 : (sizeOf (Tryz.prog.elem 34)).run Tryz.prog wx = .ok 1 wx := by kernel_rfl
  rw [e2]
  simp [Result.andThen, sliced, hc, e1, Addr.add_lit]
set_option maxRecDepth 100000 in
set_option maxHeartbeats 800000 in
theorem byLimbs_any (a b : Option Addr) (ca cb : Nat) (la lb : List Nat) (w : World) (hla : la.length ≤ 35184372088832) (hlb : lb.length ≤ 35184372088832) (hra : Rd w a la) (hrb : Rd w b lb) (hma : Lim la) (hmb : Lim lb) :
    Calls Tryz.prog 73 #[.slice a la.length ca, .slice b lb.length cb] w fun e w' => ∃ v, e = .returned v ∧ NatS w.heap.size w' v (val la * val lb) ∧ Keep w w' := by
  obtain ⟨N, hN⟩ : ∃ N, la.length + lb.length = N := ⟨_, rfl⟩
  have hsz : N ≤ 70368744177664 := by omega
  have hNi : (la.length : Int) + (lb.length : Int) = (N : Int) := by omega
  have HN : Hid (la.length + lb.length = N) := hN
  clear hN
  go_enter Tryz.func73, Tryz.ntmps73
  go_wp2_with (at_make; refine wpList_make32 _ rfl _ _ rfl _ _ _ _ N rfl rfl rfl rfl hsz ?_; intro w1 hrow hk hsz1)
  clear hNi
  go_loopw [15] (fun i wr => ∃ (k : Nat) (rk : List Nat), k ≤ lb.length ∧ i = .int .i64 k ∧ Row wr w.heap.size rk ∧ Hid (rk.length = N) ∧ Lim rk ∧ Hid (rk.drop (k + la.length) = List.replicate (lb.length - k) 0) ∧ Hid (val rk = val la * val (lb.take k)) ∧ Keep w wr) (fun i _ => lb.length - (intOf i).toNat)
  case atStart => exact ⟨0, _, by omega, rfl, hrow, by show _ = _; simp, by intro x hx; simp at hx; omega, by show _ = _; rw [← HN.out]; simp, by show _ = _; rw [val_zeros _ (by intro j; simp [List.getD, List.getElem?_replicate]; split <;> rfl)]; simp [val], hk⟩
  case round =>
    obtain ⟨k, rk, hkk, rfl, hrk, hlen, hmk, hdr, hv, hkp⟩ := hrel
    have hla1 : k < lb.length → k + la.length < N := by have := HN.out; omega
    by_cases hkl : k < lb.length
    · obtain ⟨b1, o1, rfl, hc1⟩ := (hrb.keep hkp) k hkl
      have hlaN := hla1 hkl
      obtain ⟨y, hy⟩ : ∃ y, lb.getD k 0 = y := ⟨_, rfl⟩
      have hyl : y < 4294967296 := hy ▸ Lim_getD hmb _
      rw [hy] at hc1
      have Hy : Hid (lb.getD k 0 = y) := hy; clear hy
      have hA := fun wx (hr : Row wx w.heap.size rk) (hx : Rd wx a la) => addTimes_any w.heap.size k a ca (N - k) y rk la wx (by rw [hlen.out]; omega) hr hx (Off.of_lt hra (Nat.le_refl _)) hmk hma hyl (by rw [hlen.out]; omega)
      have hsl := fun wx => slice32 wx w.heap.size 0 N N k la.length (by omega) (by omega)
      rw [Nat.zero_add] at hsl
      have hwrap : IntKind.i64.wrap ((k : Int) + (la.length : Int)) = (k : Int) + (la.length : Int) := by rw [IntKind.wrap_i64]; omega
      have htn : ((k : Int) + (la.length : Int)).toNat = k + la.length := by omega
      have hdl : decide (0 ≤ (k : Int) + (la.length : Int)) = true := by simp; omega
      have hra1 := hra.keep hkp
      have hF : ∀ (wx : World) (r' : List Nat), Row wx w.heap.size r' → r'.length = rk.length → (∃ u : Nat, wx.cell? ⟨w.heap.size, k + la.length, none⟩ = some (.int .u32 (u : Nat))) ∧ wx.frozen? ⟨w.heap.size, k + la.length, none⟩ = false := fun wx r' h1 h2 =>
        ⟨⟨_, h1.cell (k + la.length) (by rw [h2, hlen.out]; omega)⟩, h1.frozen _⟩
      go_wp2
      go_region_with (go_at_call 98; refine (hA _ ?_ ?_).mono ?_; exact hrk; exact hra1; rintro e w3 ⟨t, r', rfl, htl, hr3, hl3, hm3, hd3, hv3, hmu3⟩; obtain ⟨⟨u, hu⟩, hfz⟩ := hF _ _ hr3 hl3)
      all_goals go_wp2
      all_goals
        refine ⟨⟨k + 1, r'.set (k + la.length) t, by omega, by go_num, hr3.set _ _, ?_, Lim_set hm3 _ _ htl, ?_, ?_, ?_⟩, by simp [intOf]; omega⟩
        · show _ = _
          rw [List.length_set, hl3]; exact hlen.out
        · show _ = _
          rw [List.drop_set_of_lt (by omega), show k + 1 + la.length = k + la.length + 1 by omega, ← List.drop_drop, hd3, hdr.out]
          simp
          omega
        · show _ = _
          have h0 : r'.getD (k + la.length) 0 = 0 := by
            have h1 : (r'.drop (k + la.length)).getD 0 0 = 0 := by rw [hd3, hdr.out]; simp [List.getD, List.getElem?_replicate]; split <;> rfl
            simpa [List.getD] using h1
          have h1 := val_set r' (k + la.length) t (by rw [hl3, hlen.out]; omega)
          rw [h0] at h1
          rw [hv.out] at hv3
          rw [val_take_succ, Hy.out]
          grind
        · exact (hkp.drew.mut hmu3 (Nat.le_refl _)).setCell (Nat.le_refl _) _
    · have hke : k = lb.length := by omega
      subst hke
      rw [List.take_of_length_le (Nat.le_refl _)] at hv
      have hT := trim_any (some ⟨w.heap.size, 0, none⟩) rk.length rk wr (Nat.le_refl _) (by rw [hlen.out]; omega) hrk.rd0
      rw [hlen.out] at hT
      go_wp2_with fail
      refine hT.mono ?_
      rintro e w3 ⟨rfl, rfl⟩
      go_wp2
      go_ret
      refine ⟨_, rfl, ?_, hkp⟩
      have h1 := NatS.of_row hrk (Nat.le_refl w.heap.size) hmk (by rw [hlen.out]; omega)
      rw [hlen.out, hv.out] at h1
      exact h1
end Go.Proofs.YtinjikoocegooaaGreatDoor.Li
set_option linter.unusedVariables false
set_option linter.unusedSimpArgs false
namespace Go.Proofs.YtinjikoocegooaaGreatDoor.Li
open Go.RowKit Lb
/-- What product does, up to so many limbs. -/
def ProductSaid (M : Nat) : Prop := ∀ (a b : Option Addr) (ca cb : Nat) (la lb : List Nat) (w : World), la.length ≤ M → lb.length ≤ M → la.length ≤ ca → lb.length ≤ cb → la.length ≤ 35184372088832 → lb.length ≤ 35184372088832 → Rd w a la → Rd w b lb → Lim la → Lim lb →
    Calls Tryz.prog 48 #[.slice a la.length ca, .slice b lb.length cb] w fun e w' => ∃ v, e = .returned v ∧ NatS w.heap.size w' v (val la * val lb) ∧ Keep w w'
theorem val_take_add (l : List Nat) (k m : Nat) (h : k ≤ l.length) : val (l.take (k + m)) = val (l.take k) + 4294967296 ^ k * val ((l.drop k).take m) := by
  have : l.take (k + m) = l.take k ++ (l.drop k).take m := by rw [List.take_add]
  rw [this, val_append, show (l.take k).length = k by simp; omega]
theorem len_le_pow {l : List Nat} (n : Nrm l) (k : Nat) (h : val l < 4294967296 ^ k) : l.length ≤ k := by
  rcases Nat.lt_or_ge k l.length with h1 | h1
  · have h2 := val_ge n (by intro h0; simp [h0] at h1)
    have h3 : 4294967296 ^ k ≤ 4294967296 ^ (l.length - 1) := Nat.pow_le_pow_right (by omega) (by omega)
    omega
  · exact h1
theorem Rd.drop {w : World} {b o : Nat} {l : List Nat} (h : Rd w (some ⟨b, o, none⟩) l) (k : Nat) : Rd w (some ⟨b, o + k, none⟩) (l.drop k) := by
  intro j hj
  have h1 : k + j < l.length := by simp at hj; omega
  obtain ⟨b', o', e, hc⟩ := h (k + j) h1
  simp only [Option.some.injEq, Addr.mk.injEq, and_true] at e
  obtain ⟨rfl, rfl⟩ := e
  refine ⟨b, o + k, rfl, ?_⟩
  rw [Nat.add_assoc, hc]
  simp [List.getD]
set_option maxRecDepth 100000 in
set_option maxHeartbeats 1600000 in
theorem byPieces_any (M : Nat) (hP : ProductSaid M) (b1 o1 : Nat) (b : Option Addr) (ca cb : Nat) (la lb : List Nat) (w : World) (hM : lb.length ≤ M) (hca : la.length ≤ ca) (hcb : lb.length ≤ cb) (hla : la.length ≤ 35184372088832) (hlb : lb.length ≤ 35184372088832) (hb0 : 0 < lb.length) (hra : Rd w (some ⟨b1, o1, none⟩) la) (hrb : Rd w b lb) (hma : Lim la) (hmb : Lim lb) :
    Calls Tryz.prog 74 #[.slice (some ⟨b1, o1, none⟩) la.length ca, .slice b lb.length cb] w fun e w' => ∃ v, e = .returned v ∧ NatS w.heap.size w' v (val la * val lb) ∧ Keep w w' := by
  obtain ⟨N, hN⟩ : ∃ N, la.length + lb.length = N := ⟨_, rfl⟩
  have hsz : N ≤ 70368744177664 := by omega
  have hNi : (la.length : Int) + (lb.length : Int) = (N : Int) := by omega
  have HN : Hid (la.length + lb.length = N) := hN
  clear hN
  go_enter Tryz.func74, Tryz.ntmps74
  go_wp2_with (at_make; refine wpList_make32 _ rfl _ _ rfl _ _ _ _ N rfl rfl rfl rfl hsz ?_; intro w1 hrow hk hsz1)
  clear hNi
  go_loopw [6] (fun i wr => ∃ (k : Nat) (rk : List Nat), k ≤ N ∧ i = .int .i64 k ∧ Row wr w.heap.size rk ∧ Hid (rk.length = N) ∧ Lim rk ∧ Hid (val rk = val (la.take k) * val lb) ∧ Keep w wr) (fun i _ => N - (intOf i).toNat)
  case atStart => exact ⟨0, _, by omega, rfl, hrow, by show _ = _; simp, by intro x hx; simp at hx; omega, by show _ = _; rw [val_zeros _ (by intro j; simp [List.getD, List.getElem?_replicate]; split <;> rfl)]; simp [val], hk⟩
  case round =>
    obtain ⟨k, rk, hkk, rfl, hrk, hlen, hmk, hv, hkp⟩ := hrel
    by_cases hkl : k < la.length
    · have hra1 := hra.keep hkp
      have hrb1 := hrb.keep hkp
      have hkN : k + lb.length ≤ N := by have := HN.out; omega
      by_cases hc : k + lb.length ≤ la.length
      · have hci : ¬ (la.length : Int) < (k : Int) + (lb.length : Int) := by omega
        have hpl : ((la.drop k).take (lb.length)).length = lb.length := by rw [List.length_take, List.length_drop]; omega
        have hrp := (hra1.drop k).take (lb.length)
        have hmp : Lim ((la.drop k).take (lb.length)) := Lim_take (Lim_drop hma k) _
        have hT := trim_any (some ⟨b1, o1 + k, none⟩) (ca - k) ((la.drop k).take (lb.length)) wr (by rw [hpl]; omega) (by rw [hpl]; omega) hrp
        rw [hpl] at hT
        have hnl := nl_le ((la.drop k).take (lb.length))
        rw [hpl] at hnl
        have hne : ¬ ca = k := by omega
        go_wp2_with fail
        rw [show (min ((k : Int) + (lb.length : Int)) (la.length : Int)).toNat - k = lb.length from by omega]
        refine hT.mono ?_
        rintro e w2 ⟨rfl, rfl⟩
        clear hT
        have hel : (((la.drop k).take (lb.length)).take (nl ((la.drop k).take (lb.length)))).length = nl ((la.drop k).take (lb.length)) := by rw [List.length_take, hpl]; omega
        have hPr := hP (some ⟨b1, o1 + k, none⟩) b (ca - k) cb (((la.drop k).take (lb.length)).take (nl ((la.drop k).take (lb.length)))) lb w2 (by rw [hel]; omega) hM (by rw [hel]; omega) hcb (by rw [hel]; omega) hlb (hrp.take _) hrb1 (Lim_take hmp _) hmb
        rw [hel, val_take_nl] at hPr
        go_wp2_with fail
        refine hPr.mono ?_
        rintro e w3 ⟨v, rfl, ⟨gp, rp, lp, rfl, hgp, hrowp, hlp1, hlp2, -, hlimr, hlimp, hnp, hvp⟩, hk3⟩
        clear hPr
        have hvl := val_lt hmp
        rw [hpl] at hvl
        have hvb := val_lt hmb
        have hrk3 := hrk.keep hk3
        have hrdp : Rd w3 (some ⟨gp, 0, none⟩) lp := by have := hrowp.rd 0 lp.length (by omega); rw [List.drop_zero, hlp2] at this; exact this
        have hoffp : Off w.heap.size (some ⟨gp, 0, none⟩) lp := by
          intro b' o' s' e' _
          simp at e'
          have := hrk.lt
          omega
        have hlpl : lp.length ≤ lb.length + lb.length := len_le_pow hnp _ (by
          rw [hvp, Nat.pow_add]
          have h0 : 0 < 4294967296 ^ lb.length := Nat.pos_of_ne_zero (by simp)
          exact Nat.lt_of_lt_of_le (Nat.mul_lt_mul_of_lt_of_le hvl (Nat.le_of_lt hvb) h0) (Nat.le_refl _))
        have hNN := HN.out
        have hstep : val rk + 4294967296 ^ k * val lp = val (la.take (k + lb.length)) * val lb := by
          rw [hv.out, hvp, val_take_add la k (lb.length) (by omega)]
          grind
        have hroom : val rk + 4294967296 ^ k * val lp < 4294967296 ^ rk.length := by
          rw [hstep, hlen.out, ← hNN, Nat.pow_add]
          have h1 := val_lt (Lim_take hma (k + lb.length))
          have h2 : 4294967296 ^ (la.take (k + lb.length)).length ≤ 4294967296 ^ la.length := Nat.pow_le_pow_right (by omega) (by rw [List.length_take]; omega)
          have h0 : 0 < 4294967296 ^ lb.length := Nat.pos_of_ne_zero (by simp)
          exact Nat.mul_lt_mul_of_lt_of_le (by omega) (Nat.le_of_lt hvb) h0
        have hA := addAt_any w.heap.size (some ⟨gp, 0, none⟩) rp.length k rk lp w3 (by rw [hlen.out]; omega) hrk3 hrdp hoffp hmk hlimp (by rw [hlen.out]; omega) hroom
        rw [hlen.out] at hA
        have Hstep : Hid (val rk + 4294967296 ^ k * val lp = val (la.take (k + lb.length)) * val lb) := hstep
        clear hstep hroom hNN
        go_wp2_with fail
        refine hA.mono ?_
        rintro e w4 ⟨rfl, r', hr4, hl4, hm4, hv4, hmu4⟩
        clear hA
        go_wp2_with fail
        go_roundw
        case rel =>
          refine ⟨k + lb.length, r', by have := HN.out; omega, by go_num, hr4, hl4, hm4, ?_, (hkp.trans hk3).mut hmu4 (Nat.le_refl _)⟩
          show _ = _
          rw [hv4, Hstep.out]
        case measure => simp [intOf]; omega
      · have hci : (la.length : Int) < (k : Int) + (lb.length : Int) := by omega
        have hpl : ((la.drop k).take (la.length - k)).length = la.length - k := by rw [List.length_take, List.length_drop]; omega
        have hrp := (hra1.drop k).take (la.length - k)
        have hmp : Lim ((la.drop k).take (la.length - k)) := Lim_take (Lim_drop hma k) _
        have hT := trim_any (some ⟨b1, o1 + k, none⟩) (ca - k) ((la.drop k).take (la.length - k)) wr (by rw [hpl]; omega) (by rw [hpl]; omega) hrp
        rw [hpl] at hT
        have hnl := nl_le ((la.drop k).take (la.length - k))
        rw [hpl] at hnl
        have hne : ¬ ca = k := by omega
        go_wp2_with fail
        rw [show (min ((k : Int) + (lb.length : Int)) (la.length : Int)).toNat - k = la.length - k from by omega]
        refine hT.mono ?_
        rintro e w2 ⟨rfl, rfl⟩
        clear hT
        have hel : (((la.drop k).take (la.length - k)).take (nl ((la.drop k).take (la.length - k)))).length = nl ((la.drop k).take (la.length - k)) := by rw [List.length_take, hpl]; omega
        have hPr := hP (some ⟨b1, o1 + k, none⟩) b (ca - k) cb (((la.drop k).take (la.length - k)).take (nl ((la.drop k).take (la.length - k)))) lb w2 (by rw [hel]; omega) hM (by rw [hel]; omega) hcb (by rw [hel]; omega) hlb (hrp.take _) hrb1 (Lim_take hmp _) hmb
        rw [hel, val_take_nl] at hPr
        go_wp2_with fail
        refine hPr.mono ?_
        rintro e w3 ⟨v, rfl, ⟨gp, rp, lp, rfl, hgp, hrowp, hlp1, hlp2, -, hlimr, hlimp, hnp, hvp⟩, hk3⟩
        clear hPr
        have hvl := val_lt hmp
        rw [hpl] at hvl
        have hvb := val_lt hmb
        have hrk3 := hrk.keep hk3
        have hrdp : Rd w3 (some ⟨gp, 0, none⟩) lp := by have := hrowp.rd 0 lp.length (by omega); rw [List.drop_zero, hlp2] at this; exact this
        have hoffp : Off w.heap.size (some ⟨gp, 0, none⟩) lp := by
          intro b' o' s' e' _
          simp at e'
          have := hrk.lt
          omega
        have hlpl : lp.length ≤ la.length - k + lb.length := len_le_pow hnp _ (by
          rw [hvp, Nat.pow_add]
          have h0 : 0 < 4294967296 ^ lb.length := Nat.pos_of_ne_zero (by simp)
          exact Nat.lt_of_lt_of_le (Nat.mul_lt_mul_of_lt_of_le hvl (Nat.le_of_lt hvb) h0) (Nat.le_refl _))
        have hNN := HN.out
        have hstep : val rk + 4294967296 ^ k * val lp = val (la.take (k + (la.length - k))) * val lb := by
          rw [hv.out, hvp, val_take_add la k (la.length - k) (by omega)]
          grind
        have hroom : val rk + 4294967296 ^ k * val lp < 4294967296 ^ rk.length := by
          rw [hstep, hlen.out, ← hNN, Nat.pow_add]
          have h1 := val_lt (Lim_take hma (k + (la.length - k)))
          have h2 : 4294967296 ^ (la.take (k + (la.length - k))).length ≤ 4294967296 ^ la.length := Nat.pow_le_pow_right (by omega) (by rw [List.length_take]; omega)
          have h0 : 0 < 4294967296 ^ lb.length := Nat.pos_of_ne_zero (by simp)
          exact Nat.mul_lt_mul_of_lt_of_le (by omega) (Nat.le_of_lt hvb) h0
        have hA := addAt_any w.heap.size (some ⟨gp, 0, none⟩) rp.length k rk lp w3 (by rw [hlen.out]; omega) hrk3 hrdp hoffp hmk hlimp (by rw [hlen.out]; omega) hroom
        rw [hlen.out] at hA
        have Hstep : Hid (val rk + 4294967296 ^ k * val lp = val (la.take (k + (la.length - k))) * val lb) := hstep
        clear hstep hroom hNN
        go_wp2_with fail
        refine hA.mono ?_
        rintro e w4 ⟨rfl, r', hr4, hl4, hm4, hv4, hmu4⟩
        clear hA
        go_wp2_with fail
        go_roundw
        case rel =>
          refine ⟨k + lb.length, r', by have := HN.out; omega, by go_num, hr4, hl4, hm4, ?_, (hkp.trans hk3).mut hmu4 (Nat.le_refl _)⟩
          show _ = _
          rw [hv4, Hstep.out]
          rw [List.take_of_length_le (show la.length ≤ k + (la.length - k) by omega), List.take_of_length_le (show la.length ≤ k + lb.length by omega)]
        case measure => simp [intOf]; omega
    · have hT := trim_any (some ⟨w.heap.size, 0, none⟩) rk.length rk wr (Nat.le_refl _) (by rw [hlen.out]; omega) hrk.rd0
      rw [hlen.out] at hT
      go_wp2_with fail
      refine hT.mono ?_
      rintro e w3 ⟨rfl, rfl⟩
      go_wp2_with fail
      go_ret
      refine ⟨_, rfl, ?_, hkp⟩
      have h1 := NatS.of_row hrk (Nat.le_refl w.heap.size) hmk (by rw [hlen.out]; omega)
      rw [hlen.out, hv.out, List.take_of_length_le (by omega)] at h1
      exact h1
end Go.Proofs.YtinjikoocegooaaGreatDoor.Li
set_option linter.unusedVariables false
set_option linter.unusedSimpArgs false
namespace Go.Proofs.YtinjikoocegooaaGreatDoor.Li
open Go.RowKit Lb
set_option maxRecDepth 100000 in
theorem slice32_from (wx : World) (b o ob n c k : Nat) (hk : k ≤ n) (hob : (c = k ∧ ob = o) ∨ (¬ c = k ∧ ob = o + k)) : (Instr.slice 34 (.slice (some ⟨b, o, none⟩) n c) (some (.int .i64 (k : Int))) none none).run Tryz.prog wx = .ok (.slice (some ⟨b, ob, none⟩) (n - k) (c - k)) wx := by
  rw [run_slice_l (P := Tryz.prog) wx 34 (some ⟨b, o, none⟩) n c Tryz.underlying34 .i64 k (by omega) (by omega)]
  have e2 : (sizeOf (Tryz.prog.elem 34)).run Tryz.prog wx = .ok 1 wx := by kernel_rfl
  rw [e2]
  rcases hob with ⟨h1, rfl⟩ | ⟨h1, rfl⟩
  · simp [Result.andThen, sliced, h1]
  · simp [Result.andThen, sliced, h1, Addr.add_lit]
theorem sup_len (ll lh : List Nat) (N h : Nat) (h1 : ll.length ≤ 2 * h) (h2 : lh.length ≤ N - 2 * h) (h3 : 2 * h ≤ N) :
    (((List.replicate N 0).take 0 ++ (ll ++ (List.replicate N 0).drop (0 + ll.length))).take (2 * h) ++ (lh ++ ((List.replicate N 0).take 0 ++ (ll ++ (List.replicate N 0).drop (0 + ll.length))).drop (2 * h + lh.length))).length = N := by
  simp; omega
theorem val_rep (n : Nat) : val (List.replicate n 0) = 0 := val_zeros _ (by intro j; simp [List.getD, List.getElem?_replicate]; split <;> rfl)
theorem sup_val (ll lh : List Nat) (N h : Nat) (h1 : ll.length ≤ 2 * h) (_h2 : lh.length ≤ N - 2 * h) (h3 : 2 * h ≤ N) :
    val (((List.replicate N 0).take 0 ++ (ll ++ (List.replicate N 0).drop (0 + ll.length))).take (2 * h) ++ (lh ++ ((List.replicate N 0).take 0 ++ (ll ++ (List.replicate N 0).drop (0 + ll.length))).drop (2 * h + lh.length))) = val ll + 4294967296 ^ (2 * h) * val lh := by
  have e1 : ((List.replicate N 0).take 0 ++ (ll ++ (List.replicate N 0).drop (0 + ll.length))) = ll ++ List.replicate (N - ll.length) 0 := by simp
  rw [e1, List.take_append, List.take_of_length_le h1, List.take_replicate, List.drop_append, List.drop_eq_nil_of_le (by omega), List.nil_append, List.drop_replicate, val_append, val_append, val_append, val_rep, val_rep]
  have e2 : (ll ++ List.replicate (min (2 * h - ll.length) (N - ll.length)) 0).length = 2 * h := by simp; omega
  rw [e2]
  simp
theorem sup_lim (ll lh : List Nat) (N h : Nat) (h1 : Lim ll) (h2 : Lim lh) :
    Lim (((List.replicate N 0).take 0 ++ (ll ++ (List.replicate N 0).drop (0 + ll.length))).take (2 * h) ++ (lh ++ ((List.replicate N 0).take 0 ++ (ll ++ (List.replicate N 0).drop (0 + ll.length))).drop (2 * h + lh.length))) := by
  have hR : Lim ((List.replicate N 0).take 0 ++ (ll ++ (List.replicate N 0).drop (0 + ll.length))) := by
    intro x hx
    simp at hx
    rcases hx with hx | hx
    · exact h1 x hx
    · omega
  intro x hx
  rcases List.mem_append.1 hx with hx | hx
  · exact hR x (List.mem_of_mem_take hx)
  · rcases List.mem_append.1 hx with hx | hx
    · exact h2 x hx
    · exact hR x (List.mem_of_mem_drop hx)
set_option maxRecDepth 100000 in
set_option maxHeartbeats 800000 in
theorem byHalves_any (M : Nat) (hP : ProductSaid M) (b1 o1 b2 o2 h : Nat) (ca cb : Nat) (la lb : List Nat) (w : World) (hh : h = (la.length + 1) / 2) (hM : h + 1 ≤ M) (hca : la.length ≤ ca) (hcb : lb.length ≤ cb) (hla : la.length ≤ 35184372088832) (hge : lb.length ≤ la.length) (hlt : la.length < 2 * lb.length) (h40 : 40 < lb.length) (hra : Rd w (some ⟨b1, o1, none⟩) la) (hrb : Rd w (some ⟨b2, o2, none⟩) lb) (hma : Lim la) (hmb : Lim lb) :
    Calls Tryz.prog 75 #[.slice (some ⟨b1, o1, none⟩) la.length ca, .slice (some ⟨b2, o2, none⟩) lb.length cb] w fun e w' => ∃ v, e = .returned v ∧ NatS w.heap.size w' v (val la * val lb) ∧ Keep w w' := by
  have hhi : ((la.length : Int) + 1) / 2 = (h : Int) := by omega
  have hh1 : h ≤ lb.length := by omega
  have hh2 : h < la.length := by omega
  have e1 : (la.take h).length = h := by simp; omega
  have e2 : (lb.take h).length = h := by simp; omega
  have T1 := fun wx (hk : Keep w wx) => trim_any (some ⟨b1, o1, none⟩) ca (la.take h) wx (by omega) (by omega) ((hra.keep hk).take h)
  have T2 := fun wx (hk : Keep w wx) => trim_any (some ⟨b2, o2, none⟩) cb (lb.take h) wx (by omega) (by omega) ((hrb.keep hk).take h)
  rw [e1] at T1
  rw [e2] at T2
  have HH : Hid (h = (la.length + 1) / 2) := hh
  clear hh
  have hcah : ¬ ca = h := by omega
  have l0 := nl_le (la.take h)
  have m0 := nl_le (lb.take h)
  rw [e1] at l0
  rw [e2] at m0
  have f1 : ((la.take h).take (nl (la.take h))).length = nl (la.take h) := by rw [List.length_take, e1]; omega
  have f2 : ((lb.take h).take (nl (lb.take h))).length = nl (lb.take h) := by rw [List.length_take, e2]; omega
  have f3 : (la.drop h).length = la.length - h := List.length_drop
  have f4 : (lb.drop h).length = lb.length - h := List.length_drop
  have g1 := val_take_nl (la.take h)
  have g2 := val_take_nl (lb.take h)
  have RA0 := fun wx (hk : Keep w wx) => ((hra.keep hk).take h).take (nl (la.take h))
  have RB0 := fun wx (hk : Keep w wx) => ((hrb.keep hk).take h).take (nl (lb.take h))
  have RA1 := fun wx (hk : Keep w wx) => (hra.keep hk).drop h
  have RB1 : ∀ wx (_hk : Keep w wx), Rd wx (some ⟨b2, (if cb = h then o2 else o2 + h), none⟩) (lb.drop h) := by
    intro wx hk
    split
    · rw [List.drop_eq_nil_of_le (by omega)]; exact Rd.nil _ _
    · exact (hrb.keep hk).drop h
  have LA0 : Lim ((la.take h).take (nl (la.take h))) := Lim_take (Lim_take hma _) _
  have LB0 : Lim ((lb.take h).take (nl (lb.take h))) := Lim_take (Lim_take hmb _) _
  have LA1 := Lim_drop hma h
  have LB1 := Lim_drop hmb h
  have vA0 : val (la.take h) < 4294967296 ^ h := by have := val_lt (Lim_take hma h); rwa [e1] at this
  have vB0 : val (lb.take h) < 4294967296 ^ h := by have := val_lt (Lim_take hmb h); rwa [e2] at this
  have vA1 : val (la.drop h) < 4294967296 ^ (la.length - h) := by have := val_lt LA1; rwa [f3] at this
  have vB1 : val (lb.drop h) < 4294967296 ^ (lb.length - h) := by have := val_lt LB1; rwa [f4] at this
  have sA : val la = val (la.take h) + 4294967296 ^ h * val (la.drop h) := by
    have := val_append (la.take h) (la.drop h); rw [List.take_append_drop, e1] at this; exact this
  have sB : val lb = val (lb.take h) + 4294967296 ^ h * val (lb.drop h) := by
    have := val_append (lb.take h) (lb.drop h); rw [List.take_append_drop, e2] at this; exact this
  generalize (la.take h).take (nl (la.take h)) = A0 at *
  generalize (lb.take h).take (nl (lb.take h)) = B0 at *
  generalize la.drop h = A1 at *
  generalize lb.drop h = B1 at *
  generalize nl (la.take h) = n0 at *
  generalize nl (lb.take h) = k0 at *
  have F1 : Hid (A0.length = n0) := f1
  have F2 : Hid (B0.length = k0) := f2
  have F3 : Hid (A1.length = la.length - h) := f3
  have F4 : Hid (B1.length = lb.length - h) := f4
  have G1 : Hid (val A0 = val (la.take h)) := g1
  have G2 : Hid (val B0 = val (lb.take h)) := g2
  have SA : Hid (val la = val (la.take h) + 4294967296 ^ h * val A1) := sA
  have SB : Hid (val lb = val (lb.take h) + 4294967296 ^ h * val B1) := sB
  have VV : Hid (val (la.take h) < 4294967296 ^ h ∧ val (lb.take h) < 4294967296 ^ h ∧ val A1 < 4294967296 ^ (la.length - h) ∧ val B1 < 4294967296 ^ (lb.length - h)) := ⟨vA0, vB0, vA1, vB1⟩
  clear f1 f2 f3 f4 g1 g2 sA sB e1 e2 vA0 vB0 vA1 vB1
  have hcases : ∃ ob, (∀ wx (_hk : Keep w wx), Rd wx (some ⟨b2, ob, none⟩) B1) ∧ ((cb = h ∧ ob = o2) ∨ (¬ cb = h ∧ ob = o2 + h)) := by
    by_cases hc : cb = h
    · rw [if_pos hc] at RB1; exact ⟨_, RB1, .inl ⟨hc, rfl⟩⟩
    · rw [if_neg hc] at RB1; exact ⟨_, RB1, .inr ⟨hc, rfl⟩⟩
  clear RB1
  obtain ⟨ob, RB1, hob⟩ := hcases
  have hsl := fun wx => slice32_from wx b2 o2 ob lb.length cb h hh1 hob
  clear hob
  go_enter Tryz.func75, Tryz.ntmps75
  go_wp2_with fail
  go_quiet ((go_at_call 29; exact Calls.quiet_of_same (T1 _ ((Keep.refl w).drewN _))))
  have hk1 : Keep w (w.drewN nq) := (Keep.refl w).drewN _
  generalize w.drewN nq = w1 at hk1 ⊢
  go_wp2_with fail
  go_quiet ((go_at_call 29; exact Calls.quiet_of_same (T2 _ (hk1.drewN _))))
  have hk2 : Keep w (w1.drewN nq) := hk1.drewN _
  generalize w1.drewN nq = w2 at hk2 ⊢
  have P1 := hP _ _ ca cb A0 B0 w2 (by have := F1.out; omega) (by have := F2.out; omega) (by have := F1.out; omega) (by have := F2.out; omega) (by have := F1.out; omega) (by have := F2.out; omega) (RA0 w2 hk2) (RB0 w2 hk2) LA0 LB0
  rw [F1.out, F2.out] at P1
  clear T1 T2 hsl
  go_wp2_with fail
  refine P1.mono ?_
  rintro e w3 ⟨v3, rfl, h3, hk3⟩
  clear P1
  obtain ⟨gl, rl, ll, rfl, hgl, rowl, hll1, hll2, -, limrl, limll, nll, vll⟩ := h3
  have hk03 := hk2.trans hk3
  have P2 := hP _ _ (ca - h) (cb - h) A1 B1 w3 (by have := F3.out; omega) (by have := F4.out; omega) (by have := F3.out; omega) (by have := F4.out; omega) (by have := F3.out; omega) (by have := F4.out; omega) (RA1 w3 hk03) (RB1 w3 hk03) LA1 LB1
  rw [F3.out, F4.out] at P2
  go_wp2_with fail
  refine P2.mono ?_
  rintro e w4 ⟨v4, rfl, h4, hk4⟩
  clear P2
  obtain ⟨gh, rh, lh, rfl, hgh, rowh, hlh1, hlh2, -, limrh, limlh, nlh, vlh⟩ := h4
  have hk04 := hk03.trans hk4
  have S1 := sum_any _ _ ca (ca - h) A0 A1 w4 (by have := F1.out; omega) (by have := F3.out; omega) (RA0 w4 hk04) (RA1 w4 hk04) LA0 LA1
  rw [F1.out, F3.out] at S1
  go_wp2_with fail
  refine S1.mono ?_
  rintro e w5 ⟨v5, rfl, h5, hk5⟩
  clear S1
  obtain ⟨a5, c5, l5, rfl, hc5, rd5, lim5, nrm5, val5, -⟩ := h5.shape
  have hk05 := hk04.trans hk5
  have S2 := sum_any _ _ cb (cb - h) B0 B1 w5 (by have := F2.out; omega) (by have := F4.out; omega) (RB0 w5 hk05) (RB1 w5 hk05) LB0 LB1
  rw [F2.out, F4.out] at S2
  go_wp2_with fail
  refine S2.mono ?_
  rintro e w6 ⟨v6, rfl, h6, hk6⟩
  clear S2
  obtain ⟨a6, c6, l6, rfl, hc6, rd6, lim6, nrm6, val6, -⟩ := h6.shape
  have hk06 := hk05.trans hk6
  obtain ⟨vA0, vB0, vA1, vB1⟩ := VV.out
  have pA1 : val A1 < 4294967296 ^ h := Nat.lt_of_lt_of_le vA1 (Nat.pow_le_pow_right (by omega) (by have := HH.out; omega))
  have pB1 : val B1 < 4294967296 ^ h := Nat.lt_of_lt_of_le vB1 (Nat.pow_le_pow_right (by omega) (by have := HH.out; omega))
  have q5 : l5.length ≤ h + 1 := len_le_pow nrm5 _ (by rw [val5, G1.out, Nat.pow_succ]; omega)
  have q6 : l6.length ≤ h + 1 := len_le_pow nrm6 _ (by rw [val6, G2.out, Nat.pow_succ]; omega)
  have P3 := hP a5 a6 c5 c6 l5 l6 w6 (by omega) (by omega) hc5 hc6 (by omega) (by omega) (rd5.keep hk6) rd6 lim5 lim6
  rw [val5, val6, G1.out, G2.out] at P3
  rw [G1.out, G2.out] at vll
  have VLL : Hid (val ll = val (la.take h) * val (lb.take h)) := vll
  have VLH : Hid (val lh = val A1 * val B1) := vlh
  have PP : Hid (val A1 < 4294967296 ^ h ∧ val B1 < 4294967296 ^ h) := ⟨pA1, pB1⟩
  clear vA0 vB0 vA1 vB1 pA1 pB1 val5 val6 vll vlh h5 h6
  go_wp2_with fail
  refine P3.mono ?_
  rintro e w7 ⟨v7, rfl, h7, hk7⟩
  clear P3
  obtain ⟨gm, rm, lm, rfl, hgm, rowm, hlm1, hlm2, rlm, limrm, limlm, nlm, vlm⟩ := h7
  have hk07 := hk06.trans hk7
  have hd1 : val (la.take h) * val (lb.take h) ≤ val lm := by rw [vlm]; grind
  have kl7 : Keep w3 w7 := ((hk4.trans hk5).trans hk6).trans hk7
  have kh7 : Keep w4 w7 := (hk5.trans hk6).trans hk7
  have rl7 := rowl.keep kl7
  have rh7 := rowh.keep kh7
  have ltl : gl < w6.heap.size := Nat.lt_of_lt_of_le rowl.lt ((hk4.trans hk5).trans hk6).le
  have lth : gh < w6.heap.size := Nat.lt_of_lt_of_le rowh.lt (hk5.trans hk6).le
  have rdl7 : Rd w7 (some ⟨gl, 0, none⟩) ll := by have := rl7.rd 0 ll.length (by omega); rw [List.drop_zero, hll2] at this; exact this
  have offl : Off gm (some ⟨gl, 0, none⟩) ll := by intro b' o' s' e' _; simp at e'; omega
  have offh : Off gm (some ⟨gh, 0, none⟩) lh := by intro b' o' s' e' _; simp at e'; omega
  have T3 := take_any gm (some ⟨gl, 0, none⟩) rl.length lm.length rm.length rm ll w7 rlm hlm1 rowm rdl7 offl limrm limll (len_le_of_val nll limlm (by rw [VLL.out]; exact hd1)) (by rw [hlm2, VLL.out]; exact hd1)
  rw [hlm2] at T3
  go_wp2_with fail
  refine T3.mono ?_
  rintro e w8 ⟨rfl, q8, row8, len8, lim8, val8, mut8⟩
  clear T3
  have hval8 : val q8 = val (la.take h) * val B1 + val A1 * val (lb.take h) + val A1 * val B1 := by rw [VLL.out] at val8; rw [vlm] at val8; grind
  have l8 : (q8 ++ rm.drop lm.length).length = rm.length := by simp; omega
  have lr8 : Lim (q8 ++ rm.drop lm.length) := by
    intro y hy
    rcases List.mem_append.1 hy with hy | hy
    · exact lim8 y hy
    · exact limrm y (List.mem_of_mem_drop hy)
  have t8 : (q8 ++ rm.drop lm.length).take lm.length = q8 := by rw [List.take_append_of_le_length (by omega), List.take_of_length_le (by omega)]
  have d8 : (q8 ++ rm.drop lm.length).drop lm.length = rm.drop lm.length := by rw [List.drop_append_of_le_length (by omega), List.drop_eq_nil_of_le (by omega)]; rfl
  have rh8 := rh7.mut mut8 (by omega)
  have rl8 := rl7.mut mut8 (by omega)
  have rdh8 : Rd w8 (some ⟨gh, 0, none⟩) lh := by have := rh8.rd 0 lh.length (by omega); rw [List.drop_zero, hlh2] at this; exact this
  have hd2 : val lh ≤ val q8 := by rw [VLH.out, hval8]; exact Nat.le_add_left _ _
  have T4 := take_any gm (some ⟨gh, 0, none⟩) rh.length lm.length rm.length (q8 ++ rm.drop lm.length) lh w8 (by omega) (by omega) row8 rdh8 offh lr8 limlh (by rw [← len8]; exact len_le_of_val nlh lim8 hd2) (by rw [t8]; exact hd2)
  rw [t8, d8] at T4
  have HQ8 : Hid (val q8 = val (la.take h) * val B1 + val A1 * val (lb.take h) + val A1 * val B1) := hval8
  have L8 : Hid (q8.length = lm.length) := len8
  clear l8 t8 d8 vlm val8 hval8 len8 hd1 hd2
  go_wp2_with fail
  refine T4.mono ?_
  rintro e w9 ⟨rfl, q9, row9, len9, lim9, val9, mut9⟩
  clear T4
  have HQ9 : Hid (val q9 = val (la.take h) * val B1 + val A1 * val (lb.take h)) := by show _ = _; rw [VLH.out, HQ8.out] at val9; omega
  have L9 : Hid (q9.length = lm.length) := len9
  have rl9 := rl8.mut mut9 (by omega)
  have rh9 := rh8.mut mut9 (by omega)
  clear val9 len9
  obtain ⟨N, hN⟩ : ∃ N, la.length + lb.length = N := ⟨_, rfl⟩
  have hsz : N ≤ 70368744177664 := by omega
  have hNi : (la.length : Int) + (lb.length : Int) = (N : Int) := by omega
  have h2N : 2 * h ≤ N := by have := HH.out; omega
  have HN : Hid (la.length + lb.length = N) := hN
  clear hN
  obtain ⟨vA0, vB0, vA1, vB1⟩ := VV.out
  have q_ll : ll.length ≤ 2 * h := len_le_pow nll _ (by
    rw [VLL.out, show 2 * h = h + h by omega, Nat.pow_add]
    exact Nat.mul_lt_mul_of_lt_of_le vA0 (Nat.le_of_lt vB0) (Nat.pos_of_ne_zero (by simp)))
  have q_lh : lh.length ≤ N - 2 * h := len_le_pow nlh _ (by
    rw [VLH.out, show N - 2 * h = (la.length - h) + (lb.length - h) by (have := HN.out; omega), Nat.pow_add]
    exact Nat.mul_lt_mul_of_lt_of_le vA1 (Nat.le_of_lt vB1) (Nat.pos_of_ne_zero (by simp)))
  clear vA0 vB0 vA1 vB1
  have hobx : ∃ ob2, (N = 2 * h ∧ ob2 = 0) ∨ (¬ N = 2 * h ∧ ob2 = 0 + 2 * h) := by
    by_cases hc : N = 2 * h
    · exact ⟨_, .inl ⟨hc, rfl⟩⟩
    · exact ⟨_, .inr ⟨hc, rfl⟩⟩
  obtain ⟨ob2, hob2⟩ := hobx
  have hsl2 := fun wx gx => slice32_from wx gx 0 ob2 N N (2 * h) h2N hob2
  rw [show ((2 * h : Nat) : Int) = 2 * (h : Int) by omega] at hsl2
  have hdp2 : Hid (lh ≠ [] → ob2 = 2 * h) := by
    intro hne
    have : 0 < lh.length := List.length_pos_iff.2 hne
    omega
  clear hob2
  have hd0 : ll.length ≤ N := by omega
  have rdl9 : Rd w9 (some ⟨gl, 0, none⟩) ll := by have := rl9.rd 0 ll.length (by omega); rw [List.drop_zero, hll2] at this; exact this
  have rdh9 : Rd w9 (some ⟨gh, 0, none⟩) lh := by have := rh9.rd 0 lh.length (by omega); rw [List.drop_zero, hlh2] at this; exact this
  have hfitA : 0 + ll.length ≤ (List.replicate N 0).length := by simp; omega
  have hlenR : ((List.replicate N 0).take 0 ++ (ll ++ (List.replicate N 0).drop (0 + ll.length))).length = N := by simp; omega
  have hfitB : 2 * h + lh.length ≤ ((List.replicate N 0).take 0 ++ (ll ++ (List.replicate N 0).drop (0 + ll.length))).length := by rw [hlenR]; omega
  have hdpB : lh ≠ [] → (some ⟨w9.heap.size, ob2, none⟩ : Option Addr) = some ⟨w9.heap.size, 2 * h, none⟩ := fun hne => by rw [hdp2.out hne]
  have HlenR : Hid (((List.replicate N 0).take 0 ++ (ll ++ (List.replicate N 0).drop (0 + ll.length))).length = N) := hlenR
  have HdpB : Hid (lh ≠ [] → (some ⟨w9.heap.size, ob2, none⟩ : Option Addr) = some ⟨w9.heap.size, 2 * h, none⟩) := hdpB
  clear hlenR hdpB
  go_wp2_with (first | (at_make; refine wpList_make32 _ rfl _ _ rfl _ _ _ _ N rfl rfl rfl rfl hsz ?_; intro w10 hrow10 hk10 hsz10) | (with_reducible show wpList _ _ _ (Oper.mk (some 59) _ _ _ _ _ :: _) _ _; refine wpList_copy32 rfl _ _ rfl _ _ _ _ _ ll rfl rfl w9.heap.size 0 _ hrow10 hd0 (fun _ => rfl) (rdl9.keep hk10) hfitA ?_; intro w11 hrow11 hm11) | (with_reducible show wpList _ _ _ (Oper.mk _ (Op.call { callee := Callee.builtin Builtin.copy, args := _, argTypes := _ }) _ _ _ _ :: _) _ _; refine wpList_copy32 rfl _ _ rfl _ _ _ _ _ lh rfl rfl w9.heap.size (2 * h) _ hrow11 q_lh HdpB.out ((rdh9.keep hk10).mut hm11 (Off.of_lt rdh9 (Nat.le_refl _))) hfitB ?_; intro w12 hrow12 hm12))
  have ltm : gm < w9.heap.size := row9.lt
  have row12 := (((row9.keep hk10).mut hm11 (by omega)).mut hm12 (by omega))
  have rd12 : Rd w12 (some ⟨gm, 0, none⟩) q9 := by
    have := row12.rd 0 q9.length (by simp)
    rw [List.drop_zero, List.take_append_of_le_length (Nat.le_refl _), List.take_of_length_le (Nat.le_refl _)] at this
    exact this
  have T5 := trim_any (some ⟨gm, 0, none⟩) rm.length q9 w12 (by have := L9.out; omega) (by have := L9.out; omega) rd12
  rw [L9.out] at T5
  refine T5.mono ?_
  rintro e w13 ⟨rfl, rfl⟩
  clear T5
  have hl2 := sup_len ll lh N h q_ll q_lh h2N
  have hv2 := sup_val ll lh N h q_ll q_lh h2N
  have hm2 := sup_lim ll lh N h limll limlh
  generalize ((List.replicate N 0).take 0 ++ (ll ++ (List.replicate N 0).drop (0 + ll.length))).take (2 * h) ++ (lh ++ ((List.replicate N 0).take 0 ++ (ll ++ (List.replicate N 0).drop (0 + ll.length))).drop (2 * h + lh.length)) = R2 at hrow12 hl2 hv2 hm2
  have htot : val R2 + 4294967296 ^ h * val (q9.take (nl q9)) = val la * val lb := by
    rw [hv2, val_take_nl, HQ9.out, VLL.out, VLH.out, SA.out, SB.out, show 2 * h = h + h by omega, Nat.pow_add]
    grind
  have hlim : val la * val lb < 4294967296 ^ N := by
    rw [← HN.out, Nat.pow_add]
    exact Nat.mul_lt_mul_of_lt_of_le (val_lt hma) (Nat.le_of_lt (val_lt hmb)) (Nat.pos_of_ne_zero (by simp))
  have hq9 : (q9.take (nl q9)).length ≤ N - h := len_le_pow (Nrm_take q9) _ (by
    have h1 : 4294967296 ^ h * val (q9.take (nl q9)) < 4294967296 ^ h * 4294967296 ^ (N - h) := by
      rw [← Nat.pow_add, show h + (N - h) = N by omega]; omega
    exact Nat.lt_of_mul_lt_mul_left h1)
  have hnq := nl_le q9
  have hqe : (q9.take (nl q9)).length = nl q9 := by rw [List.length_take]; omega
  have hA := addAt_any w9.heap.size (some ⟨gm, 0, none⟩) rm.length h R2 (q9.take (nl q9)) w13 (by omega) hrow12 (rd12.take _) (by intro b' o' s' e' _; simp at e'; omega) hm2 (Lim_take lim9 _) (by omega) (by rw [htot, hl2]; exact hlim)
  rw [hqe, hl2] at hA
  have HT : Hid (val R2 + 4294967296 ^ h * val (q9.take (nl q9)) = val la * val lb) := htot
  clear htot hv2 hl2 hqe
  go_wp2_with fail
  refine hA.mono ?_
  rintro e w14 ⟨rfl, r', hr14, hl14, hm14, hv14, hmu14⟩
  clear hA
  have T6 := trim_any (some ⟨w9.heap.size, 0, none⟩) r'.length r' w14 (Nat.le_refl _) (by omega) hr14.rd0
  rw [hl14] at T6
  go_wp2_with fail
  refine T6.mono ?_
  rintro e w15 ⟨rfl, rfl⟩
  go_wp2_with fail
  go_ret
  have hk9 : Keep w w9 := (hk07.mut mut8 (Nat.le_trans hk06.le hgm)).mut mut9 (Nat.le_trans hk06.le hgm)
  refine ⟨_, rfl, ?_, (((hk9.trans hk10).mut hm11 hk9.le).mut hm12 hk9.le).mut hmu14 hk9.le⟩
  have h1 := NatS.of_row hr14 hk9.le hm14 (by omega)
  rw [hl14, hv14, HT.out] at h1
  exact h1
end Go.Proofs.YtinjikoocegooaaGreatDoor.Li
set_option linter.unusedVariables false
set_option linter.unusedSimpArgs false
namespace Go.Proofs.YtinjikoocegooaaGreatDoor.Li
open Go.RowKit Lb
set_option maxRecDepth 100000 in
set_option maxHeartbeats 1600000 in
theorem product_step (M : Nat) (ih : ∀ m, m < M → ProductSaid m) : ProductSaid M := by
  intro a b ca cb la lb w hMa hMb hca hcb hla hlb hra hrb hma hmb
  by_cases hlt : la.length < lb.length
  · have dlt : decide ((la.length : Int) < (lb.length : Int)) = true := by simp; omega
    by_cases h40 : la.length ≤ 40
    · have hb := byLimbs_any b a cb ca lb la w hlb hla hrb hra hmb hma
      go_enter Tryz.func48, Tryz.ntmps48
      go_wp2_with fail
      refine hb.mono ?_
      rintro e w1 ⟨v, rfl, hn, hk⟩
      obtain ⟨gx, rx, lx, rfl, hx⟩ := hn
      go_wp2_with fail
      go_ret
      exact ⟨_, rfl, by rw [Nat.mul_comm]; exact ⟨gx, rx, lx, rfl, hx⟩, hk⟩
    · have d40 : decide (la.length ≤ 40) = false := by simp; omega
      obtain ⟨bX, oX, rfl, -⟩ := hrb 0 (by omega)
      obtain ⟨bY, oY, rfl, -⟩ := hra 0 (by omega)
      by_cases h2 : 2 * la.length ≤ lb.length
      · have hb := byPieces_any la.length (ih la.length (by omega)) bX oX (some ⟨bY, oY, none⟩) cb ca lb la w (Nat.le_refl _) hcb hca hlb hla (by omega) hrb hra hmb hma
        go_enter Tryz.func48, Tryz.ntmps48
        go_wp2_with fail
        refine hb.mono ?_
        rintro e w1 ⟨v, rfl, hn, hk⟩
        obtain ⟨gx, rx, lx, rfl, hx⟩ := hn
        go_wp2_with fail
        go_ret
        exact ⟨_, rfl, by rw [Nat.mul_comm]; exact ⟨gx, rx, lx, rfl, hx⟩, hk⟩
      · have d2 : decide (2 * (la.length : Int) ≤ (lb.length : Int)) = false := by simp; omega
        have hb := byHalves_any ((lb.length + 1) / 2 + 1) (ih _ (by omega)) bX oX bY oY ((lb.length + 1) / 2) cb ca lb la w rfl (Nat.le_refl _) hcb hca hlb (by omega) (by omega) (by omega) hrb hra hmb hma
        go_enter Tryz.func48, Tryz.ntmps48
        go_wp2_with fail
        refine hb.mono ?_
        rintro e w1 ⟨v, rfl, hn, hk⟩
        obtain ⟨gx, rx, lx, rfl, hx⟩ := hn
        go_wp2_with fail
        go_ret
        exact ⟨_, rfl, by rw [Nat.mul_comm]; exact ⟨gx, rx, lx, rfl, hx⟩, hk⟩
  · have dlt : decide ((la.length : Int) < (lb.length : Int)) = false := by simp; omega
    by_cases h40 : lb.length ≤ 40
    · have hb := byLimbs_any a b ca cb la lb w hla hlb hra hrb hma hmb
      go_enter Tryz.func48, Tryz.ntmps48
      go_wp2_with fail
      refine hb.mono ?_
      rintro e w1 ⟨v, rfl, hn, hk⟩
      obtain ⟨gx, rx, lx, rfl, hx⟩ := hn
      go_wp2_with fail
      go_ret
      exact ⟨_, rfl, ⟨gx, rx, lx, rfl, hx⟩, hk⟩
    · have d40 : decide (lb.length ≤ 40) = false := by simp; omega
      obtain ⟨bX, oX, rfl, -⟩ := hra 0 (by omega)
      obtain ⟨bY, oY, rfl, -⟩ := hrb 0 (by omega)
      by_cases h2 : 2 * lb.length ≤ la.length
      · have hb := byPieces_any lb.length (ih lb.length (by omega)) bX oX (some ⟨bY, oY, none⟩) ca cb la lb w (Nat.le_refl _) hca hcb hla hlb (by omega) hra hrb hma hmb
        go_enter Tryz.func48, Tryz.ntmps48
        go_wp2_with fail
        refine hb.mono ?_
        rintro e w1 ⟨v, rfl, hn, hk⟩
        obtain ⟨gx, rx, lx, rfl, hx⟩ := hn
        go_wp2_with fail
        go_ret
        exact ⟨_, rfl, ⟨gx, rx, lx, rfl, hx⟩, hk⟩
      · have d2 : decide (2 * (lb.length : Int) ≤ (la.length : Int)) = false := by simp; omega
        have hb := byHalves_any ((la.length + 1) / 2 + 1) (ih _ (by omega)) bX oX bY oY ((la.length + 1) / 2) ca cb la lb w rfl (Nat.le_refl _) hca hcb hla (by omega) (by omega) (by omega) hra hrb hma hmb
        go_enter Tryz.func48, Tryz.ntmps48
        go_wp2_with fail
        refine hb.mono ?_
        rintro e w1 ⟨v, rfl, hn, hk⟩
        obtain ⟨gx, rx, lx, rfl, hx⟩ := hn
        go_wp2_with fail
        go_ret
        exact ⟨_, rfl, ⟨gx, rx, lx, rfl, hx⟩, hk⟩
theorem product_all (M : Nat) : ProductSaid M := Nat.strongRecOn M (fun n ih => product_step n ih)
theorem product_any (a b : Option Addr) (ca cb : Nat) (la lb : List Nat) (w : World) (hca : la.length ≤ ca) (hcb : lb.length ≤ cb) (hla : la.length ≤ 35184372088832) (hlb : lb.length ≤ 35184372088832) (hra : Rd w a la) (hrb : Rd w b lb) (hma : Lim la) (hmb : Lim lb) :
    Calls Tryz.prog 48 #[.slice a la.length ca, .slice b lb.length cb] w fun e w' => ∃ v, e = .returned v ∧ NatS w.heap.size w' v (val la * val lb) ∧ Keep w w' :=
  product_all (max la.length lb.length) a b ca cb la lb w (by omega) (by omega) hca hcb hla hlb hra hrb hma hmb
set_option maxRecDepth 100000 in
set_option maxHeartbeats 400000 in
theorem Mul_any (a b : Option Addr) (ca cb : Nat) (la lb : List Nat) (w : World) (hca : la.length ≤ ca) (hcb : lb.length ≤ cb) (hla : la.length ≤ 35184372088832) (hlb : lb.length ≤ 35184372088832) (hra : Rd w a la) (hrb : Rd w b lb) (hma : Lim la) (hmb : Lim lb) :
    Calls Tryz.prog 32 #[.slice a la.length ca, .slice b lb.length cb] w fun e w' => ∃ v, e = .returned v ∧ NatS w.heap.size w' v (val la * val lb) ∧ Keep w w' := by
  have h1 := nl_le la
  have h2 := nl_le lb
  have e1 : (la.take (nl la)).length = nl la := by simp; omega
  have e2 : (lb.take (nl lb)).length = nl lb := by simp; omega
  have hc := product_any a b ca cb (la.take (nl la)) (lb.take (nl lb)) w (by omega) (by omega) (by omega) (by omega) (hra.take _) (hrb.take _) (Lim_take hma _) (Lim_take hmb _)
  rw [e1, e2, val_take_nl, val_take_nl] at hc
  have t1 := trim_any a ca la w hca (by omega) hra
  have t2 := trim_any b cb lb w hcb (by omega) hrb
  go_enter Tryz.func32, Tryz.ntmps32
  go_wp2_with fail
  refine t1.mono ?_
  rintro e w' ⟨rfl, rfl⟩
  go_wp2_with fail
  refine t2.mono ?_
  rintro e w' ⟨rfl, rfl⟩
  go_wp2_with fail
  refine hc.mono ?_
  rintro e w1 ⟨v, rfl, hn, hk⟩
  obtain ⟨gx, rx, lx, rfl, hx⟩ := hn
  go_wp2
  go_ret
  exact ⟨_, rfl, ⟨gx, rx, lx, rfl, hx⟩, hk⟩
end Go.Proofs.YtinjikoocegooaaGreatDoor.Li
