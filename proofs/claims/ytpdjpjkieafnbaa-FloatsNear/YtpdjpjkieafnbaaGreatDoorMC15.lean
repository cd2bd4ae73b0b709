import Derived.Test.YtpdjpjkieafnbaaGreatDoorProg
import Derived.Test.YtpdjpjkieafnbaaGreatDoorLE7
import Derived.Test.YtpdjpjkieafnbaaGreatDoorLF10
import Derived.Test.YtpdjpjkieafnbaaGreatDoorMC14
import Derived.WalkKit
import Derived.WalkSpells
import Derived.WalkLawsBesides
import Derived.Laws.CopyOwn
import Derived.Deep.Draws
import Derived.Deep.QuietTactic
import Derived.BigQuiet
import Derived.Laws.MathBits
import Derived.Laws.BytesArg
import Derived.Lib.OthersKept
set_option linter.unusedVariables false
set_option linter.unusedSimpArgs false
namespace Go.Proofs.YtpdjpjkieafnbaaGreatDoor.Li
open Go.RowKit Lb
/-- out = append(out, x) within its capacity. -/
theorem wpList_appfits32 {wr : World} {ops : Array Oper} {rest : List Oper} {o : Oper} {a : Act} {Q : Exit → Act → World → Prop} (hgd : o.guard = none) (s x : Operand)
    (ho : o.op = .call { callee := .builtin .append, args := #[s, x], argTypes := #[52, 52] }) (g n : Nat) (rk : List Nat) (hs : a.eval s = .slice (some ⟨g, 0, none⟩) n rk.length) (Y : Int) (y : Nat) (hY : Y = (y : Int))
    (hx : a.eval x = .slice (some ⟨wr.heap.size, 0, none⟩) 1 1) (hrow : Row wr g rk) (hn : n < rk.length)
    (hK : ∀ w1, Row w1 g (rk.set n y) → Gr g wr w1 → wpList Tryz.prog ops Q rest (a.put o.dst (.slice (some ⟨g, 0, none⟩) (n + 1) rk.length)) w1) :
    wpList Tryz.prog ops Q (o :: rest) a (wr.alloc (.cells #[.int .u32 Y] 40)) := by
  obtain ⟨i0, hi, hz0, hz1, hz2⟩ := info_parts i62
  subst hY
  refine wpList_plain hgd fun K hK' => ?_
  have hk : Keep wr (wr.alloc (.cells #[.int .u32 (y : Int)] 40)) := (Keep.refl wr).alloc _
  have hrow1 := hrow.keep hk
  have hrun := run_append_room (P := Tryz.prog) (wr.alloc (.cells #[.int .u32 (y : Int)] 40)) 52 o.type 40 i0 Tryz.underlying52 hi g n rk.length _ hrow1 ⟨wr.heap.size, 0, none⟩ 1 1 [.int .u32 (y : Int)] (by simp [hz1]) (by
    intro j u hj
    match j, hj with
    | 0, hj => simp at hj; subst hj; simp [Addr.add]) (by intro u hu; simp at hu; subst hu; rfl) (by omega) (by simp [hz1, U]; omega)
  unfold Oper.wp
  simp [execOp, ho, resolve, invoke, builtin, hs, hx, hrun, Result.andThen]
  refine hK' _ _ (hK _ ?_ ?_)
  · unfold Row
    have eU : U (rk.set n y) = (U rk).take n ++ ([.int .u32 (y : Int)] ++ (U rk).drop (n + 1)) := by
      unfold U
      rw [List.map_set, List.set_eq_take_append_cons_drop, if_pos (by simpa using hn)]
      rfl
    rw [setRow_heap _ g _ _ 40 _ hrow1, eU]
    simp [hz1]
  · exact (hk.gr g).trans (Mut.setRow _ _ _).gr
theorem pushStep (X V A t y f x z c : Nat) (hv : V + t * X = A * f + x) (h : c * 4294967296 + z = t + y * f) : (V + X * z) + c * (X * 4294967296) = (A + y * X) * f + x := by
  have h2 : (c * 4294967296 + z) * X = (t + y * f) * X := by rw [h]
  grind
set_option maxRecDepth 100000 in
set_option maxHeartbeats 400000 in
theorem pushChunk_any (g : Nat) (n f x : Nat) (r : List Nat) (w : World) (hrl : r.length ≤ 70368744177664) (hn : n < r.length) (hrow : Row w g r) (hm : Lim r) (hf : f < 4294967296) (hx : x < 4294967296) :
    Calls Tryz.prog 158 #[.slice (some ⟨g, 0, none⟩) n r.length, .int .u32 (f : Nat), .int .u32 (x : Nat)] w fun e w' => ∃ n' r', e = .returned (.slice (some ⟨g, 0, none⟩) n' r.length) ∧ n ≤ n' ∧ n' ≤ n + 1 ∧ Row w' g r' ∧ r'.length = r.length ∧ Lim r' ∧ val (r'.take n') = val (r.take n) * f + x ∧ Gr g w w' := by
  go_enter Tryz.func158, Tryz.ntmps158
  go_wp2
  go_loopw [7, 13] (fun c i wr => ∃ (k t : Nat) (q : List Nat), k ≤ n ∧ t < 4294967296 ∧ i = .int .i64 k ∧ c = .int .u64 t ∧ Row wr g (q ++ r.drop k) ∧ Hid (q.length = k) ∧ Lim q ∧ Hid (val q + t * 4294967296 ^ k = val (r.take k) * f + x) ∧ Mut g w wr) (fun _ i _ => n - (intOf i).toNat)
  case atStart => exact ⟨0, x, [], by omega, hx, rfl, rfl, by simpa using hrow, rfl, by intro y hy; simp at hy, by show _ = _; simp [val], Mut.refl _ _⟩
  case round =>
    obtain ⟨k, t, q, hk, ht, rfl, rfl, hrk, hql, hmq, hv, hmut⟩ := hrel
    by_cases hkl : k < n
    · have hc := hrk.cell k (by have := hql.out; simp; omega)
      rw [get_at q r k hql.out (by omega)] at hc
      have hfz := hrk.frozen k
      obtain ⟨y, hy⟩ : ∃ y, r.getD k 0 = y := ⟨_, rfl⟩
      have hyl : y < 4294967296 := hy ▸ Lim_getD hm _
      rw [hy] at hc
      have Hy : Hid (r.getD k 0 = y) := hy; clear hy
      have hp := prodB y f hyl hf
      have hpi : (y : Int) * (f : Int) ≤ 18446744065119617025 := by rw [← Int.natCast_mul]; omega
      have hpi0 : 0 ≤ (y : Int) * (f : Int) := by rw [← Int.natCast_mul]; omega
      go_wp2
      go_roundw
      case rel =>
        have hdm := Nat.div_add_mod' (t + y * f) 4294967296
        refine ⟨k + 1, (t + y * f) / 4294967296, q ++ [(t + y * f) % 4294967296], by omega, by omega, by go_num, by simp, ?_, ?_, Lim_snoc hmq _ (by omega), ?_, hmut.setCell _ _⟩
        · have h1 := hrk.set k ((t + y * f) % 4294967296)
          rw [set_at q r k _ hql.out (by omega)] at h1
          simpa using h1
        · show _ = _
          have := hql.out
          simp; omega
        · show _ = _
          rw [val_snoc, hql.out, val_take_succ, Hy.out, Nat.pow_succ]
          exact pushStep _ _ _ _ _ _ _ _ _ hv.out hdm
      case measure => simp [intOf]; omega
    · have hkn : k = n := by omega
      subst hkn
      by_cases ht0 : 0 < t
      · have hlen : (q ++ r.drop k).length = r.length := by have := hql.out; simp; omega
        have hlt : k < (q ++ r.drop k).length := by omega
        rw [← hlen]
        go_wp2_with (at_builtin; refine wpList_appfits32 rfl _ _ rfl g k (q ++ r.drop k) rfl _ t ?_ rfl hrk hlt ?_; rotate_left; intro w1 hrow1 hgr1)
        go_ret
        · refine ⟨k + 1, (q ++ r.drop k).set k t, rfl, by omega, Nat.le_refl _, hrow1, by simp only [List.length_set]; exact hlen, ?_, ?_, hmut.gr.trans hgr1⟩
          · refine Lim_set ?_ _ _ ht
            intro y hy
            rcases List.mem_append.1 hy with hy | hy
            · exact hmq y hy
            · exact hm y (List.mem_of_mem_drop hy)
          · have h1 := hv.out
            have h2 := hql.out
            rw [set_at q r k t h2 hn, List.take_append_of_le_length (by simp; omega), List.take_of_length_le (by simp; omega), val_snoc, h2, Nat.mul_comm]
            exact h1
        · omega
      · go_wp2_with fail
        go_ret
        have ht1 : t = 0 := by omega
        subst ht1
        refine ⟨k, q ++ r.drop k, rfl, Nat.le_refl _, by omega, hrk, ?_, ?_, ?_, hmut.gr⟩
        · have := hql.out; simp; omega
        · intro y hy
          rcases List.mem_append.1 hy with hy | hy
          · exact hmq y hy
          · exact hm y (List.mem_of_mem_drop hy)
        · have h1 := hv.out
          rw [List.take_append_of_le_length (by have := hql.out; omega), List.take_of_length_le (by have := hql.out; omega)]
          omega
end Go.Proofs.YtpdjpjkieafnbaaGreatDoor.Li
