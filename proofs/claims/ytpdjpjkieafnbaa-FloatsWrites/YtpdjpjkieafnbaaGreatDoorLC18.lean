import Derived.Test.YtpdjpjkieafnbaaGreatDoorProg
import Derived.Test.YtpdjpjkieafnbaaGreatDoorLC6
import Derived.Test.YtpdjpjkieafnbaaGreatDoorShelf
import Derived.WalkKit
import Derived.WalkSpells
import Derived.WalkLawsBesides
import Derived.Laws.CopyOwn
import Derived.Deep.Draws
import Derived.Deep.QuietTactic
import Derived.BigQuiet
import Derived.Laws.MathBits
import Derived.Laws.BytesArg
import Derived.Lib.OthersKept
set_option linter.unusedVariables false
set_option linter.unusedSimpArgs false
namespace Go.Proofs.YtpdjpjkieafnbaaGreatDoor.Li
open Go.RowKit Lb
theorem bitLen_aux : ∀ (f x : Nat), x < 2 ^ f → Lib.bitLenAux f x = bitLen x
  | 0, x, h => by simp at h; subst h; rfl
  | f + 1, x, h => by
    unfold Lib.bitLenAux
    by_cases h0 : x = 0
    · subst h0; rfl
    · rw [if_neg h0, bitLen_aux f (x / 2) (by rw [Nat.pow_succ] at h; omega), bitLen_half x (by omega)]; omega
theorem bitLen_lib (x : Nat) (h : x < 18446744073709551616) : Lib.bitLen x = bitLen x := bitLen_aux 64 x h
set_option maxRecDepth 100000 in
set_option maxHeartbeats 400000 in
theorem Len_any (a : Option Addr) (c : Nat) (l : List Nat) (w : World) (hnc : l.length ≤ c) (hl : l.length ≤ 70368744177664) (hr : Rd w a l) (hm : Lim l) :
    Calls Tryz.prog 70 #[.slice a l.length c] w fun e w' => e = .returned (.int .i64 (lenB l : Nat)) ∧ Dr w w' := by
  have h1 := nl_le l
  have t1 := trim_any a c l w hnc (by omega) hr
  by_cases h0 : nl l = 0
  · have hb : ((nl l : Int) == 0) = true := by simp; omega
    have he : Hid (lenB l = 0) := by show _ = _; unfold lenB; rw [if_pos h0]
    clear h0
    go_enter Tryz.func70, Tryz.ntmps70
    go_wp2_with fail
    refine t1.mono ?_
    rintro e w' ⟨rfl, rfl⟩
    go_wp2
    go_ret
    exact ⟨ret_int (by rw [he.out]; rfl), Dr.refl _⟩
  · obtain ⟨m, hm'⟩ : ∃ m, nl l = m + 1 := ⟨nl l - 1, by omega⟩
    obtain ⟨x, hx⟩ : ∃ x, l.getD m 0 = x := ⟨_, rfl⟩
    have hxl : x < 4294967296 := hx ▸ Lim_getD hm _
    have he : Hid (lenB l = 32 * m + bitLen x) := by show _ = _; unfold lenB; rw [if_neg h0, hm', Nat.add_sub_cancel, hx]
    have hbl := bitLen_le x hxl
    have hb2 : (((m : Int) + 1) == 0) = false := by simp; omega
    obtain ⟨b, o, rfl, hc⟩ := hr m (by omega)
    rw [hx] at hc
    rw [hm'] at t1
    have hml : m ≤ 70368744177664 := by omega
    clear hx h0 hr hm'
    have hL := Tryz.bits_Len32 (x : Nat) w (by omega) (by omega)
    rw [show ((x : Int)).toNat = x from rfl, bitLen_lib x (by omega)] at hL
    go_enter Tryz.func70, Tryz.ntmps70
    go_wp2_with fail
    refine t1.mono ?_
    rintro e w' ⟨rfl, rfl⟩
    go_wp2_with (go_at_call 112; refine hL.mono ?_; rintro e w'' ⟨rfl, rfl⟩)
    go_ret
    exact ⟨ret_int (by rw [he.out]; omega), Dr.refl _⟩
set_option maxRecDepth 100000 in
set_option maxHeartbeats 400000 in
theorem addAt_any (g : Nat) (b : Option Addr) (cb at' : Nat) (r lb : List Nat) (w : World) (hrl : r.length ≤ 70368744177664) (hrow : Row w g r) (hrb : Rd w b lb) (hoff : Off g b lb) (hm : Lim r) (hmb : Lim lb)
    (hfit : at' + lb.length ≤ r.length) (hroom : val r + 4294967296 ^ at' * val lb < 4294967296 ^ r.length) :
    Calls Tryz.prog 159 #[.slice (some ⟨g, 0, none⟩) r.length r.length, .slice b lb.length cb, .int .i64 (at' : Nat)] w fun e w' => e = .returned (.tuple #[]) ∧ ∃ r', Row w' g r' ∧ r'.length = r.length ∧ Lim r' ∧ val r' = val r + 4294967296 ^ at' * val lb ∧ Mut g w w' := by
  go_enter Tryz.func159, Tryz.ntmps159
  go_wp2
  go_loopw [6, 11] (fun c i wr => ∃ (k t : Nat) (rk : List Nat), k ≤ lb.length ∧ t ≤ 1 ∧ i = .int .i64 k ∧ c = .int .u64 t ∧ Row wr g rk ∧ rk.length = r.length ∧ Lim rk ∧ Hid (val rk + t * 4294967296 ^ (at' + k) = val r + 4294967296 ^ at' * val (lb.take k)) ∧ Mut g w wr) (fun _ i _ => lb.length - (intOf i).toNat)
  case atStart => exact ⟨0, 0, r, by omega, by omega, rfl, rfl, hrow, rfl, hm, by show _ = _; simp [val], Mut.refl _ _⟩
  case round =>
    obtain ⟨k, t, rk, hk, ht, rfl, rfl, hrk, hlen, hmk, hv, hmut⟩ := hrel
    by_cases hkl : k < lb.length
    · obtain ⟨b1, o1, rfl, hc1⟩ := (hrb.mut hmut hoff) k hkl
      have hc2 := hrk.cell (at' + k) (by omega)
      have hfz := hrk.frozen (at' + k)
      obtain ⟨x, hx⟩ : ∃ x, rk.getD (at' + k) 0 = x := ⟨_, rfl⟩
      obtain ⟨y, hy⟩ : ∃ y, lb.getD k 0 = y := ⟨_, rfl⟩
      have hxl : x < 4294967296 := hx ▸ Lim_getD hmk _
      have hyl : y < 4294967296 := hy ▸ Lim_getD hmb _
      rw [hx] at hc2
      rw [hy] at hc1
      have Hx : Hid (rk.getD (at' + k) 0 = x) := hx; clear hx
      have Hy : Hid (lb.getD k 0 = y) := hy; clear hy
      have hl2 : at' + k < r.length := by omega
      have Hl : Hid (rk.length = r.length) := hlen; clear hlen
      go_wp2
      go_quiet (fail)
      have hmut1 : Mut g w (wr.drewN nq) := hmut.drewN nq
      have hrk1 : Row (wr.drewN nq) g rk := hrk
      have hc2' : (wr.drewN nq).cell? _ = _ := hc2
      have hfz' : (wr.drewN nq).frozen? _ = _ := hfz
      clear hc1 hc2 hfz hmut hrk
      generalize wr.drewN nq = w1 at hmut1 hrk1 hc2' hfz' ⊢
      go_wp2
      go_roundw
      case rel =>
        refine ⟨k + 1, (t + (x + y)) / 4294967296, rk.set (at' + k) ((t + (x + y)) % 4294967296), by omega, by omega, by go_num, by simp, ?_, by simp [Hl.out], Lim_set hmk _ _ (by omega), ?_, hmut1.setCell _ _⟩
        · have := hrk1.set (at' + k) ((t + (x + y)) % 4294967296); simpa using this
        · show _ = _
          have h1 := addStep rk (at' + k) t x y _ (by rw [Hl.out]; omega) Hx.out hv.out
          rw [show at' + (k + 1) = at' + k + 1 from rfl, h1, val_take_succ, Hy.out, Nat.pow_add, Nat.mul_add, Nat.add_assoc, Nat.mul_left_comm y]
      case measure => simp [intOf]; omega
    · have hke : k = lb.length := by omega
      subst hke
      rw [List.take_of_length_le (Nat.le_refl _)] at hv
      go_wp2
      go_loopw [6, 8] (fun c i wr => ∃ (j t : Nat) (rk : List Nat), j ≤ r.length ∧ t ≤ 1 ∧ i = .int .i64 j ∧ c = .int .u64 t ∧ Row wr g rk ∧ rk.length = r.length ∧ Lim rk ∧ Hid (val rk + t * 4294967296 ^ j = val r + 4294967296 ^ at' * val lb) ∧ Mut g w wr) (fun _ i _ => r.length - (intOf i).toNat)
      case atStart => exact ⟨at' + lb.length, t, rk, by omega, ht, by go_num, rfl, hrk, hlen, hmk, hv, hmut⟩
      case round =>
        clear hv hmut hmk hlen hrk hkl hk ht
        obtain ⟨j, t, rk, hj, ht, rfl, rfl, hrk, hlen, hmk, hv, hmut⟩ := hrel
        by_cases ht0 : 0 < t
        · have hjl : j < r.length := by
            rcases Nat.lt_or_ge j r.length with h | h
            · exact h
            · exact absurd (val_ge_pow hmk j t _ (by omega) ht0 hv.out (by rw [hlen]; exact hroom)) id
          have hc2 := hrk.cell j (by omega)
          have hfz := hrk.frozen j
          obtain ⟨x, hx⟩ : ∃ x, rk.getD j 0 = x := ⟨_, rfl⟩
          have hxl : x < 4294967296 := hx ▸ Lim_getD hmk _
          rw [hx] at hc2
          have Hx : Hid (rk.getD j 0 = x) := hx; clear hx
          have Hl : Hid (rk.length = r.length) := hlen; clear hlen
          go_wp2
          go_roundw
          case rel =>
            refine ⟨j + 1, (t + (x + 0)) / 4294967296, rk.set j ((t + (x + 0)) % 4294967296), by omega, by omega, by go_num, by simp, ?_, by simp [Hl.out], Lim_set hmk _ _ (by omega), ?_, hmut.setCell _ _⟩
            · have := hrk.set j ((t + (x + 0)) % 4294967296); simpa using this
            · show _ = _
              have h1 := addStep rk j t x 0 _ (by rw [Hl.out]; omega) Hx.out hv.out
              rw [h1]; omega
          case measure => simp [intOf]; omega
        · go_wp2
          go_end0
          have ht1 : t = 0 := by omega
          subst ht1
          refine ⟨rfl, rk, hrk, hlen, hmk, ?_, hmut⟩
          have := hv.out
          omega
end Go.Proofs.YtpdjpjkieafnbaaGreatDoor.Li
set_option linter.unusedVariables false
set_option linter.unusedSimpArgs false
namespace Go.Proofs.YtpdjpjkieafnbaaGreatDoor.Li
open Go.RowKit Lb
/-- A natural without needless limbs, in memory of the call's own. -/
def NatR (B : Nat) (w : World) (v : Value) (n : Nat) : Prop := ∃ l, Res B w v l ∧ Lim l ∧ Nrm l ∧ val l = n
theorem Lim_snoc {l : List Nat} (h : Lim l) (x : Nat) (hx : x < 4294967296) : Lim (l ++ [x]) := by
  intro y hy
  simp at hy
  rcases hy with hy | hy
  · exact h y hy
  · omega
theorem sum_room (x y : List Nat) (hx : Lim x) (hy : Lim y) (h : y.length ≤ x.length) : val (x ++ [0]) + 4294967296 ^ 0 * val y < 4294967296 ^ (x ++ [0]).length := by
  have h1 := val_lt hx
  have h2 := val_lt hy
  have h3 : 4294967296 ^ y.length ≤ 4294967296 ^ x.length := Nat.pow_le_pow_right (by omega) h
  rw [val_append, List.length_append, Nat.pow_add]
  simp [val]
  omega
set_option maxRecDepth 100000 in
set_option maxHeartbeats 400000 in
theorem sum_any (a b : Option Addr) (ca cb : Nat) (la lb : List Nat) (w : World) (hla : la.length ≤ 70368744177663) (hlb : lb.length ≤ 70368744177663) (hra : Rd w a la) (hrb : Rd w b lb) (hma : Lim la) (hmb : Lim lb) :
    Calls Tryz.prog 118 #[.slice a la.length ca, .slice b lb.length cb] w fun e w' => ∃ v, e = .returned v ∧ NatR w.heap.size w' v (val la + val lb) ∧ Keep w w' := by
  by_cases hlt : la.length < lb.length
  · have hge : decide (la.length < lb.length) = true := by simp; omega
    have hlen : (lb ++ [0]).length = lb.length + 1 := by simp
    have hroom : val (lb ++ [0]) + 4294967296 ^ 0 * val la < 4294967296 ^ (lb ++ [0]).length := sum_room lb la hmb hma (by omega)
    have hmz : Lim (lb ++ [0]) := Lim_snoc hmb 0 (by omega)
    have hsz : lb.length + 1 ≤ 70368744177664 := by omega
    have hdl : lb.length ≤ lb.length + 1 := by omega
    go_enter Tryz.func118, Tryz.ntmps118
    go_wp2_with (first | (at_make; refine wpList_make32 _ rfl _ _ rfl _ _ _ _ (lb.length + 1) rfl rfl ?_ ?_ hsz ?_; rotate_left; rotate_left; intro w1 hrow hk hsz1) | (with_reducible show wpList _ _ _ (Oper.mk _ (Op.call { callee := Callee.builtin Builtin.copy, args := _, argTypes := _ }) _ _ _ _ :: _) _ _; refine wpList_copy32 rfl _ _ rfl _ _ _ _ _ lb rfl rfl w.heap.size 0 _ hrow hdl (fun _ => rfl) (hrb.keep hk) ?_ ?_; rotate_left; intro w2 hrow2 hm2))
    have hrow3 : Row w2 w.heap.size (lb ++ [0]) := by
      rw [show List.replicate (lb.length + 1) 0 = List.replicate lb.length 0 ++ [0] from by rw [List.replicate_succ']] at hrow2
      simpa using hrow2
    have hk2 : Keep w w2 := hk.mut hm2 (Nat.le_refl _)
    have hA := addAt_any w.heap.size _ ca 0 (lb ++ [0]) la w2 (by rw [hlen]; exact hsz) hrow3 (hra.keep hk2) (Off.of_lt hra (Nat.le_refl _)) hmz hma (by rw [hlen]; omega) hroom
    rw [hlen] at hA
    refine hA.mono ?_
    rintro e w3 ⟨rfl, r', hr', hl', hm', hv', hmu'⟩
    go_wp2_with fail
    have hT := trim_any (some ⟨w.heap.size, 0, none⟩) r'.length r' w3 (Nat.le_refl _) (by rw [hl']; omega) (by have := hr'.rd 0 r'.length (by omega); simpa using this)
    rw [hl'] at hT
    refine hT.mono ?_
    rintro e w4 ⟨rfl, rfl⟩
    go_wp2
    go_ret
    refine ⟨_, rfl, ⟨r'.take (nl r'), ?_, Lim_take hm' _, Nrm_take _, ?_⟩, hk2.mut hmu' (Nat.le_refl _)⟩
    · have : Res w.heap.size w4 (.slice (some ⟨w.heap.size, 0, none⟩) r'.length r'.length) r' := .inr ⟨_, r', rfl, Nat.le_refl _, hr', Nat.le_refl _, List.take_of_length_le (Nat.le_refl _)⟩
      have := this.cut (nl_le r')
      rw [hl'] at this
      exact this
    · rw [val_take_nl, hv', val_append]; simp [val]; omega
    all_goals simp
  · have hge : decide (la.length < lb.length) = false := by simp; omega
    have hlen : (la ++ [0]).length = la.length + 1 := by simp
    have hroom : val (la ++ [0]) + 4294967296 ^ 0 * val lb < 4294967296 ^ (la ++ [0]).length := sum_room la lb hma hmb (by omega)
    have hmz : Lim (la ++ [0]) := Lim_snoc hma 0 (by omega)
    have hsz : la.length + 1 ≤ 70368744177664 := by omega
    have hdl : la.length ≤ la.length + 1 := by omega
    go_enter Tryz.func118, Tryz.ntmps118
    go_wp2_with (first | (at_make; refine wpList_make32 _ rfl _ _ rfl _ _ _ _ (la.length + 1) rfl rfl ?_ ?_ hsz ?_; rotate_left; rotate_left; intro w1 hrow hk hsz1) | (with_reducible show wpList _ _ _ (Oper.mk _ (Op.call { callee := Callee.builtin Builtin.copy, args := _, argTypes := _ }) _ _ _ _ :: _) _ _; refine wpList_copy32 rfl _ _ rfl _ _ _ _ _ la rfl rfl w.heap.size 0 _ hrow hdl (fun _ => rfl) (hra.keep hk) ?_ ?_; rotate_left; intro w2 hrow2 hm2))
    have hrow3 : Row w2 w.heap.size (la ++ [0]) := by
      rw [show List.replicate (la.length + 1) 0 = List.replicate la.length 0 ++ [0] from by rw [List.replicate_succ']] at hrow2
      simpa using hrow2
    have hk2 : Keep w w2 := hk.mut hm2 (Nat.le_refl _)
    have hA := addAt_any w.heap.size _ cb 0 (la ++ [0]) lb w2 (by rw [hlen]; exact hsz) hrow3 (hrb.keep hk2) (Off.of_lt hrb (Nat.le_refl _)) hmz hmb (by rw [hlen]; omega) hroom
    rw [hlen] at hA
    refine hA.mono ?_
    rintro e w3 ⟨rfl, r', hr', hl', hm', hv', hmu'⟩
    go_wp2_with fail
    have hT := trim_any (some ⟨w.heap.size, 0, none⟩) r'.length r' w3 (Nat.le_refl _) (by rw [hl']; omega) (by have := hr'.rd 0 r'.length (by omega); simpa using this)
    rw [hl'] at hT
    refine hT.mono ?_
    rintro e w4 ⟨rfl, rfl⟩
    go_wp2
    go_ret
    refine ⟨_, rfl, ⟨r'.take (nl r'), ?_, Lim_take hm' _, Nrm_take _, ?_⟩, hk2.mut hmu' (Nat.le_refl _)⟩
    · have : Res w.heap.size w4 (.slice (some ⟨w.heap.size, 0, none⟩) r'.length r'.length) r' := .inr ⟨_, r', rfl, Nat.le_refl _, hr', Nat.le_refl _, List.take_of_length_le (Nat.le_refl _)⟩
      have := this.cut (nl_le r')
      rw [hl'] at this
      exact this
    · rw [val_take_nl, hv', val_append]; simp [val]
    all_goals simp
end Go.Proofs.YtpdjpjkieafnbaaGreatDoor.Li
set_option linter.unusedVariables false
set_option linter.unusedSimpArgs false
namespace Go.Proofs.YtpdjpjkieafnbaaGreatDoor.Li
open Go.RowKit Lb
theorem set_mid (r q : List Nat) (m y : Nat) (h : m < r.length) : (r.take (m + 1) ++ q).set m y = r.take m ++ (y :: q) := by
  rw [take_snoc r m h, List.append_assoc]
  have e : (r.take m).length = m := by simp; omega
  rw [List.set_append_right _ _ (by omega), e, Nat.sub_self]
  rfl
theorem get_mid (r q : List Nat) (m : Nat) (h : m < r.length) : (r.take (m + 1) ++ q).getD m 0 = r.getD m 0 := by
  have e : m < (r.take (m + 1)).length := by simp; omega
  simp only [List.getD]
  rw [List.getElem?_append_left e, List.getElem?_take_of_lt (by omega)]
theorem divStep (v q c by' x : Nat) (h0 : 0 < by') (hq : q = v / by') (hc : c = v % by') :
    ((c * 4294967296 + x) / by') + 4294967296 * q = (x + 4294967296 * v) / by' ∧ (c * 4294967296 + x) % by' = (x + 4294967296 * v) % by' := by
  have hv : v = by' * q + c := by rw [hq, hc]; exact (Nat.div_add_mod v by').symm
  have e : x + 4294967296 * v = (c * 4294967296 + x) + by' * (4294967296 * q) := by
    rw [hv, Nat.mul_add, Nat.mul_left_comm]; omega
  rw [e, Nat.add_mul_div_left _ _ h0, Nat.add_mul_mod_self_left]
  exact ⟨rfl, rfl⟩
set_option maxRecDepth 100000 in
set_option maxHeartbeats 400000 in
theorem divideSmall_any (g c n by' : Nat) (r : List Nat) (w : World) (hrl : r.length ≤ 70368744177664) (hn : n ≤ r.length) (hrow : Row w g r) (hm : Lim r) (h0 : 0 < by') (hby : by' < 4294967296) :
    Calls Tryz.prog 127 #[.slice (some ⟨g, 0, none⟩) n c, .int .u32 (by' : Nat)] w fun e w' => e = .returned (.int .u32 (val (r.take n) % by' : Nat)) ∧ ∃ q, Row w' g (q ++ r.drop n) ∧ q.length = n ∧ Lim q ∧ val q = val (r.take n) / by' ∧ Mut g w w' := by
  go_enter Tryz.func127, Tryz.ntmps127
  go_wp2
  go_loopw [5, 10] (fun t i wr => ∃ (k c : Nat) (q : List Nat), k ≤ n ∧ i = .int .i64 k ∧ t = .int .u64 c ∧ Row wr g (r.take (n - k) ++ (q ++ r.drop n)) ∧ q.length = k ∧ Lim q ∧ Hid (val q = val ((r.take n).drop (n - k)) / by') ∧ Hid (c = val ((r.take n).drop (n - k)) % by') ∧ Mut g w wr) (fun _ i _ => n - (intOf i).toNat)
  case atStart => exact ⟨0, 0, [], by omega, rfl, rfl, by simpa using hrow, rfl, by intro x hx; simp at hx, by show _ = _; rw [List.drop_eq_nil_of_le (by simp; omega)]; simp [val], by show _ = _; rw [List.drop_eq_nil_of_le (by simp; omega)]; simp [val], Mut.refl _ _⟩
  case round =>
    obtain ⟨k, c', q, hk, rfl, rfl, hrk, hql, hmq, hv, hcv, hmut⟩ := hrel
    by_cases hkl : k < n
    · obtain ⟨m, hm1⟩ : ∃ m, n - k = m + 1 := ⟨n - k - 1, by omega⟩
      have hmr : m < r.length := by omega
      rw [hm1] at hrk hv hcv
      have hc := hrk.cell m (by simp; omega)
      rw [get_mid r _ m hmr] at hc
      have hfz := hrk.frozen m
      obtain ⟨x, hx⟩ : ∃ x, r.getD m 0 = x := ⟨_, rfl⟩
      have hxl : x < 4294967296 := hx ▸ Lim_getD hm _
      rw [hx] at hc
      have hcl : c' < by' := by rw [hcv.out]; exact Nat.mod_lt _ h0
      have hcl2 : c' < 4294967296 := by omega
      have hor := or64' c' x hcl2 hxl
      have hdrop : Hid (val ((r.take n).drop m) = x + 4294967296 * val ((r.take n).drop (m + 1))) := by
        show _ = _
        have h1 := val_drop_pred (r.take n) (m + 1) (by omega) (by simp; omega)
        rw [Nat.add_sub_cancel] at h1
        rw [h1, ← hx]
        simp [List.getD, show m < n by omega]
      have hst := divStep _ _ _ by' x h0 hv.out hcv.out
      have Hst : Hid ((c' * 4294967296 + x) / by' + 4294967296 * val q = (x + 4294967296 * val ((r.take n).drop (m + 1))) / by' ∧ (c' * 4294967296 + x) % by' = (x + 4294967296 * val ((r.take n).drop (m + 1))) % by') := hst
      have hqb : (c' * 4294967296 + x) / by' < 4294967296 := by
        rw [Nat.div_lt_iff_lt_mul h0]
        have : c' * 4294967296 + 4294967296 ≤ by' * 4294967296 := by omega
        omega
      have e1 : n - 1 - k = m := by omega
      have e2 : Hid (n - (k + 1) = m) := by show _ = _; omega
      have Hx : Hid (r.getD m 0 = x) := hx
      have hidx : (n : Int) - 1 - (k : Int) = (m : Int) := by omega
      clear hx hst e1 hm1
      go_wp2
      go_roundw
      case rel =>
        refine ⟨k + 1, (c' * 4294967296 + x) % by', (c' * 4294967296 + x) / by' :: q, by omega, by go_num, by simp, ?_, by simp [hql], ?_, ?_, ?_, hmut.setCell _ _⟩
        · have h1 := hrk.set m ((c' * 4294967296 + x) / by')
          rw [set_mid r _ m _ hmr] at h1
          rw [e2.out]
          have ev : ((c' : Int) * 4294967296 + (x : Int)) / (by' : Int) % 4294967296 = (((c' * 4294967296 + x) / by' : Nat) : Int) := by
            rw [show ((c' : Int) * 4294967296 + (x : Int)) / (by' : Int) = (((c' * 4294967296 + x) / by' : Nat) : Int) from by simp]
            exact Int.emod_eq_of_lt (Int.natCast_nonneg _) (by generalize (c' * 4294967296 + x) / by' = Q at hqb ⊢; omega)
          rw [ev]
          exact h1
        · intro y hy
          simp at hy
          rcases hy with rfl | hy
          · exact hqb
          · exact hmq y hy
        · show _ = _
          rw [e2.out, hdrop.out, val, Hst.out.1]
        · show _ = _
          rw [e2.out, hdrop.out, Hst.out.2]
      case measure => simp [intOf]; omega
    · go_wp2
      go_ret
      have hke : k = n := by omega
      subst hke
      rw [Nat.sub_self] at hrk hv hcv
      rw [List.drop_zero] at hv hcv
      exact ⟨ret_int (by have hcl : c' < by' := (by rw [hcv.out]; exact Nat.mod_lt _ h0); rw [← hcv.out]; omega), q, by simpa using hrk, hql, hmq, hv.out, hmut⟩
end Go.Proofs.YtpdjpjkieafnbaaGreatDoor.Li
set_option linter.unusedVariables false
set_option linter.unusedSimpArgs false
namespace Go.Proofs.YtpdjpjkieafnbaaGreatDoor.Li
open Go.RowKit Lb
def cmpN (x y : Nat) : Int := if x < y then -1 else if y < x then 1 else 0
theorem cmpTop_eq (a b : List Nat) (ha : Lim a) (hb : Lim b) : ∀ k, k ≤ a.length → k ≤ b.length → cmpTop a b k = cmpN (val (a.take k)) (val (b.take k)) := by
  intro k
  induction k with
  | zero => intro _ _; simp [cmpTop, cmpN, val]
  | succ k ih =>
    intro h1 h2
    have e1 := val_take_succ a k
    have e2 := val_take_succ b k
    have l1 : val (a.take k) < 4294967296 ^ k := by
      have := val_lt (Lim_take ha k); rwa [show (a.take k).length = k by simp; omega] at this
    have l2 : val (b.take k) < 4294967296 ^ k := by
      have := val_lt (Lim_take hb k); rwa [show (b.take k).length = k by simp; omega] at this
    have ih' := ih (by omega) (by omega)
    rw [cmpTop]
    generalize 4294967296 ^ k = X at *
    rcases Nat.lt_trichotomy (a.getD k 0) (b.getD k 0) with h | h | h
    · have := Nat.mul_le_mul_right X (show a.getD k 0 + 1 ≤ b.getD k 0 from h)
      rw [Nat.add_mul] at this
      rw [if_pos h]; unfold cmpN; rw [if_pos (by omega)]
    · rw [if_neg (by omega), if_neg (by omega), ih', e1, e2, h]
      unfold cmpN
      simp only [Nat.add_lt_add_iff_right]
    · have := Nat.mul_le_mul_right X (show b.getD k 0 + 1 ≤ a.getD k 0 from h)
      rw [Nat.add_mul] at this
      rw [if_neg (by omega), if_pos h]; unfold cmpN; rw [if_neg (by omega), if_pos (by omega)]
theorem len_lt_val {a b : List Nat} (ha : Lim a) (nb : Nrm b) (h : a.length < b.length) : val a < val b := by
  have h1 := val_lt ha
  have h2 := val_ge nb (by intro h0; simp [h0] at h)
  have h3 : 4294967296 ^ a.length ≤ 4294967296 ^ (b.length - 1) := Nat.pow_le_pow_right (by omega) (by omega)
  omega
theorem cmpL_eq (a b : List Nat) (ha : Lim a) (hb : Lim b) (na : Nrm a) (nb : Nrm b) : cmpL a b = cmpN (val a) (val b) := by
  unfold cmpL
  split
  · rename_i h
    unfold cmpN; rw [if_pos (len_lt_val ha nb h)]
  · split
    · rename_i h
      have := len_lt_val hb na h
      unfold cmpN; rw [if_neg (by omega), if_pos this]
    · have hl : a.length = b.length := by omega
      rw [cmpTop_eq a b ha hb _ (Nat.le_refl _) (by omega), List.take_of_length_le (Nat.le_refl _), hl, List.take_of_length_le (Nat.le_refl _)]
theorem cmpL_lt {a b : List Nat} (ha : Lim a) (hb : Lim b) (na : Nrm a) (nb : Nrm b) (h : val a < val b) : cmpL a b = -1 := by rw [cmpL_eq a b ha hb na nb, cmpN, if_pos h]
theorem cmpL_ge {a b : List Nat} (ha : Lim a) (hb : Lim b) (na : Nrm a) (nb : Nrm b) (h : ¬ val a < val b) : 0 ≤ cmpL a b := by
  rw [cmpL_eq a b ha hb na nb, cmpN, if_neg h]; split <;> omega
theorem NatR.of_trim {B : Nat} {w : World} {a : Option Addr} {n c : Nat} {l : List Nat} (h : Res B w (.slice a n c) l) (hm : Lim l) : NatR B w (.slice a (nl l) c) (val l) :=
  ⟨l.take (nl l), h.cut (nl_le l), Lim_take hm _, Nrm_take _, val_take_nl l⟩
theorem NatR.keep {B : Nat} {w w' : World} {v : Value} {n : Nat} (h : NatR B w v n) (k : Keep w w') : NatR B w' v n := by
  obtain ⟨l, h1, h2⟩ := h; exact ⟨l, h1.keep k, h2⟩
theorem NatR.mono {B B' : Nat} {w : World} {v : Value} {n : Nat} (h : NatR B w v n) (hB : B' ≤ B) : NatR B' w v n := by
  obtain ⟨l, h1, h2⟩ := h; exact ⟨l, h1.mono hB, h2⟩
theorem Row.res {w : World} {g : Nat} {l : List Nat} (h : Row w g l) {B : Nat} (hB : B ≤ g) : Res B w (.slice (some ⟨g, 0, none⟩) l.length l.length) l :=
  .inr ⟨g, l, rfl, hB, h, Nat.le_refl _, List.take_of_length_le (Nat.le_refl _)⟩
theorem Row.rd0 {w : World} {g : Nat} {l : List Nat} (h : Row w g l) : Rd w (some ⟨g, 0, none⟩) l := by
  have := h.rd 0 l.length (by omega); simpa using this
set_option maxRecDepth 100000 in
set_option maxHeartbeats 400000 in
theorem divide_less (a b : Option Addr) (ca cb : Nat) (la lb : List Nat) (w : World) (hla : la.length ≤ 70368744177664) (hlb : lb.length ≤ 70368744177664) (hra : Rd w a la) (hrb : Rd w b lb) (hma : Lim la) (hmb : Lim lb) (na : Nrm la) (nb : Nrm lb) (hlt : val la < val lb) :
    Calls Tryz.prog 79 #[.slice a la.length ca, .slice b lb.length cb] w fun e w' => ∃ vq vr, e = .returned (.tuple #[vq, vr]) ∧ NatR w.heap.size w' vq (val la / val lb) ∧ NatR w.heap.size w' vr (val la % val lb) ∧ Keep w w' := by
  have hcm := cmpL_lt hma hmb na nb hlt
  have hc := compare_any a b ca cb la lb w (by omega) (by omega) hra hrb
  rw [hcm] at hc
  have hf := fun w1 (hk : Keep w w1) => fresh_any a ca la w1 hla (hra.keep hk)
  clear hcm
  go_enter Tryz.func79, Tryz.ntmps79
  go_wp2_with fail
  refine hc.mono ?_
  rintro e w1 ⟨rfl, hd⟩
  go_wp2_with fail
  refine (hf w1 hd.keep).mono ?_
  rintro e w2 ⟨rfl, hrow, hk, -⟩
  go_wp2
  go_ret2
  refine ⟨_, _, rfl, ⟨[], .inl ⟨rfl, rfl⟩, by intro x hx; simp at hx, by simp [Nrm], by rw [Nat.div_eq_of_lt hlt]; rfl⟩, ⟨la, (hrow.res (Nat.le_refl _)).mono hd.keep.le, hma, na, (Nat.mod_eq_of_lt hlt).symm⟩, hd.keep.trans hk⟩
set_option maxRecDepth 100000 in
set_option maxHeartbeats 400000 in
theorem divide_one (a b : Option Addr) (ca cb : Nat) (la : List Nat) (y : Nat) (w : World) (hla : la.length ≤ 70368744177664) (hra : Rd w a la) (hrb : Rd w b [y]) (hma : Lim la) (na : Nrm la) (hy0 : 0 < y) (hy : y < 4294967296) (hge : ¬ val la < y) :
    Calls Tryz.prog 79 #[.slice a la.length ca, .slice b 1 cb] w fun e w' => ∃ vq vr, e = .returned (.tuple #[vq, vr]) ∧ NatR w.heap.size w' vq (val la / y) ∧ NatR w.heap.size w' vr (val la % y) ∧ Keep w w' := by
  have hmb : Lim [y] := by intro x hx; simp at hx; omega
  have nb : Nrm [y] := by simp [Nrm]; omega
  have hcm := cmpL_ge hma hmb na nb (by simpa [val] using hge)
  have hc := compare_any a b ca cb la [y] w (by omega) (by simp) hra hrb
  have hf := fun w1 (hk : Keep w w1) => fresh_any a ca la w1 hla (hra.keep hk)
  generalize cmpL la [y] = z at hcm hc
  have hz : decide (z < 0) = false := by simp; omega
  go_enter Tryz.func79, Tryz.ntmps79
  go_wp2_with fail
  refine hc.mono ?_
  rintro e w1 ⟨rfl, hd⟩
  go_wp2_with fail
  refine (hf w1 hd.keep).mono ?_
  rintro e w2 ⟨rfl, hrow, hk, hsz⟩
  obtain ⟨b1, o1, rfl, hcb⟩ := (hrb.keep (hd.keep.trans hk)) 0 (by simp)
  simp at hcb
  go_wp2_with fail
  have hD := divideSmall_any w1.heap.size la.length la.length y la w2 hla (Nat.le_refl _) hrow hma hy0 hy
  rw [List.take_of_length_le (Nat.le_refl _), List.drop_eq_nil_of_le (Nat.le_refl _)] at hD
  refine hD.mono ?_
  rintro e w3 ⟨rfl, q, hrq, hql, hmq, hvq, hmu⟩
  rw [List.append_nil] at hrq
  clear hD
  have hk3 : Keep w w3 := (hd.keep.trans hk).mut hmu hd.keep.le
  have hrm : val la % y < 4294967296 := Nat.lt_trans (Nat.mod_lt _ hy0) hy
  obtain ⟨t, ht⟩ : ∃ t, val la % y = t := ⟨_, rfl⟩
  rw [ht] at hrm ⊢
  have Ht : Hid (val la % y = t) := ht
  clear ht
  have hT := trim_any (some ⟨w1.heap.size, 0, none⟩) q.length q w3 (Nat.le_refl _) (by omega) hrq.rd0
  rw [hql] at hT
  clear hcb
  go_wp2_with fail
  refine hT.mono ?_
  rintro e w4 ⟨rfl, rfl⟩
  go_wp2_with fail
  have hrow5 : Row (w4.alloc (Obj.cells #[Value.int IntKind.u32 ↑t] 40)) w4.heap.size [t] := by
    unfold Row; rw [heap_alloc_new]; simp [U]
  have hk5 : Keep w4 (w4.alloc (Obj.cells #[Value.int IntKind.u32 ↑t] 40)) := (Keep.refl w4).alloc _
  generalize w4.alloc _ = w5 at hrow5 hk5 ⊢
  refine (trim_any (some ⟨w4.heap.size, 0, none⟩) 1 [t] w5 (by simp) (by simp) hrow5.rd0).mono ?_
  rintro e w6 ⟨rfl, rfl⟩
  go_wp2
  go_ret2
  refine ⟨_, _, rfl, ?_, ?_, hk3.trans hk5⟩
  · have h1 := NatR.of_trim (((hrq.keep hk5).res (B := w.heap.size) hd.keep.le)) hmq
    rw [hql, hvq] at h1
    exact h1
  · have h1 := NatR.of_trim (hrow5.res (B := w.heap.size) hk3.le) (by intro x hx; simp at hx; omega)
    rw [Ht.out]
    simpa [val] using h1
end Go.Proofs.YtpdjpjkieafnbaaGreatDoor.Li
set_option linter.unusedVariables false
set_option linter.unusedSimpArgs false
namespace Go.Proofs.YtpdjpjkieafnbaaGreatDoor.Li
open Go.RowKit Lb
set_option maxRecDepth 100000 in
set_option maxHeartbeats 400000 in
theorem DivMod_of (a b : Option Addr) (ca cb : Nat) (la lb : List Nat) (w : World) (hca : la.length ≤ ca) (hcb : lb.length ≤ cb) (hla : la.length ≤ 70368744177664) (hlb : lb.length ≤ 70368744177664) (hra : Rd w a la) (hrb : Rd w b lb)
    (hb0 : nl lb ≠ 0)
    (hdiv : Calls Tryz.prog 79 #[.slice a (nl la) ca, .slice b (nl lb) cb] w fun e w' => ∃ vq vr, e = .returned (.tuple #[vq, vr]) ∧ NatR w.heap.size w' vq (val la / val lb) ∧ NatR w.heap.size w' vr (val la % val lb) ∧ Keep w w') :
    Calls Tryz.prog 113 #[.slice a la.length ca, .slice b lb.length cb] w fun e w' => ∃ vq vr, e = .returned (.tuple #[vq, vr, .int .i64 0]) ∧ NatR w.heap.size w' vq (val la / val lb) ∧ NatR w.heap.size w' vr (val la % val lb) ∧ Keep w w' := by
  have t1 := trim_any a ca la w hca (by omega) hra
  have t2 := trim_any b cb lb w hcb (by omega) hrb
  have h0 : ((nl lb : Int) == 0) = false := by simp; omega
  go_enter Tryz.func113, Tryz.ntmps113
  go_wp2_with fail
  refine t1.mono ?_
  rintro e w' ⟨rfl, rfl⟩
  go_wp2_with fail
  refine t2.mono ?_
  rintro e w' ⟨rfl, rfl⟩
  go_wp2_with fail
  refine hdiv.mono ?_
  rintro e w1 ⟨vq, vr, rfl, hq, hr, hk⟩
  go_wp2
  go_ret3
  exact ⟨_, _, rfl, hq, hr, hk⟩
theorem NatR.shape {B : Nat} {w : World} {v : Value} {n : Nat} (h : NatR B w v n) : ∃ a c l, v = .slice a l.length c ∧ l.length ≤ c ∧ Rd w a l ∧ Lim l ∧ Nrm l ∧ val l = n ∧ Res B w v l := by
  obtain ⟨l, h1, h2, h3, h4⟩ := h
  obtain ⟨a, c, e, hc, hr⟩ := h1.shape
  exact ⟨a, c, l, e, hc, hr, h2, h3, h4, h1⟩
/-- What divide does, up to so many limbs of the divisor. -/
def DivideSaid (K : Nat) : Prop := ∀ (a b : Option Addr) (ca cb : Nat) (la lb : List Nat) (w : World), la.length ≤ 70368744177663 → lb.length ≤ K → Rd w a la → Rd w b lb → Lim la → Lim lb → Nrm la → Nrm lb → lb ≠ [] →
    Calls Tryz.prog 79 #[.slice a la.length ca, .slice b lb.length cb] w fun e w' => ∃ vq vr, e = .returned (.tuple #[vq, vr]) ∧ NatR w.heap.size w' vq (val la / val lb) ∧ NatR w.heap.size w' vr (val la % val lb) ∧ Keep w w'
theorem divide_K1 : DivideSaid 1 := by
  intro a b ca cb la lb w hla hlb hra hrb hma hmb na nb hb0
  by_cases hlt : val la < val lb
  · exact divide_less a b ca cb la lb w (by omega) (by omega) hra hrb hma hmb na nb hlt
  · have hl1 : 0 < lb.length := List.length_pos_iff.2 hb0
    obtain ⟨y, rfl⟩ : ∃ y, lb = [y] := List.length_eq_one_iff.1 (by omega)
    have hy : y < 4294967296 := hmb y (by simp)
    have hy0 : 0 < y := by simp [Nrm] at nb; omega
    have hv : val [y] = y := by simp [val]
    rw [hv] at hlt ⊢
    exact divide_one a b ca cb la y w (by omega) hra hrb hma na hy0 hy hlt
end Go.Proofs.YtpdjpjkieafnbaaGreatDoor.Li
set_option linter.unusedVariables false
set_option linter.unusedSimpArgs false
namespace Go.Proofs.YtpdjpjkieafnbaaGreatDoor.Li
open Go.RowKit Lb
/-- A quotient's variable. -/
def Box (w : World) (g : Nat) (x y z : Value) : Prop := w.heap[g]? = some (.cells #[x, y, z] 54 (0, 0))
theorem Box.keep {w w' : World} {g : Nat} {x y z : Value} (h : Box w g x y z) (k : Keep w w') : Box w' g x y z := by
  unfold Box; rw [k.block g (Array.getElem?_eq_some_iff.1 h).1]; exact h
theorem Box.cells {w : World} {g : Nat} {x y z : Value} (h : Box w g x y z) : w.cell? ⟨g, 0, none⟩ = some x ∧ w.cell? ⟨g, 1, none⟩ = some y ∧ w.cell? ⟨g, 2, none⟩ = some z := by
  refine ⟨?_, ?_, ?_⟩ <;> rw [cell_of_row w g _ _ 54 (0, 0) h] <;> rfl
theorem Box.free {w : World} {g : Nat} {x y z : Value} (h : Box w g x y z) (j : Nat) : w.frozen? ⟨g, j, none⟩ = false := frozen_of_row w g j _ 54 h
theorem Box.new (w : World) (x y z : Value) : Box (w.alloc (.cells #[x, y, z] 54)) w.heap.size x y z := heap_alloc_new w _
theorem Res.mut {B g : Nat} {w w' : World} {v : Value} {l : List Nat} (h : Res B w v l) (k : Mut g w w') (hg : g < B) : Res B w' v l := by
  rcases h with h | ⟨g', r, e, hb, hr, h1, h2⟩
  · exact .inl h
  · exact .inr ⟨g', r, e, hb, hr.mut k (by omega), h1, h2⟩
theorem NatR.mut {B g : Nat} {w w' : World} {v : Value} {n : Nat} (h : NatR B w v n) (k : Mut g w w') (hg : g < B) : NatR B w' v n := by
  obtain ⟨l, h1, h2⟩ := h; exact ⟨l, h1.mut k hg, h2⟩
end Go.Proofs.YtpdjpjkieafnbaaGreatDoor.Li
set_option linter.unusedVariables false
set_option linter.unusedSimpArgs false
namespace Go.Proofs.YtpdjpjkieafnbaaGreatDoor.Li
open Go.RowKit Lb
/-- Bytes as cells. -/
def V8 (l : List Nat) : List Value := l.map (fun x => Value.int .u8 (x : Nat))
def Row8 (w : World) (g : Nat) (l : List Nat) : Prop := w.heap[g]? = some (.cells (V8 l).toArray 5 (0, 0))
/-- Of what was there only block g has turned. -/
structure Gr (g : Nat) (w w' : World) : Prop where
  os : w'.os = w.os
  tape : w'.tape = w.tape
  output : w'.output = w.output
  size : w.heap.size ≤ w'.heap.size
  block : ∀ k, k < w.heap.size → k ≠ g → w'.heap[k]? = w.heap[k]?
theorem Gr.refl (g : Nat) (w : World) : Gr g w w := ⟨rfl, rfl, rfl, Nat.le_refl _, fun _ _ _ => rfl⟩
theorem Gr.trans {g : Nat} {a b c : World} (h : Gr g a b) (k : Gr g b c) : Gr g a c :=
  ⟨k.os.trans h.os, k.tape.trans h.tape, k.output.trans h.output, Nat.le_trans h.size k.size, fun i hi hg => (k.block i (Nat.lt_of_lt_of_le hi h.size) hg).trans (h.block i hi hg)⟩
theorem Keep.gr {w w' : World} (h : Keep w w') (g : Nat) : Gr g w w' := ⟨h.os, h.tape, h.output, h.size, fun k hk _ => h.block k hk⟩
theorem Mut.gr {w w' : World} {g : Nat} (h : Mut g w w') : Gr g w w' := ⟨h.os, h.tape, h.output, by rw [h.size]; exact Nat.le_refl _, fun k _ hg => h.block k hg⟩
theorem Gr.mut_new {g g' : Nat} {a b c : World} (h : Gr g a b) (k : Mut g' b c) (hg : a.heap.size ≤ g') : Gr g a c :=
  ⟨k.os.trans h.os, k.tape.trans h.tape, k.output.trans h.output, by rw [k.size]; exact h.size, fun i hi hne => (k.block i (by omega)).trans (h.block i hi hne)⟩
theorem Gr.keep {g : Nat} {a b c : World} (h : Gr g a b) (k : Keep b c) : Gr g a c := h.trans (k.gr g)
theorem Gr.drewN {g : Nat} {a b : World} (h : Gr g a b) (q : Nat) : Gr g a (b.drewN q) := ⟨h.os, h.tape, h.output, h.size, h.block⟩
theorem Row8.lt {w : World} {g : Nat} {l : List Nat} (h : Row8 w g l) : g < w.heap.size := (Array.getElem?_eq_some_iff.1 h).1
theorem V8_get (l : List Nat) (j : Nat) (h : j < l.length) : (V8 l)[j]? = some (.int .u8 (l.getD j 0 : Nat)) := by simp [V8, List.getD, h]
theorem Row8.cell {w : World} {g : Nat} {l : List Nat} (h : Row8 w g l) (j : Nat) (hj : j < l.length) : w.cell? ⟨g, j, none⟩ = some (.int .u8 (l.getD j 0 : Nat)) := by
  rw [cell_of_row w g j _ 5 (0, 0) h]; simpa using V8_get l j hj
theorem Row8.frozen {w : World} {g : Nat} {l : List Nat} (h : Row8 w g l) (j : Nat) : w.frozen? ⟨g, j, none⟩ = false := frozen_of_row w g j _ 5 h
theorem Row8.set {w : World} {g : Nat} {l : List Nat} (h : Row8 w g l) (j x : Nat) : Row8 (w.setCell ⟨g, j, none⟩ (.int .u8 (x : Nat))) g (l.set j x) := by
  have := heap_setCell_same w g j _ 5 (.int .u8 (x : Nat)) h
  unfold Row8
  rw [this]
  simp [V8, List.map_set]
theorem Row8.keep {w w' : World} {g : Nat} {l : List Nat} (h : Row8 w g l) (k : Keep w w') : Row8 w' g l := by
  unfold Row8; rw [k.block g h.lt]; exact h
theorem Row8.mut {w w' : World} {g g' : Nat} {l : List Nat} (h : Row8 w g l) (k : Mut g' w w') (hne : g ≠ g') : Row8 w' g l := by
  unfold Row8; rw [k.block g hne]; exact h
theorem Row.gr {w w' : World} {g g' : Nat} {l : List Nat} (h : Row w g l) (k : Gr g' w w') (hne : g ≠ g') : Row w' g l := by
  unfold Row; rw [k.block g h.lt hne]; exact h
/-- A number's last k decimal digits, noughts ahead, as bytes. -/
def dw : Nat → Nat → List Nat
  | 0, _ => []
  | k + 1, n => dw k (n / 10) ++ [48 + n % 10]
theorem dw_length : ∀ (k n : Nat), (dw k n).length = k
  | 0, _ => rfl
  | k + 1, n => by simp [dw, dw_length k]
theorem dw_cons : ∀ (k n : Nat), dw (k + 1) n = (48 + n / 10 ^ k % 10) :: dw k n
  | 0, n => by simp [dw]
  | k + 1, n => by
    rw [dw, dw_cons k (n / 10), Nat.div_div_eq_div_mul, List.cons_append, Nat.pow_succ, Nat.mul_comm 10]
    rfl
/-- A chunk of up to nine digits is left: how many. -/
def tl (k : Nat) : Nat := (9 - k % 9) % 9
theorem tl_0 (k : Nat) (h : k % 9 = 0) : tl k = 0 := by unfold tl; omega
theorem tl_1 (k : Nat) (h : k % 9 = 0) : tl (k + 1) = 8 := by unfold tl; omega
theorem tl_s (k : Nat) (h : k % 9 ≠ 0) : tl k = tl (k + 1) + 1 := by unfold tl; omega
theorem chunk_step (t C A M : Nat) (h : C + 10 ^ (t + 1) * A = M) : M % 10 = C % 10 ∧ C / 10 + 10 ^ t * A = M / 10 := by
  rw [Nat.pow_succ, Nat.mul_right_comm] at h
  generalize 10 ^ t * A = Z at *
  omega
set_option maxRecDepth 100000 in
set_option maxHeartbeats 800000 in
theorem splitChunks_any (g o n c : Nat) (a : Option Addr) (ca : Nat) (old l : List Nat) (w : World) (hon : o + n ≤ old.length) (hol : old.length ≤ 140737488355328) (hrow : Row8 w g old) (hl : l.length ≤ 70368744177664) (hr : Rd w a l) (hm : Lim l) :
    Calls Tryz.prog 177 #[.slice (some ⟨g, o, none⟩) n c, .slice a l.length ca] w fun e w' => e = .returned (.tuple #[]) ∧ Row8 w' g (old.take o ++ (dw n (val l) ++ old.drop (o + n))) ∧ Gr g w w' := by
  have hf := fresh_any a ca l w hl hr
  go_enter Tryz.func177, Tryz.ntmps177
  go_wp2_with fail
  refine hf.mono ?_
  rintro e w1 ⟨rfl, hr1, hk1, hs1⟩
  have hgs : g < w.heap.size := hrow.lt
  go_wp2
  go_loopw [1, 4, 10] (fun va ch i wr => ∃ (k C na : Nat) (ra : List Nat), k ≤ n ∧ i = .int .i64 k ∧ ch = .int .u32 C ∧ va = .slice (some ⟨w.heap.size, 0, none⟩) na l.length ∧ Row wr w.heap.size ra ∧ Hid (ra.length = l.length) ∧ na ≤ l.length ∧ Lim ra ∧ C < 1000000000 ∧ Hid (C < 10 ^ tl k) ∧ Hid (C + 10 ^ tl k * val (ra.take na) = val l / 10 ^ k) ∧ Row8 wr g (old.take (o + (n - k)) ++ (dw k (val l) ++ old.drop (o + n))) ∧ Gr g w wr) (fun _ _ i _ => n - (intOf i).toNat)
  case atStart => exact ⟨0, 0, l.length, l, by omega, rfl, rfl, rfl, hr1, rfl, Nat.le_refl _, hm, by omega, by show _ < _; simp [tl], by show _ = _; simp [tl], by simpa [dw] using hrow.keep hk1, hk1.gr g⟩
  case round =>
    obtain ⟨k, C, na, ra, hk, rfl, rfl, rfl, hra, hral, hna, hmra, hC, hCt, hv, hr8, hgr⟩ := hrel
    by_cases hkn : k < n
    · obtain ⟨m, hm1⟩ : ∃ m, n - k = m + 1 := ⟨n - k - 1, by omega⟩
      rw [hm1, ← Nat.add_assoc] at hr8
      have hidx : (n : Int) - 1 - (k : Int) = (m : Int) := by omega
      have hml : m < n := by omega
      have hm2 : Hid (n - (k + 1) = m) := by show _ = _; omega
      have hset := fun y => set_mid old (dw k (val l) ++ old.drop (o + n)) (o + m) y (by omega)
      have hlen8 : o + m < (old.take (o + m + 1) ++ (dw k (val l) ++ old.drop (o + n))).length := by simp; omega
      have HS : Hid (∀ y, (old.take (o + m + 1) ++ (dw k (val l) ++ old.drop (o + n))).set (o + m) y = old.take (o + m) ++ (y :: (dw k (val l) ++ old.drop (o + n)))) := hset
      clear hset hm1
      by_cases h9 : k % 9 = 0
      · have hb : ((k : Int) % 9 == 0) = true := by simp; omega
        have hD := divideSmall_any w.heap.size l.length na 1000000000 ra wr (by rw [hral.out]; omega) (by rw [hral.out]; omega) hra hmra (by omega) (by omega)
        go_wp2_with fail
        refine hD.mono ?_
        rintro e w2 ⟨rfl, q, hrq, hql, hmq, hvq, hmu⟩
        clear hD
        have hr82 := hr8.mut hmu (by omega)
        have hgr2 := hgr.mut_new hmu (Nat.le_refl _)
        obtain ⟨C', hC'⟩ : ∃ C', val (ra.take na) % 1000000000 = C' := ⟨_, rfl⟩
        rw [hC']
        have hC2 : C' < 1000000000 := hC' ▸ Nat.mod_lt _ (by omega)
        have HC' : Hid (val (ra.take na) % 1000000000 = C') := hC'
        clear hC'
        have hT := trim_any (some ⟨w.heap.size, 0, none⟩) l.length q w2 (by omega) (by omega) (by have := hrq.rd 0 na (by simp [hql]); simpa [hql] using this)
        rw [hql] at hT
        have Hql : Hid (q.length = na) := hql
        have Hvq : Hid (val q = val (ra.take na) / 1000000000) := hvq
        have hnl := nl_le q
        rw [hql] at hnl
        clear hql hvq
        go_wp2_with fail
        refine hT.mono ?_
        rintro e w3 ⟨rfl, rfl⟩
        have hc := hr82.cell (o + m) hlen8
        have hfz := hr82.frozen (o + m)
        clear hT
        go_wp2
        go_roundw
        case rel =>
          have h10 : (C' + 10 ^ (8 + 1) * val q) = val l / 10 ^ k := by
            have h1 := hv.out
            have h2 : C < 10 ^ tl k := hCt
            rw [tl_0 k h9] at h1 h2
            rw [← h1, Hvq.out, ← HC'.out]
            have h3 := Nat.mod_add_div (val (ra.take na)) 1000000000
            simp only [Nat.pow_zero] at h2 ⊢
            rw [show (10 : Nat) ^ (8 + 1) = 1000000000 from rfl]
            omega
          have hst := chunk_step 8 C' (val q) _ h10
          refine ⟨k + 1, C' / 10, nl q, q ++ ra.drop na, by omega, by go_num, by simp, rfl, hrq.mut ((Mut.refl _ _).setCell _ _) (by omega), ?_, by omega, ?_, by omega, by show _ < _; rw [tl_1 k h9]; omega, ?_, ?_, hgr2.trans ((Mut.refl _ _).setCell _ _).gr⟩
          · show _ = _
            have := hral.out
            have := Hql.out
            simp; omega
          · intro y hy
            rcases List.mem_append.1 hy with hy | hy
            · exact hmq y hy
            · exact hmra y (List.mem_of_mem_drop hy)
          · show _ = _
            rw [tl_1 k h9, List.take_append_of_le_length (nl_le q), val_take_nl, show val l / 10 ^ (k + 1) = val l / 10 ^ k / 10 from by rw [Nat.pow_succ, Nat.div_div_eq_div_mul]]
            exact hst.2
          · rw [hm2.out, dw_cons]
            have h1 := hr82.set (o + m) (48 + C' % 10)
            rw [HS.out] at h1
            rw [hst.1]
            simpa using h1
        case measure => simp [intOf]; omega
      · have hb : ((k : Int) % 9 == 0) = false := by simp; omega
        have hc := hr8.cell (o + m) hlen8
        have hfz := hr8.frozen (o + m)
        go_wp2
        go_roundw
        case rel =>
          have hst := chunk_step (tl (k + 1)) C (val (ra.take na)) (val l / 10 ^ k) (by rw [← tl_s k h9]; exact hv.out)
          refine ⟨k + 1, C / 10, na, ra, by omega, by go_num, by simp, rfl, hra.mut ((Mut.refl _ _).setCell _ _) (by omega), hral, hna, hmra, by omega, ?_, ?_, ?_, hgr.trans ((Mut.refl _ _).setCell _ _).gr⟩
          · show _ < _
            have h2 : C < 10 ^ tl k := hCt
            rw [tl_s k h9, Nat.pow_succ] at h2
            omega
          · show _ = _
            rw [show val l / 10 ^ (k + 1) = val l / 10 ^ k / 10 from by rw [Nat.pow_succ, Nat.div_div_eq_div_mul]]
            exact hst.2
          · rw [hm2.out, dw_cons]
            have h1 := hr8.set (o + m) (48 + C % 10)
            rw [HS.out] at h1
            rw [hst.1]
            simpa using h1
        case measure => simp [intOf]; omega
    · go_wp2
      go_end0
      have hkk : k = n := by omega
      subst hkk
      exact ⟨rfl, by simpa using hr8, hgr⟩
end Go.Proofs.YtpdjpjkieafnbaaGreatDoor.Li
set_option linter.unusedVariables false
set_option linter.unusedSimpArgs false
namespace Go.Proofs.YtpdjpjkieafnbaaGreatDoor.Li
open Go.RowKit Lb
/-- Codes as a string. -/
def S8 (l : List Nat) : ByteArray := ⟨(l.map UInt8.ofNat).toArray⟩
def cut0 (l : List Nat) : List Nat := l.dropWhile (· == 48)
/-- A natural's decimal digits. -/
def dec (n : Nat) : List Nat := if n = 0 then [48] else cut0 (dw n n)
theorem dw_range : ∀ (k n x : Nat), x ∈ dw k n → 48 ≤ x ∧ x < 58
  | 0, _, x, h => by simp [dw] at h
  | k + 1, n, x, h => by
    rw [dw, List.mem_append] at h
    rcases h with h | h
    · exact dw_range k _ x h
    · simp at h; omega
theorem cut0_step (k n : Nat) (h : n < 10 ^ k) : cut0 (dw (k + 1) n) = cut0 (dw k n) := by
  rw [dw_cons, Nat.div_eq_of_lt h]; rfl
theorem cut0_add (n k : Nat) (h : n < 10 ^ k) : ∀ j, cut0 (dw (k + j) n) = cut0 (dw k n)
  | 0 => rfl
  | j + 1 => by
    rw [← Nat.add_assoc, cut0_step (k + j) n (Nat.lt_of_lt_of_le h (Nat.pow_le_pow_right (by omega) (by omega))), cut0_add n k h j]
theorem lt_pow (n : Nat) : n < 10 ^ n := Nat.lt_pow_self (by omega)
theorem cut0_eq (n k : Nat) (h : n < 10 ^ k) : cut0 (dw k n) = cut0 (dw n n) := by
  rw [← cut0_add n k h n, ← cut0_add n n (lt_pow n) k, Nat.add_comm]
theorem all48 : ∀ (k n : Nat), (∀ x ∈ dw k n, x = 48) → n < 10 ^ k → n = 0
  | 0, n, _, h => by simp at h; omega
  | k + 1, n, h, hn => by
    rw [dw] at h
    have h1 := all48 k (n / 10) (fun x hx => h x (by simp [hx])) (by rw [Nat.pow_succ] at hn; omega)
    have h2 := h (48 + n % 10) (by simp)
    omega
theorem cut0_nil : ∀ (l : List Nat), cut0 l = [] → ∀ x ∈ l, x = 48
  | [], _, x, hx => by simp at hx
  | y :: ys, h, x, hx => by
    unfold cut0 at h
    rw [List.dropWhile_cons] at h
    split at h
    · rename_i h1
      simp at hx
      rcases hx with rfl | hx
      · simpa using h1
      · exact cut0_nil ys h x hx
    · simp at h
theorem cut0_ne (n k : Nat) (hn : 0 < n) (h : n < 10 ^ k) : cut0 (dw k n) ≠ [] := by
  intro h0
  have := all48 k n (cut0_nil _ h0) h
  omega
theorem cut0_zero : ∀ k, cut0 (dw k 0) = []
  | 0 => rfl
  | k + 1 => by rw [dw_cons, Nat.zero_div]; exact cut0_zero k
theorem trimLeft_map (l : List Nat) (h : ∀ x ∈ l, x < 256) : Lib.trimLeftB (l.map UInt8.ofNat) 48 = (cut0 l).map UInt8.ofNat := by
  unfold Lib.trimLeftB cut0
  induction l with
  | nil => rfl
  | cons x xs ih =>
    have hx := h x (by simp)
    have e : (UInt8.ofNat x == 48) = (x == 48) := by
      rw [Bool.eq_iff_iff]
      simp only [beq_iff_eq]
      constructor
      · intro h1
        have := congrArg UInt8.toNat h1
        simp at this
        omega
      · intro h1; subst h1; rfl
    rw [List.map_cons, List.dropWhile_cons, List.dropWhile_cons, e]
    split
    · exact ih (fun y hy => h y (by simp [hy]))
    · rfl
theorem i5 : (Tryz.prog.info? 5).map (fun i => (i.zero, i.size, i.bytes)) = some (some (.int .u8 0), 1, 1) := by kernel_rfl
theorem made8 (n : Nat) : madeCells (Value.int .u8 0).cells n = (V8 (List.replicate n 0)).toArray := by
  have := toList_madeCells_one (.int .u8 0) n
  rw [← Array.toList_inj]
  simp only [V8, List.map_replicate]
  exact this
/-- make([]byte, n). -/
theorem wpList_make8 (w : World) {ops : Array Oper} {rest : List Oper} {o : Oper} {a : Act} {Q : Exit → Act → World → Prop}
    (hg : o.guard = none) (l c : Operand) (hop : o.op = Op.makeSlice 61 l c) (kl kc : IntKind) (L C : Int) (n : Nat) (hl : a.eval l = .int kl L) (hc : a.eval c = .int kc C) (hL : L = (n : Int)) (hC : C = (n : Int)) (hn : n ≤ 281474976710656)
    (hK : ∀ w', Row8 w' w.heap.size (List.replicate n 0) → Keep w w' → w'.heap.size = w.heap.size + 1 → wpList Tryz.prog ops Q rest (a.put o.dst (.slice (some ⟨w.heap.size, 0, none⟩) n n)) w') :
    wpList Tryz.prog ops Q (o :: rest) a w := by
  refine wpList_plain hg fun K hK' => ?_
  obtain ⟨i, hi, hz0, hz1, hz2⟩ := info_parts i5
  have hr := run_make (P := Tryz.prog) w 61 5 i _ Tryz.underlying61 hi hz0 kl kc n n (by omega) (by omega) (by rw [hz2]; omega) (by omega)
  subst hL
  subst hC
  rw [hz1] at hr
  unfold Oper.wp
  simp only [Int.toNat_natCast, Nat.mul_one, made8] at hr
  simp [execOp, hop, hl, hc, hr, Result.andThen]
  exact hK' _ _ (hK _ (heap_alloc_new w _) ((Keep.refl w).alloc _) (by simp))
theorem conv8 (w : World) (g c : Nat) (l : List Nat) (h : Row8 w g l) : (convert 61 9 (.slice (some ⟨g, 0, none⟩) l.length c)).run Tryz.prog w = .ok (.string (S8 l)) w := by
  have := run_convert_bytes_arg (P := Tryz.prog) w 61 5 Tryz.underlying61 Tryz.underlying5 g 0 l.length c (l.map (fun x : Nat => (x : Int))) (by simp) (fun i hi => by
    rw [Nat.zero_add, h.cell i hi]; simp [List.getD, hi]) 9 Tryz.underlying9
  rw [this]
  simp [strOfNums, S8]
end Go.Proofs.YtpdjpjkieafnbaaGreatDoor.Li
set_option linter.unusedVariables false
set_option linter.unusedSimpArgs false
namespace Go.Proofs.YtpdjpjkieafnbaaGreatDoor.Li
open Go.RowKit Lb
theorem set_at (q r : List Nat) (k y : Nat) (hq : q.length = k) (h : k < r.length) : (q ++ r.drop k).set k y = (q ++ [y]) ++ r.drop (k + 1) := by
  rw [List.set_append_right _ _ (by omega), hq, Nat.sub_self, List.drop_eq_getElem_cons h, List.set_cons_zero]
  simp
theorem get_at (q r : List Nat) (k : Nat) (hq : q.length = k) (_h : k < r.length) : (q ++ r.drop k).getD k 0 = r.getD k 0 := by
  simp only [List.getD]
  rw [List.getElem?_append_right (by omega), hq, Nat.sub_self, List.getElem?_drop, Nat.add_zero]
theorem val_snoc (q : List Nat) (y : Nat) : val (q ++ [y]) = val q + 4294967296 ^ q.length * y := by rw [val_append]; simp [val]
theorem prodB (y f : Nat) (hy : y < 4294967296) (hf : f < 4294967296) : y * f ≤ 18446744065119617025 := by
  have := Nat.mul_le_mul (show y ≤ 4294967295 by omega) (show f ≤ 4294967295 by omega)
  omega
end Go.Proofs.YtpdjpjkieafnbaaGreatDoor.Li
set_option linter.unusedVariables false
set_option linter.unusedSimpArgs false
namespace Go.Proofs.YtpdjpjkieafnbaaGreatDoor.Li
open Go.RowKit Lb
theorem pow_dec_aux (A B n m : Nat) (h : 2 ^ A < 10 ^ B) (hm : B * n ≤ (m + 1) * A) (h0 : n ≠ 0) : 2 ^ n < 10 ^ (m + 1) := by
  rcases Nat.lt_or_ge (2 ^ n) (10 ^ (m + 1)) with h' | h'
  · exact h'
  · exfalso
    have h1 := Nat.pow_le_pow_left h' A
    rw [← Nat.pow_mul, ← Nat.pow_mul] at h1
    have h2 := Nat.pow_lt_pow_left h h0
    rw [← Nat.pow_mul, ← Nat.pow_mul] at h2
    have h3 : (10 : Nat) ^ (B * n) ≤ 10 ^ ((m + 1) * A) := Nat.pow_le_pow_right (by omega) hm
    rw [Nat.mul_comm n A] at h1
    omega
set_option maxRecDepth 100000 in
theorem pow_big : (2 : Nat) ^ 100000 < 10 ^ 30103 := by decide +kernel
theorem pow_dec (n : Nat) : 2 ^ n < 10 ^ (n * 30103 / 100000 + 1) := by
  by_cases h0 : n = 0
  · subst h0; decide
  · exact pow_dec_aux 100000 30103 n _ pow_big (by omega) h0
theorem val_lt_len (l : List Nat) (hm : Lim l) : val l < 2 ^ lenB l := by
  rw [← val_take_nl l]
  unfold lenB
  by_cases h : nl l = 0
  · rw [if_pos h, h]; simp [val]
  · rw [if_neg h]
    obtain ⟨m, hm'⟩ : ∃ m, nl l = m + 1 := ⟨nl l - 1, by omega⟩
    rw [hm', Nat.add_sub_cancel, val_take_succ, Nat.pow_add, Nat.pow_mul]
    have h1 := (bitLen_spec (l.getD m 0)).1
    have h2 := val_lt (Lim_take hm m)
    have h3 : (l.take m).length ≤ m := by simp; omega
    have h4 : 4294967296 ^ (l.take m).length ≤ 4294967296 ^ m := Nat.pow_le_pow_right (by omega) h3
    have h5 := Nat.mul_le_mul_left (4294967296 ^ m) (show l.getD m 0 + 1 ≤ 2 ^ bitLen (l.getD m 0) from h1)
    rw [show (2 : Nat) ^ 32 = 4294967296 from rfl]
    rw [Nat.mul_add, Nat.mul_comm (4294967296 ^ m) (l.getD m 0)] at h5
    omega
/-- What Print does, up to so many bits. -/
def PrintSaid (N : Nat) : Prop := ∀ (a : Option Addr) (ca : Nat) (l : List Nat) (w : World), l.length ≤ ca → l.length ≤ 70368744177663 → Rd w a l → Lim l → lenB l ≤ N →
    Calls Tryz.prog 107 #[.slice a l.length ca] w fun e w' => e = .returned (.string (S8 (dec (val l)))) ∧ Keep w w'
theorem NatR.res {B : Nat} {w : World} {v : Value} {n : Nat} (h : NatR B w v n) {l : List Nat} (hl : Lim l) (hn : Nrm l) (hv : val l = n) : Res B w v l := by
  obtain ⟨r, h1, h2, h3, h4⟩ := h
  have : r = l := val_inj h2 hl h3 hn (by omega)
  rw [← this]; exact h1
theorem Res.rd {B : Nat} {w : World} {a : Option Addr} {n c : Nat} {l : List Nat} (h : Res B w (.slice a n c) l) : Rd w a l := by
  obtain ⟨a', c', e, -, hr⟩ := h.shape
  simp at e
  rw [e.1]; exact hr
theorem Box.set {w : World} {g : Nat} {x y z : Value} (h : Box w g x y z) (x' y' z' : Value) : Box (((w.setCell ⟨g, 0, none⟩ x').setCell ⟨g, 1, none⟩ y').setCell ⟨g, 2, none⟩ z') g x' y' z' := by
  have h0 := heap_setCell_same w g 0 _ 54 x' h
  have h1 := heap_setCell_same _ g 1 _ 54 y' h0
  have h2 := heap_setCell_same _ g 2 _ 54 z' h1
  unfold Box
  rw [h2]
  simp
theorem val_ge_len (l : List Nat) (h : nl l ≠ 0) : 2 ^ (lenB l - 1) ≤ val l := by
  rw [← val_take_nl l]
  unfold lenB
  rw [if_neg h]
  obtain ⟨m, hm'⟩ : ∃ m, nl l = m + 1 := ⟨nl l - 1, by omega⟩
  have ht := nl_top l (by omega)
  rw [hm', Nat.add_sub_cancel] at ht ⊢
  rw [val_take_succ]
  have h1 := (bitLen_spec (l.getD m 0)).2 ht
  have hb : 1 ≤ bitLen (l.getD m 0) := by
    unfold bitLen; rw [if_neg ht]; omega
  rw [show 32 * m + bitLen (l.getD m 0) - 1 = 32 * m + (bitLen (l.getD m 0) - 1) from by omega, Nat.pow_add, Nat.pow_mul, show (2 : Nat) ^ 32 = 4294967296 from rfl]
  have := Nat.mul_le_mul_left (4294967296 ^ m) h1
  rw [Nat.mul_comm (4294967296 ^ m) (l.getD m 0)] at this
  omega
theorem len_le_of_val {l m : List Nat} (nl : Nrm l) (hm : Lim m) (h : val l ≤ val m) : l.length ≤ m.length := by
  rcases Nat.lt_or_ge m.length l.length with h1 | h1
  · have := len_lt_val hm nl h1; omega
  · exact h1
end Go.Proofs.YtpdjpjkieafnbaaGreatDoor.Li
