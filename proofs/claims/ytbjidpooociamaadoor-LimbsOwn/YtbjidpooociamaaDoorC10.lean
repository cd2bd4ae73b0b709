import Derived.Test.YtbjidpooociamaaDoorC6
import Derived.Test.YtbjidpooociamaaDoorShelf
set_option linter.unusedVariables false
set_option linter.unusedSimpArgs false
namespace Go.Proofs.YtbjidpooociamaaDoor
open Go.RowKit Lb
theorem bitLen_aux : ∀ (f x : Nat), x < 2 ^ f → Lib.bitLenAux f x = bitLen x
  | 0, x, h => by simp at h; subst h; rfl
  | f + 1, x, h => by
    unfold Lib.bitLenAux
    by_cases h0 : x = 0
    · subst h0; rfl
    · rw [if_neg h0, bitLen_aux f (x / 2) (by rw [Nat.pow_succ] at h; omega), bitLen_half x (by omega)]; omega
theorem bitLen_lib (x : Nat) (h : x < 18446744073709551616) : Lib.bitLen x = bitLen x := bitLen_aux 64 x h
set_option maxRecDepth 100000 in
set_option maxHeartbeats 400000 in
theorem Len_any (a : Option Addr) (c : Nat) (l : List Nat) (w : World) (hnc : l.length ≤ c) (hl : l.length ≤ 70368744177664) (hr : Rd w a l) (hm : Lim l) :
    Calls Tryd.prog 23 #[.slice a l.length c] w fun e w' => e = .returned (.int .i64 (lenB l : Nat)) ∧ Dr w w' := by
  have h1 := nl_le l
  have t1 := trim_any a c l w hnc (by omega) hr
  by_cases h0 : nl l = 0
  · have hb : ((nl l : Int) == 0) = true := by simp; omega
    have he : Hid (lenB l = 0) := by show _ = _; unfold lenB; rw [if_pos h0]
    clear h0
    go_enter Tryd.func23, Tryd.ntmps23
    go_wp2_with fail
    refine t1.mono ?_
    rintro e w' ⟨rfl, rfl⟩
    go_wp2
    go_ret
    exact ⟨ret_int (by rw [he.out]; rfl), Dr.refl _⟩
  · obtain ⟨m, hm'⟩ : ∃ m, nl l = m + 1 := ⟨nl l - 1, by omega⟩
    obtain ⟨x, hx⟩ : ∃ x, l.getD m 0 = x := ⟨_, rfl⟩
    have hxl : x < 4294967296 := hx ▸ Lim_getD hm _
    have he : Hid (lenB l = 32 * m + bitLen x) := by show _ = _; unfold lenB; rw [if_neg h0, hm', Nat.add_sub_cancel, hx]
    have hbl := bitLen_le x hxl
    have hb2 : (((m : Int) + 1) == 0) = false := by simp; omega
    obtain ⟨b, o, rfl, hc⟩ := hr m (by omega)
    rw [hx] at hc
    rw [hm'] at t1
    have hml : m ≤ 70368744177664 := by omega
    clear hx h0 hr hm'
    have hL := Tryd.bits_Len32 (x : Nat) w (by omega) (by omega)
    rw [show ((x : Int)).toNat = x from rfl, bitLen_lib x (by omega)] at hL
    go_enter Tryd.func23, Tryd.ntmps23
    go_wp2_with fail
    refine t1.mono ?_
    rintro e w' ⟨rfl, rfl⟩
    go_wp2_with (go_at_call 72; refine hL.mono ?_; rintro e w'' ⟨rfl, rfl⟩)
    go_ret
    exact ⟨ret_int (by rw [he.out]; omega), Dr.refl _⟩

set_option maxRecDepth 100000 in
set_option maxHeartbeats 400000 in
theorem addAt_any (g : Nat) (b : Option Addr) (cb at' : Nat) (r lb : List Nat) (w : World) (hrl : r.length ≤ 70368744177664) (hrow : Row w g r) (hrb : Rd w b lb) (hoff : Off g b lb) (hm : Lim r) (hmb : Lim lb)
    (hfit : at' + lb.length ≤ r.length) (hroom : val r + 4294967296 ^ at' * val lb < 4294967296 ^ r.length) :
    Calls Tryd.prog 99 #[.slice (some ⟨g, 0, none⟩) r.length r.length, .slice b lb.length cb, .int .i64 (at' : Nat)] w fun e w' => e = .returned (.tuple #[]) ∧ ∃ r', Row w' g r' ∧ r'.length = r.length ∧ Lim r' ∧ val r' = val r + 4294967296 ^ at' * val lb ∧ Mut g w w' := by
  go_enter Tryd.func99, Tryd.ntmps99
  go_wp2
  go_loopw [6, 11] (fun c i wr => ∃ (k t : Nat) (rk : List Nat), k ≤ lb.length ∧ t ≤ 1 ∧ i = .int .i64 k ∧ c = .int .u64 t ∧ Row wr g rk ∧ rk.length = r.length ∧ Lim rk ∧ Hid (val rk + t * 4294967296 ^ (at' + k) = val r + 4294967296 ^ at' * val (lb.take k)) ∧ Mut g w wr) (fun _ i _ => lb.length - (intOf i).toNat)
  case atStart => exact ⟨0, 0, r, by omega, by omega, rfl, rfl, hrow, rfl, hm, by show _ = _; simp [val], Mut.refl _ _⟩
  case round =>
    obtain ⟨k, t, rk, hk, ht, rfl, rfl, hrk, hlen, hmk, hv, hmut⟩ := hrel
    by_cases hkl : k < lb.length
    · obtain ⟨b1, o1, rfl, hc1⟩ := (hrb.mut hmut hoff) k hkl
      have hc2 := hrk.cell (at' + k) (by omega)
      have hfz := hrk.frozen (at' + k)
      obtain ⟨x, hx⟩ : ∃ x, rk.getD (at' + k) 0 = x := ⟨_, rfl⟩
      obtain ⟨y, hy⟩ : ∃ y, lb.getD k 0 = y := ⟨_, rfl⟩
      have hxl : x < 4294967296 := hx ▸ Lim_getD hmk _
      have hyl : y < 4294967296 := hy ▸ Lim_getD hmb _
      rw [hx] at hc2
      rw [hy] at hc1
      have Hx : Hid (rk.getD (at' + k) 0 = x) := hx; clear hx
      have Hy : Hid (lb.getD k 0 = y) := hy; clear hy
      have hl2 : at' + k < r.length := by omega
      have Hl : Hid (rk.length = r.length) := hlen; clear hlen
      go_wp2
      go_quiet (fail)
      have hmut1 : Mut g w (wr.drewN nq) := hmut.drewN nq
      have hrk1 : Row (wr.drewN nq) g rk := hrk
      have hc2' : (wr.drewN nq).cell? _ = _ := hc2
      have hfz' : (wr.drewN nq).frozen? _ = _ := hfz
      clear hc1 hc2 hfz hmut hrk
      generalize wr.drewN nq = w1 at hmut1 hrk1 hc2' hfz' ⊢
      go_wp2
      go_roundw
      case rel =>
        refine ⟨k + 1, (t + (x + y)) / 4294967296, rk.set (at' + k) ((t + (x + y)) % 4294967296), by omega, by omega, by go_num, by simp, ?_, by simp [Hl.out], Lim_set hmk _ _ (by omega), ?_, hmut1.setCell _ _⟩
        · have := hrk1.set (at' + k) ((t + (x + y)) % 4294967296); simpa using this
        · show _ = _
          have h1 := addStep rk (at' + k) t x y _ (by rw [Hl.out]; omega) Hx.out hv.out
          rw [show at' + (k + 1) = at' + k + 1 from rfl, h1, val_take_succ, Hy.out, Nat.pow_add, Nat.mul_add, Nat.add_assoc, Nat.mul_left_comm y]
      case measure => simp [intOf]; omega
    · have hke : k = lb.length := by omega
      subst hke
      rw [List.take_of_length_le (Nat.le_refl _)] at hv
      go_wp2
      go_loopw [6, 8] (fun c i wr => ∃ (j t : Nat) (rk : List Nat), j ≤ r.length ∧ t ≤ 1 ∧ i = .int .i64 j ∧ c = .int .u64 t ∧ Row wr g rk ∧ rk.length = r.length ∧ Lim rk ∧ Hid (val rk + t * 4294967296 ^ j = val r + 4294967296 ^ at' * val lb) ∧ Mut g w wr) (fun _ i _ => r.length - (intOf i).toNat)
      case atStart => exact ⟨at' + lb.length, t, rk, by omega, ht, by go_num, rfl, hrk, hlen, hmk, hv, hmut⟩
      case round =>
        clear hv hmut hmk hlen hrk hkl hk ht
        obtain ⟨j, t, rk, hj, ht, rfl, rfl, hrk, hlen, hmk, hv, hmut⟩ := hrel
        by_cases ht0 : 0 < t
        · have hjl : j < r.length := by
            rcases Nat.lt_or_ge j r.length with h | h
            · exact h
            · exact absurd (val_ge_pow hmk j t _ (by omega) ht0 hv.out (by rw [hlen]; exact hroom)) id
          have hc2 := hrk.cell j (by omega)
          have hfz := hrk.frozen j
          obtain ⟨x, hx⟩ : ∃ x, rk.getD j 0 = x := ⟨_, rfl⟩
          have hxl : x < 4294967296 := hx ▸ Lim_getD hmk _
          rw [hx] at hc2
          have Hx : Hid (rk.getD j 0 = x) := hx; clear hx
          have Hl : Hid (rk.length = r.length) := hlen; clear hlen
          go_wp2
          go_roundw
          case rel =>
            refine ⟨j + 1, (t + (x + 0)) / 4294967296, rk.set j ((t + (x + 0)) % 4294967296), by omega, by omega, by go_num, by simp, ?_, by simp [Hl.out], Lim_set hmk _ _ (by omega), ?_, hmut.setCell _ _⟩
            · have := hrk.set j ((t + (x + 0)) % 4294967296); simpa using this
            · show _ = _
              have h1 := addStep rk j t x 0 _ (by rw [Hl.out]; omega) Hx.out hv.out
              rw [h1]; omega
          case measure => simp [intOf]; omega
        · go_wp2
          go_end0
          have ht1 : t = 0 := by omega
          subst ht1
          refine ⟨rfl, rk, hrk, hlen, hmk, ?_, hmut⟩
          have := hv.out
          omega
end Go.Proofs.YtbjidpooociamaaDoor
namespace Go.Proofs.YtbjidpooociamaaDoor
open Go.RowKit Lb
/-- A natural without needless limbs, in memory of the call's own. -/
def NatR (B : Nat) (w : World) (v : Value) (n : Nat) : Prop := ∃ l, Res B w v l ∧ Lim l ∧ Nrm l ∧ val l = n
/-- Limbs that came in or were made: the shape of an argument. -/
structure Arg (w : World) (v : Value) (l : List Nat) : Prop where
  sh : ∃ a c, v = .slice a l.length c ∧ l.length ≤ c ∧ c ≤ 35184372087808 ∧ Rd w a l
  lim : Lim l

theorem Lim_snoc {l : List Nat} (h : Lim l) (x : Nat) (hx : x < 4294967296) : Lim (l ++ [x]) := by
  intro y hy
  simp at hy
  rcases hy with hy | hy
  · exact h y hy
  · omega
theorem sum_room (x y : List Nat) (hx : Lim x) (hy : Lim y) (h : y.length ≤ x.length) : val (x ++ [0]) + 4294967296 ^ 0 * val y < 4294967296 ^ (x ++ [0]).length := by
  have h1 := val_lt hx
  have h2 := val_lt hy
  have h3 : 4294967296 ^ y.length ≤ 4294967296 ^ x.length := Nat.pow_le_pow_right (by omega) h
  rw [val_append, List.length_append, Nat.pow_add]
  simp [val]
  omega
set_option maxRecDepth 100000 in
set_option maxHeartbeats 400000 in
theorem sum_any (a b : Option Addr) (ca cb : Nat) (la lb : List Nat) (w : World) (hla : la.length ≤ 70368744177663) (hlb : lb.length ≤ 70368744177663) (hra : Rd w a la) (hrb : Rd w b lb) (hma : Lim la) (hmb : Lim lb) :
    Calls Tryd.prog 78 #[.slice a la.length ca, .slice b lb.length cb] w fun e w' => ∃ v, e = .returned v ∧ NatR w.heap.size w' v (val la + val lb) ∧ Keep w w' := by
  by_cases hlt : la.length < lb.length
  · have hge : decide (la.length < lb.length) = true := by simp; omega
    have hlen : (lb ++ [0]).length = lb.length + 1 := by simp
    have hroom : val (lb ++ [0]) + 4294967296 ^ 0 * val la < 4294967296 ^ (lb ++ [0]).length := sum_room lb la hmb hma (by omega)
    have hmz : Lim (lb ++ [0]) := Lim_snoc hmb 0 (by omega)
    have hsz : lb.length + 1 ≤ 70368744177664 := by omega
    have hdl : lb.length ≤ lb.length + 1 := by omega
    go_enter Tryd.func78, Tryd.ntmps78
    go_wp2_with (first | (at_make; refine wpList_make32 _ rfl _ _ rfl _ _ _ _ (lb.length + 1) rfl rfl ?_ ?_ hsz ?_; rotate_left; rotate_left; intro w1 hrow hk hsz1) | (with_reducible show wpList _ _ _ (Oper.mk _ (Op.call { callee := Callee.builtin Builtin.copy, args := _, argTypes := _ }) _ _ _ _ :: _) _ _; refine wpList_copy32 rfl _ _ rfl _ _ _ _ _ lb rfl rfl w.heap.size 0 _ hrow hdl (fun _ => rfl) (hrb.keep hk) ?_ ?_; rotate_left; intro w2 hrow2 hm2))
    have hrow3 : Row w2 w.heap.size (lb ++ [0]) := by
      rw [show List.replicate (lb.length + 1) 0 = List.replicate lb.length 0 ++ [0] from by rw [List.replicate_succ']] at hrow2
      simpa using hrow2
    have hk2 : Keep w w2 := hk.mut hm2 (Nat.le_refl _)
    have hA := addAt_any w.heap.size _ ca 0 (lb ++ [0]) la w2 (by rw [hlen]; exact hsz) hrow3 (hra.keep hk2) (Off.of_lt hra (Nat.le_refl _)) hmz hma (by rw [hlen]; omega) hroom
    rw [hlen] at hA
    refine hA.mono ?_
    rintro e w3 ⟨rfl, r', hr', hl', hm', hv', hmu'⟩
    go_wp2_with fail
    have hT := trim_any (some ⟨w.heap.size, 0, none⟩) r'.length r' w3 (Nat.le_refl _) (by rw [hl']; omega) (by have := hr'.rd 0 r'.length (by omega); simpa using this)
    rw [hl'] at hT
    refine hT.mono ?_
    rintro e w4 ⟨rfl, rfl⟩
    go_wp2
    go_ret
    refine ⟨_, rfl, ⟨r'.take (nl r'), ?_, Lim_take hm' _, Nrm_take _, ?_⟩, hk2.mut hmu' (Nat.le_refl _)⟩
    · have : Res w.heap.size w4 (.slice (some ⟨w.heap.size, 0, none⟩) r'.length r'.length) r' := .inr ⟨_, r', rfl, Nat.le_refl _, hr', Nat.le_refl _, List.take_of_length_le (Nat.le_refl _)⟩
      have := this.cut (nl_le r')
      rw [hl'] at this
      exact this
    · rw [val_take_nl, hv', val_append]; simp [val]; omega
    all_goals simp
  · have hge : decide (la.length < lb.length) = false := by simp; omega
    have hlen : (la ++ [0]).length = la.length + 1 := by simp
    have hroom : val (la ++ [0]) + 4294967296 ^ 0 * val lb < 4294967296 ^ (la ++ [0]).length := sum_room la lb hma hmb (by omega)
    have hmz : Lim (la ++ [0]) := Lim_snoc hma 0 (by omega)
    have hsz : la.length + 1 ≤ 70368744177664 := by omega
    have hdl : la.length ≤ la.length + 1 := by omega
    go_enter Tryd.func78, Tryd.ntmps78
    go_wp2_with (first | (at_make; refine wpList_make32 _ rfl _ _ rfl _ _ _ _ (la.length + 1) rfl rfl ?_ ?_ hsz ?_; rotate_left; rotate_left; intro w1 hrow hk hsz1) | (with_reducible show wpList _ _ _ (Oper.mk _ (Op.call { callee := Callee.builtin Builtin.copy, args := _, argTypes := _ }) _ _ _ _ :: _) _ _; refine wpList_copy32 rfl _ _ rfl _ _ _ _ _ la rfl rfl w.heap.size 0 _ hrow hdl (fun _ => rfl) (hra.keep hk) ?_ ?_; rotate_left; intro w2 hrow2 hm2))
    have hrow3 : Row w2 w.heap.size (la ++ [0]) := by
      rw [show List.replicate (la.length + 1) 0 = List.replicate la.length 0 ++ [0] from by rw [List.replicate_succ']] at hrow2
      simpa using hrow2
    have hk2 : Keep w w2 := hk.mut hm2 (Nat.le_refl _)
    have hA := addAt_any w.heap.size _ cb 0 (la ++ [0]) lb w2 (by rw [hlen]; exact hsz) hrow3 (hrb.keep hk2) (Off.of_lt hrb (Nat.le_refl _)) hmz hmb (by rw [hlen]; omega) hroom
    rw [hlen] at hA
    refine hA.mono ?_
    rintro e w3 ⟨rfl, r', hr', hl', hm', hv', hmu'⟩
    go_wp2_with fail
    have hT := trim_any (some ⟨w.heap.size, 0, none⟩) r'.length r' w3 (Nat.le_refl _) (by rw [hl']; omega) (by have := hr'.rd 0 r'.length (by omega); simpa using this)
    rw [hl'] at hT
    refine hT.mono ?_
    rintro e w4 ⟨rfl, rfl⟩
    go_wp2
    go_ret
    refine ⟨_, rfl, ⟨r'.take (nl r'), ?_, Lim_take hm' _, Nrm_take _, ?_⟩, hk2.mut hmu' (Nat.le_refl _)⟩
    · have : Res w.heap.size w4 (.slice (some ⟨w.heap.size, 0, none⟩) r'.length r'.length) r' := .inr ⟨_, r', rfl, Nat.le_refl _, hr', Nat.le_refl _, List.take_of_length_le (Nat.le_refl _)⟩
      have := this.cut (nl_le r')
      rw [hl'] at this
      exact this
    · rw [val_take_nl, hv', val_append]; simp [val]
    all_goals simp

end Go.Proofs.YtbjidpooociamaaDoor
namespace Go.Proofs.YtbjidpooociamaaDoor
open Go.RowKit Lb
set_option maxRecDepth 100000 in
set_option maxHeartbeats 400000 in
theorem Add_any (a b : Option Addr) (ca cb : Nat) (la lb : List Nat) (w : World) (hca : la.length ≤ ca) (hcb : lb.length ≤ cb) (hla : la.length ≤ 70368744177663) (hlb : lb.length ≤ 70368744177663) (hra : Rd w a la) (hrb : Rd w b lb) (hma : Lim la) (hmb : Lim lb) :
    Calls Tryd.prog 33 #[.slice a la.length ca, .slice b lb.length cb] w fun e w' => ∃ v, e = .returned v ∧ NatR w.heap.size w' v (val la + val lb) ∧ Keep w w' := by
  have h1 := nl_le la
  have h2 := nl_le lb
  have e1 : (la.take (nl la)).length = nl la := by simp; omega
  have e2 : (lb.take (nl lb)).length = nl lb := by simp; omega
  have hc := sum_any a b ca cb (la.take (nl la)) (lb.take (nl lb)) w (by omega) (by omega) (hra.take _) (hrb.take _) (Lim_take hma _) (Lim_take hmb _)
  rw [e1, e2, val_take_nl, val_take_nl] at hc
  have t1 := trim_any a ca la w hca (by omega) hra
  have t2 := trim_any b cb lb w hcb (by omega) hrb
  go_enter Tryd.func33, Tryd.ntmps33
  go_wp2_with fail
  refine t1.mono ?_
  rintro e w' ⟨rfl, rfl⟩
  go_wp2_with fail
  refine t2.mono ?_
  rintro e w' ⟨rfl, rfl⟩
  go_wp2_with fail
  refine hc.mono ?_
  rintro e w1 ⟨v, rfl, hn, hk⟩
  go_wp2
  go_ret
  exact ⟨_, rfl, hn, hk⟩

theorem set_mid (r q : List Nat) (m y : Nat) (h : m < r.length) : (r.take (m + 1) ++ q).set m y = r.take m ++ (y :: q) := by
  rw [take_snoc r m h, List.append_assoc]
  have e : (r.take m).length = m := by simp; omega
  rw [List.set_append_right _ _ (by omega), e, Nat.sub_self]
  rfl
theorem get_mid (r q : List Nat) (m : Nat) (h : m < r.length) : (r.take (m + 1) ++ q).getD m 0 = r.getD m 0 := by
  have e : m < (r.take (m + 1)).length := by simp; omega
  simp only [List.getD]
  rw [List.getElem?_append_left e, List.getElem?_take_of_lt (by omega)]
theorem divStep (v q c by' x : Nat) (h0 : 0 < by') (hq : q = v / by') (hc : c = v % by') :
    ((c * 4294967296 + x) / by') + 4294967296 * q = (x + 4294967296 * v) / by' ∧ (c * 4294967296 + x) % by' = (x + 4294967296 * v) % by' := by
  have hv : v = by' * q + c := by rw [hq, hc]; exact (Nat.div_add_mod v by').symm
  have e : x + 4294967296 * v = (c * 4294967296 + x) + by' * (4294967296 * q) := by
    rw [hv, Nat.mul_add, Nat.mul_left_comm]; omega
  rw [e, Nat.add_mul_div_left _ _ h0, Nat.add_mul_mod_self_left]
  exact ⟨rfl, rfl⟩
set_option maxRecDepth 100000 in
set_option maxHeartbeats 400000 in
theorem divideSmall_any (g c n by' : Nat) (r : List Nat) (w : World) (hrl : r.length ≤ 70368744177664) (hn : n ≤ r.length) (hrow : Row w g r) (hm : Lim r) (h0 : 0 < by') (hby : by' < 4294967296) :
    Calls Tryd.prog 103 #[.slice (some ⟨g, 0, none⟩) n c, .int .u32 (by' : Nat)] w fun e w' => e = .returned (.int .u32 (val (r.take n) % by' : Nat)) ∧ ∃ q, Row w' g (q ++ r.drop n) ∧ q.length = n ∧ Lim q ∧ val q = val (r.take n) / by' ∧ Mut g w w' := by
  go_enter Tryd.func103, Tryd.ntmps103
  go_wp2
  go_loopw [5, 10] (fun t i wr => ∃ (k c : Nat) (q : List Nat), k ≤ n ∧ i = .int .i64 k ∧ t = .int .u64 c ∧ Row wr g (r.take (n - k) ++ (q ++ r.drop n)) ∧ q.length = k ∧ Lim q ∧ Hid (val q = val ((r.take n).drop (n - k)) / by') ∧ Hid (c = val ((r.take n).drop (n - k)) % by') ∧ Mut g w wr) (fun _ i _ => n - (intOf i).toNat)
  case atStart => exact ⟨0, 0, [], by omega, rfl, rfl, by simpa using hrow, rfl, by intro x hx; simp at hx, by show _ = _; rw [List.drop_eq_nil_of_le (by simp; omega)]; simp [val], by show _ = _; rw [List.drop_eq_nil_of_le (by simp; omega)]; simp [val], Mut.refl _ _⟩
  case round =>
    obtain ⟨k, c', q, hk, rfl, rfl, hrk, hql, hmq, hv, hcv, hmut⟩ := hrel
    by_cases hkl : k < n
    · obtain ⟨m, hm1⟩ : ∃ m, n - k = m + 1 := ⟨n - k - 1, by omega⟩
      have hmr : m < r.length := by omega
      rw [hm1] at hrk hv hcv
      have hc := hrk.cell m (by simp; omega)
      rw [get_mid r _ m hmr] at hc
      have hfz := hrk.frozen m
      obtain ⟨x, hx⟩ : ∃ x, r.getD m 0 = x := ⟨_, rfl⟩
      have hxl : x < 4294967296 := hx ▸ Lim_getD hm _
      rw [hx] at hc
      have hcl : c' < by' := by rw [hcv.out]; exact Nat.mod_lt _ h0
      have hcl2 : c' < 4294967296 := by omega
      have hor := or64' c' x hcl2 hxl
      have hdrop : Hid (val ((r.take n).drop m) = x + 4294967296 * val ((r.take n).drop (m + 1))) := by
        show _ = _
        have h1 := val_drop_pred (r.take n) (m + 1) (by omega) (by simp; omega)
        rw [Nat.add_sub_cancel] at h1
        rw [h1, ← hx]
        simp [List.getD, show m < n by omega]
      have hst := divStep _ _ _ by' x h0 hv.out hcv.out
      have Hst : Hid ((c' * 4294967296 + x) / by' + 4294967296 * val q = (x + 4294967296 * val ((r.take n).drop (m + 1))) / by' ∧ (c' * 4294967296 + x) % by' = (x + 4294967296 * val ((r.take n).drop (m + 1))) % by') := hst
      have hqb : (c' * 4294967296 + x) / by' < 4294967296 := by
        rw [Nat.div_lt_iff_lt_mul h0]
        have : c' * 4294967296 + 4294967296 ≤ by' * 4294967296 := by omega
        omega
      have e1 : n - 1 - k = m := by omega
      have e2 : Hid (n - (k + 1) = m) := by show _ = _; omega
      have Hx : Hid (r.getD m 0 = x) := hx
      have hidx : (n : Int) - 1 - (k : Int) = (m : Int) := by omega
      clear hx hst e1 hm1
      go_wp2
      go_roundw
      case rel =>
        refine ⟨k + 1, (c' * 4294967296 + x) % by', (c' * 4294967296 + x) / by' :: q, by omega, by go_num, by simp, ?_, by simp [hql], ?_, ?_, ?_, hmut.setCell _ _⟩
        · have h1 := hrk.set m ((c' * 4294967296 + x) / by')
          rw [set_mid r _ m _ hmr] at h1
          rw [e2.out]
          have ev : ((c' : Int) * 4294967296 + (x : Int)) / (by' : Int) % 4294967296 = (((c' * 4294967296 + x) / by' : Nat) : Int) := by
            rw [show ((c' : Int) * 4294967296 + (x : Int)) / (by' : Int) = (((c' * 4294967296 + x) / by' : Nat) : Int) from by simp]
            exact Int.emod_eq_of_lt (Int.natCast_nonneg _) (by generalize (c' * 4294967296 + x) / by' = Q at hqb ⊢; omega)
          rw [ev]
          exact h1
        · intro y hy
          simp at hy
          rcases hy with rfl | hy
          · exact hqb
          · exact hmq y hy
        · show _ = _
          rw [e2.out, hdrop.out, val, Hst.out.1]
        · show _ = _
          rw [e2.out, hdrop.out, Hst.out.2]
      case measure => simp [intOf]; omega
    · go_wp2
      go_ret
      have hke : k = n := by omega
      subst hke
      rw [Nat.sub_self] at hrk hv hcv
      rw [List.drop_zero] at hv hcv
      exact ⟨ret_int (by have hcl : c' < by' := (by rw [hcv.out]; exact Nat.mod_lt _ h0); rw [← hcv.out]; omega), q, by simpa using hrk, hql, hmq, hv.out, hmut⟩
end Go.Proofs.YtbjidpooociamaaDoor
namespace Go.Proofs.YtbjidpooociamaaDoor
open Go.RowKit Lb
def cmpN (x y : Nat) : Int := if x < y then -1 else if y < x then 1 else 0
theorem cmpTop_eq (a b : List Nat) (ha : Lim a) (hb : Lim b) : ∀ k, k ≤ a.length → k ≤ b.length → cmpTop a b k = cmpN (val (a.take k)) (val (b.take k)) := by
  intro k
  induction k with
  | zero => intro _ _; simp [cmpTop, cmpN, val]
  | succ k ih =>
    intro h1 h2
    have e1 := val_take_succ a k
    have e2 := val_take_succ b k
    have l1 : val (a.take k) < 4294967296 ^ k := by
      have := val_lt (Lim_take ha k); rwa [show (a.take k).length = k by simp; omega] at this
    have l2 : val (b.take k) < 4294967296 ^ k := by
      have := val_lt (Lim_take hb k); rwa [show (b.take k).length = k by simp; omega] at this
    have ih' := ih (by omega) (by omega)
    rw [cmpTop]
    generalize 4294967296 ^ k = X at *
    rcases Nat.lt_trichotomy (a.getD k 0) (b.getD k 0) with h | h | h
    · have := Nat.mul_le_mul_right X (show a.getD k 0 + 1 ≤ b.getD k 0 from h)
      rw [Nat.add_mul] at this
      rw [if_pos h]; unfold cmpN; rw [if_pos (by omega)]
    · rw [if_neg (by omega), if_neg (by omega), ih', e1, e2, h]
      unfold cmpN
      simp only [Nat.add_lt_add_iff_right]
    · have := Nat.mul_le_mul_right X (show b.getD k 0 + 1 ≤ a.getD k 0 from h)
      rw [Nat.add_mul] at this
      rw [if_neg (by omega), if_pos h]; unfold cmpN; rw [if_neg (by omega), if_pos (by omega)]
theorem len_lt_val {a b : List Nat} (ha : Lim a) (nb : Nrm b) (h : a.length < b.length) : val a < val b := by
  have h1 := val_lt ha
  have h2 := val_ge nb (by intro h0; simp [h0] at h)
  have h3 : 4294967296 ^ a.length ≤ 4294967296 ^ (b.length - 1) := Nat.pow_le_pow_right (by omega) (by omega)
  omega
theorem cmpL_eq (a b : List Nat) (ha : Lim a) (hb : Lim b) (na : Nrm a) (nb : Nrm b) : cmpL a b = cmpN (val a) (val b) := by
  unfold cmpL
  split
  · rename_i h
    unfold cmpN; rw [if_pos (len_lt_val ha nb h)]
  · split
    · rename_i h
      have := len_lt_val hb na h
      unfold cmpN; rw [if_neg (by omega), if_pos this]
    · have hl : a.length = b.length := by omega
      rw [cmpTop_eq a b ha hb _ (Nat.le_refl _) (by omega), List.take_of_length_le (Nat.le_refl _), hl, List.take_of_length_le (Nat.le_refl _)]
theorem cmpL_lt {a b : List Nat} (ha : Lim a) (hb : Lim b) (na : Nrm a) (nb : Nrm b) (h : val a < val b) : cmpL a b = -1 := by rw [cmpL_eq a b ha hb na nb, cmpN, if_pos h]
theorem cmpL_ge {a b : List Nat} (ha : Lim a) (hb : Lim b) (na : Nrm a) (nb : Nrm b) (h : ¬ val a < val b) : 0 ≤ cmpL a b := by
  rw [cmpL_eq a b ha hb na nb, cmpN, if_neg h]; split <;> omega

theorem NatR.of_trim {B : Nat} {w : World} {a : Option Addr} {n c : Nat} {l : List Nat} (h : Res B w (.slice a n c) l) (hm : Lim l) : NatR B w (.slice a (nl l) c) (val l) :=
  ⟨l.take (nl l), h.cut (nl_le l), Lim_take hm _, Nrm_take _, val_take_nl l⟩
theorem NatR.keep {B : Nat} {w w' : World} {v : Value} {n : Nat} (h : NatR B w v n) (k : Keep w w') : NatR B w' v n := by
  obtain ⟨l, h1, h2⟩ := h; exact ⟨l, h1.keep k, h2⟩
theorem NatR.mono {B B' : Nat} {w : World} {v : Value} {n : Nat} (h : NatR B w v n) (hB : B' ≤ B) : NatR B' w v n := by
  obtain ⟨l, h1, h2⟩ := h; exact ⟨l, h1.mono hB, h2⟩
theorem Row.res {w : World} {g : Nat} {l : List Nat} (h : Row w g l) {B : Nat} (hB : B ≤ g) : Res B w (.slice (some ⟨g, 0, none⟩) l.length l.length) l :=
  .inr ⟨g, l, rfl, hB, h, Nat.le_refl _, List.take_of_length_le (Nat.le_refl _)⟩
theorem Row.rd0 {w : World} {g : Nat} {l : List Nat} (h : Row w g l) : Rd w (some ⟨g, 0, none⟩) l := by
  have := h.rd 0 l.length (by omega); simpa using this
theorem Rd.mut_lt {w w' : World} {a : Option Addr} {l : List Nat} {g : Nat} {W : World} (h : Rd w a l) (h0 : Rd W a l) (k : Mut g w w') (hg : W.heap.size ≤ g) : Rd w' a l := h.mut k (Off.of_lt h0 hg)

set_option maxRecDepth 100000 in
set_option maxHeartbeats 400000 in
theorem divide_less (a b : Option Addr) (ca cb : Nat) (la lb : List Nat) (w : World) (hla : la.length ≤ 70368744177664) (hlb : lb.length ≤ 70368744177664) (hra : Rd w a la) (hrb : Rd w b lb) (hma : Lim la) (hmb : Lim lb) (na : Nrm la) (nb : Nrm lb) (hlt : val la < val lb) :
    Calls Tryd.prog 80 #[.slice a la.length ca, .slice b lb.length cb] w fun e w' => ∃ vq vr, e = .returned (.tuple #[vq, vr]) ∧ NatR w.heap.size w' vq (val la / val lb) ∧ NatR w.heap.size w' vr (val la % val lb) ∧ Keep w w' := by
  have hcm := cmpL_lt hma hmb na nb hlt
  have hc := compare_any a b ca cb la lb w (by omega) (by omega) hra hrb
  rw [hcm] at hc
  have hf := fun w1 (hk : Keep w w1) => fresh_any a ca la w1 hla (hra.keep hk)
  clear hcm
  go_enter Tryd.func80, Tryd.ntmps80
  go_wp2_with fail
  refine hc.mono ?_
  rintro e w1 ⟨rfl, hd⟩
  go_wp2_with fail
  refine (hf w1 hd.keep).mono ?_
  rintro e w2 ⟨rfl, hrow, hk, -⟩
  go_wp2
  go_ret2
  refine ⟨_, _, rfl, ⟨[], .inl ⟨rfl, rfl⟩, by intro x hx; simp at hx, by simp [Nrm], by rw [Nat.div_eq_of_lt hlt]; rfl⟩, ⟨la, (hrow.res (Nat.le_refl _)).mono hd.keep.le, hma, na, (Nat.mod_eq_of_lt hlt).symm⟩, hd.keep.trans hk⟩

set_option maxRecDepth 100000 in
set_option maxHeartbeats 400000 in
theorem divide_one (a b : Option Addr) (ca cb : Nat) (la : List Nat) (y : Nat) (w : World) (hla : la.length ≤ 70368744177664) (hra : Rd w a la) (hrb : Rd w b [y]) (hma : Lim la) (na : Nrm la) (hy0 : 0 < y) (hy : y < 4294967296) (hge : ¬ val la < y) :
    Calls Tryd.prog 80 #[.slice a la.length ca, .slice b 1 cb] w fun e w' => ∃ vq vr, e = .returned (.tuple #[vq, vr]) ∧ NatR w.heap.size w' vq (val la / y) ∧ NatR w.heap.size w' vr (val la % y) ∧ Keep w w' := by
  have hmb : Lim [y] := by intro x hx; simp at hx; omega
  have nb : Nrm [y] := by simp [Nrm]; omega
  have hcm := cmpL_ge hma hmb na nb (by simpa [val] using hge)
  have hc := compare_any a b ca cb la [y] w (by omega) (by simp) hra hrb
  have hf := fun w1 (hk : Keep w w1) => fresh_any a ca la w1 hla (hra.keep hk)
  generalize cmpL la [y] = z at hcm hc
  have hz : decide (z < 0) = false := by simp; omega
  go_enter Tryd.func80, Tryd.ntmps80
  go_wp2_with fail
  refine hc.mono ?_
  rintro e w1 ⟨rfl, hd⟩
  go_wp2_with fail
  refine (hf w1 hd.keep).mono ?_
  rintro e w2 ⟨rfl, hrow, hk, hsz⟩
  obtain ⟨b1, o1, rfl, hcb⟩ := (hrb.keep (hd.keep.trans hk)) 0 (by simp)
  simp at hcb
  go_wp2_with fail
  have hD := divideSmall_any w1.heap.size la.length la.length y la w2 hla (Nat.le_refl _) hrow hma hy0 hy
  rw [List.take_of_length_le (Nat.le_refl _), List.drop_eq_nil_of_le (Nat.le_refl _)] at hD
  refine hD.mono ?_
  rintro e w3 ⟨rfl, q, hrq, hql, hmq, hvq, hmu⟩
  rw [List.append_nil] at hrq
  clear hD
  have hk3 : Keep w w3 := (hd.keep.trans hk).mut hmu hd.keep.le
  have hrm : val la % y < 4294967296 := Nat.lt_trans (Nat.mod_lt _ hy0) hy
  obtain ⟨t, ht⟩ : ∃ t, val la % y = t := ⟨_, rfl⟩
  rw [ht] at hrm ⊢
  have Ht : Hid (val la % y = t) := ht
  clear ht
  have hT := trim_any (some ⟨w1.heap.size, 0, none⟩) q.length q w3 (Nat.le_refl _) (by omega) hrq.rd0
  rw [hql] at hT
  clear hcb
  go_wp2_with fail
  refine hT.mono ?_
  rintro e w4 ⟨rfl, rfl⟩
  go_wp2_with fail
  have hrow5 : Row (w4.alloc (Obj.cells #[Value.int IntKind.u32 ↑t] 62)) w4.heap.size [t] := by
    unfold Row; rw [heap_alloc_new]; simp [U]
  have hk5 : Keep w4 (w4.alloc (Obj.cells #[Value.int IntKind.u32 ↑t] 62)) := (Keep.refl w4).alloc _
  generalize w4.alloc _ = w5 at hrow5 hk5 ⊢
  refine (trim_any (some ⟨w4.heap.size, 0, none⟩) 1 [t] w5 (by simp) (by simp) hrow5.rd0).mono ?_
  rintro e w6 ⟨rfl, rfl⟩
  go_wp2
  go_ret2
  refine ⟨_, _, rfl, ?_, ?_, hk3.trans hk5⟩
  · have h1 := NatR.of_trim (((hrq.keep hk5).res (B := w.heap.size) hd.keep.le)) hmq
    rw [hql, hvq] at h1
    exact h1
  · have h1 := NatR.of_trim (hrow5.res (B := w.heap.size) hk3.le) (by intro x hx; simp at hx; omega)
    rw [Ht.out]
    simpa [val] using h1
end Go.Proofs.YtbjidpooociamaaDoor
