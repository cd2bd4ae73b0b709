import Derived.Test.YtbjidpooociamaaDoorBase
import Derived.Laws.MathBits
set_option linter.unusedVariables false
set_option linter.unusedSimpArgs false
namespace Go.Proofs.YtbjidpooociamaaDoor
open Go.RowKit Lb

set_option maxHeartbeats 400000 in
theorem trim_any (a : Option Addr) (c : Nat) (l : List Nat) (w : World) (hnc : l.length ≤ c) (hbig : l.length ≤ 9223372036854775807) (hr : Rd w a l) :
    Calls Tryd.prog 68 #[.slice a l.length c] w fun e w' => e = .returned (.slice a (nl l) c) ∧ w' = w := by
  go_enter Tryd.func68, Tryd.ntmps68
  go_wp2
  go_loop [3] (fun i => ∃ k : Nat, k ≤ l.length ∧ i = .int .i64 k ∧ ∀ j, k ≤ j → l.getD j 0 = 0) (fun i => (intOf i).toNat)
  case atStart => exact ⟨l.length, Nat.le_refl _, rfl, fun j hj => by simp [List.getD, List.getElem?_eq_none hj]⟩
  case round =>
    obtain ⟨k, hk, rfl, hz⟩ := hrel
    by_cases h0 : 0 < k
    · obtain ⟨b, o, rfl, hc⟩ := hr (k - 1) (by omega)
      obtain ⟨x, hx⟩ : ∃ x, l.getD (k - 1) 0 = x := ⟨_, rfl⟩
      rw [hx] at hc
      by_cases hx0 : x = 0
      · subst hx0
        have Hx : Hid (l.getD (k - 1) 0 = 0) := hx; clear hx
        go_wp2
        go_round
        case rel => exact ⟨k - 1, by omega, by go_num, fun j hj => by
          by_cases e : j = k - 1
          · subst e; exact Hx.out
          · exact hz j (by omega)⟩
        case measure => simp [intOf]; omega
      · have Hx : Hid (l.getD (k - 1) 0 = x) := hx; clear hx
        go_wp2
        go_ret
        refine ⟨?_, rfl⟩
        rw [nl_eq l k hz (fun _ => by rw [Hx.out]; exact hx0)]
        rfl
    · go_wp2
      go_ret
      refine ⟨?_, rfl⟩
      rw [nl_eq l k hz (by omega)]
      rfl

set_option maxHeartbeats 400000 in
theorem fresh_any (a : Option Addr) (c : Nat) (l : List Nat) (w : World) (hl : l.length ≤ 70368744177664) (hr : Rd w a l) :
    Calls Tryd.prog 70 #[.slice a l.length c] w fun e w' => e = .returned (.slice (some ⟨w.heap.size, 0, none⟩) l.length l.length) ∧ Row w' w.heap.size l ∧ Keep w w' ∧ w'.heap.size = w.heap.size + 1 := by
  go_enter Tryd.func70, Tryd.ntmps70
  go_wp2_with (first | (at_make; refine wpList_make32 _ rfl _ _ rfl _ _ _ _ l.length rfl rfl rfl rfl hl ?_; intro w1 hrow hk hsz) | (with_reducible show wpList _ _ _ (Oper.mk (some 9) _ _ _ _ _ :: _) _ _; refine wpList_copy32 rfl _ _ rfl _ _ _ _ _ l rfl rfl w.heap.size 0 _ hrow (Nat.le_refl _) (fun _ => rfl) (hr.keep hk) ?_ ?_; rotate_left; intro w2 hrow2 hm2))
  go_ret
  refine ⟨rfl, by simpa using hrow2, hk.mut hm2 (Nat.le_refl _), by rw [hm2.size, hsz]⟩
  simp
end Go.Proofs.YtbjidpooociamaaDoor
namespace Go.Proofs.YtbjidpooociamaaDoor
open Go.RowKit Lb
/-- Only the count of draws has moved on. -/
def Dr (w w' : World) : Prop := ∃ q, w' = w.drewN q
theorem Dr.refl (w : World) : Dr w w := ⟨0, rfl⟩
theorem Dr.drewN {w w' : World} (h : Dr w w') (q : Nat) : Dr w (w'.drewN q) := by obtain ⟨n, rfl⟩ := h; exact ⟨n + q, World.drewN_drewN _ _ _⟩
theorem Dr.cell {w w' : World} (h : Dr w w') (a : Addr) : w'.cell? a = w.cell? a := by obtain ⟨n, rfl⟩ := h; rfl
theorem Dr.keep {w w' : World} (h : Dr w w') : Keep w w' := by obtain ⟨n, rfl⟩ := h; exact (Keep.refl w).drewN n
theorem Dr.trans {a b c : World} (h : Dr a b) (k : Dr b c) : Dr a c := by obtain ⟨n, rfl⟩ := k; exact h.drewN n
def cmpTop (a b : List Nat) : Nat → Int
  | 0 => 0
  | k + 1 => if a.getD k 0 < b.getD k 0 then -1 else if b.getD k 0 < a.getD k 0 then 1 else cmpTop a b k
def cmpL (a b : List Nat) : Int := if a.length < b.length then -1 else if b.length < a.length then 1 else cmpTop a b a.length
def sgn (t : Bool) : Int := if t then -1 else 1
theorem sign_any (t : Bool) (w : World) : Calls Tryd.prog 89 #[.bool t] w fun e w' => e = .returned (.int .i64 (sgn t)) ∧ w' = w := by
  cases t
  all_goals
    go_enter Tryd.func89, Tryd.ntmps89
    go_wp2
    go_ret
    exact ⟨rfl, rfl⟩
set_option maxHeartbeats 400000 in
set_option maxRecDepth 100000 in
theorem compare_any (a b : Option Addr) (ca cb : Nat) (la lb : List Nat) (w : World) (hla : la.length ≤ 9223372036854775807) (_hlb : lb.length ≤ 9223372036854775807) (hra : Rd w a la) (hrb : Rd w b lb) :
    Calls Tryd.prog 71 #[.slice a la.length ca, .slice b lb.length cb] w fun e w' => e = .returned (.int .i64 (cmpL la lb)) ∧ Dr w w' := by
  by_cases hlt : la.length < lb.length
  · go_enter Tryd.func71, Tryd.ntmps71
    go_wp2
    go_ret
    exact ⟨ret_int (by unfold cmpL; rw [if_pos hlt]), Dr.refl _⟩
  by_cases hgt : lb.length < la.length
  · go_enter Tryd.func71, Tryd.ntmps71
    go_wp2
    go_ret
    exact ⟨ret_int (by unfold cmpL; rw [if_neg hlt, if_pos hgt]), Dr.refl _⟩
  have heq : ((la.length : Int) != (lb.length : Int)) = false := by simp; omega
  have hc : Hid (cmpL la lb = cmpTop la lb la.length) := by show _ = _; unfold cmpL; rw [if_neg hlt, if_neg hgt]
  go_enter Tryd.func71, Tryd.ntmps71
  go_wp2
  go_loopw [20] (fun i wr => ∃ k : Nat, k ≤ la.length ∧ i = .int .i64 k ∧ Hid (cmpTop la lb (la.length - k) = cmpTop la lb la.length) ∧ Dr w wr) (fun i _ => la.length - (intOf i).toNat)
  case atStart => exact ⟨0, Nat.zero_le _, rfl, rfl, Dr.refl _⟩
  case round =>
    obtain ⟨k, hk, rfl, hrest, hd⟩ := hrel
    by_cases hkl : k < la.length
    · obtain ⟨b1, o1, rfl, hc1⟩ := hra (la.length - 1 - k) (by omega)
      obtain ⟨b2, o2, rfl, hc2⟩ := hrb (la.length - 1 - k) (by omega)
      obtain ⟨x, hx⟩ : ∃ x, la.getD (la.length - 1 - k) 0 = x := ⟨_, rfl⟩
      obtain ⟨y, hy⟩ : ∃ y, lb.getD (la.length - 1 - k) 0 = y := ⟨_, rfl⟩
      rw [hx, ← hd.cell] at hc1
      rw [hy, ← hd.cell] at hc2
      have Hx : Hid (la.getD (la.length - 1 - k) 0 = x) := hx; clear hx
      have Hy : Hid (lb.getD (la.length - 1 - k) 0 = y) := hy; clear hy
      have hstep : Hid (cmpTop la lb (la.length - k) = if x < y then -1 else if y < x then 1 else cmpTop la lb (la.length - (k + 1))) := by
        show _ = _
        rw [show la.length - k = (la.length - 1 - k) + 1 from by omega, cmpTop, Hx.out, Hy.out, show la.length - (k + 1) = la.length - 1 - k from by omega]
      rcases Nat.lt_trichotomy x y with hxy | hxy | hxy
      · have hne : ((x : Int) != (y : Int)) = true := by simp; omega
        go_wp2
        go_quiet (fail)
        have hd1 : Dr w (wr.drewN nq) := hd.drewN nq
        have hc1' : (wr.drewN nq).cell? _ = _ := hc1
        have hc2' : (wr.drewN nq).cell? _ = _ := hc2
        clear hc1 hc2 hd
        generalize wr.drewN nq = w1 at hd1 hc1' hc2' ⊢
        go_wp2_with fail
        go_quiet ((go_at_call 89; exact Calls.quiet_of_same (sign_any _ _)))
        go_wp2
        go_ret
        exact ⟨ret_int (by rw [hc.out, ← hrest.out, hstep.out, if_pos hxy]; rfl), hd1.drewN _⟩
      · subst hxy
        go_wp2
        go_quiet (fail)
        go_wp2
        go_roundw
        case rel => exact ⟨k + 1, by omega, by go_num, by rw [← hrest.out, hstep.out, if_neg (by omega), if_neg (by omega)]; rfl, hd.drewN _⟩
        case measure => simp [intOf]; omega
      · have hne : ((x : Int) != (y : Int)) = true := by simp; omega
        have hd' : decide ((x : Int) < y) = false := by simp; omega
        go_wp2
        go_quiet (fail)
        have hd1 : Dr w (wr.drewN nq) := hd.drewN nq
        have hc1' : (wr.drewN nq).cell? _ = _ := hc1
        have hc2' : (wr.drewN nq).cell? _ = _ := hc2
        clear hc1 hc2 hd
        generalize wr.drewN nq = w1 at hd1 hc1' hc2' ⊢
        go_wp2_with fail
        go_quiet ((go_at_call 89; exact Calls.quiet_of_same (sign_any _ _)))
        go_wp2
        go_ret
        exact ⟨ret_int (by rw [hc.out, ← hrest.out, hstep.out, if_neg (by omega), if_pos hxy]; simp [sgn]; omega), hd1.drewN _⟩
    · go_wp2
      go_ret
      have hkk : k = la.length := by omega
      exact ⟨ret_int (by rw [hc.out, ← hrest.out, hkk, Nat.sub_self]; rfl), hd⟩
end Go.Proofs.YtbjidpooociamaaDoor
namespace Go.Proofs.YtbjidpooociamaaDoor
open Go.RowKit Lb
theorem or_hi (x y : Nat) (h : y < 4294967296) : y ||| (x * 4294967296) = y + x * 4294967296 := by
  have := Nat.two_pow_add_eq_or_of_lt (i := 32) h x
  rw [Nat.or_comm, Nat.mul_comm, Nat.add_comm]
  exact this.symm
theorem or64 (x y : Nat) (hx : x < 4294967296) (hy : y < 4294967296) : bits .or .u64 (y : Int) ((x : Int) * 4294967296) = ((y + x * 4294967296 : Nat) : Int) := by
  have := u64_or_nat y (x * 4294967296) (by omega) (by omega)
  rw [or_hi x y hy] at this
  rw [← this]
  simp
theorem or64' (x y : Nat) (hx : x < 4294967296) (hy : y < 4294967296) : bits .or .u64 ((x : Int) * 4294967296) (y : Int) = ((x * 4294967296 + y : Nat) : Int) := by
  have := u64_or_nat (x * 4294967296) y (by omega) (by omega)
  rw [Nat.or_comm, or_hi x y hy, Nat.add_comm] at this
  rw [← this]
  simp
theorem or64_0 (x y : Nat) (hx : x < 4294967296) (hy : y = 0) : bits .or .u64 (y : Int) (x : Int) = (x : Int) := by
  subst hy
  have := u64_or_nat 0 x (by omega) (by omega)
  rw [Nat.zero_or] at this
  exact this
set_option maxHeartbeats 400000 in
theorem low64_any (a : Option Addr) (c : Nat) (l : List Nat) (w : World) (hl : l.length ≤ 9223372036854775807) (hr : Rd w a l) (hm : Lim l) :
    Calls Tryd.prog 69 #[.slice a l.length c] w fun e w' => e = .returned (.int .u64 (val (l.take 2) : Nat)) ∧ w' = w := by
  by_cases h2l : 2 < l.length
  all_goals
    go_enter Tryd.func69, Tryd.ntmps69
    go_wp2
    go_loop [3, 8] (fun n i => ∃ k : Nat, k ≤ l.length ∧ k ≤ 2 ∧ i = .int .i64 k ∧ n = .int .u64 (val (l.take k) : Nat)) (fun _ i => 2 - (intOf i).toNat)
    case atStart => exact ⟨0, by omega, by omega, rfl, rfl⟩
    case round =>
      obtain ⟨k, hk, hk2, rfl, rfl⟩ := hrel
      by_cases hkl : k < l.length ∧ k < 2
      · obtain ⟨h1, h2⟩ := hkl
        obtain ⟨b, o, rfl, hc⟩ := hr k h1
        obtain ⟨x, hx⟩ : ∃ x, l.getD k 0 = x := ⟨_, rfl⟩
        have hxl : x < 4294967296 := hx ▸ Lim_getD hm k
        rw [hx] at hc
        have Hx : Hid (l.getD k 0 = x) := hx; clear hx
        rcases (show k = 0 ∨ k = 1 by omega) with rfl | rfl
        · obtain ⟨y, hy⟩ : ∃ y, val (l.take 0) = y := ⟨_, rfl⟩
          rw [hy]
          have Hy : Hid (val (l.take 0) = y) := hy; clear hy
          rw [Nat.add_zero] at hc
          go_wp2
          go_round
          case rel => exact ⟨1, by omega, by omega, rfl, by rw [or64_0 x y hxl Hy.out.symm, val_take_succ, Hx.out]; simp [val]⟩
          case measure => simp [intOf]
        · obtain ⟨y, hy⟩ : ∃ y, val (l.take 1) = y := ⟨_, rfl⟩
          rw [hy]
          have hyl : y < 4294967296 := by
            have := val_lt (Lim_take hm 1)
            rw [hy] at this
            have : (List.take 1 l).length = 1 := by simp; omega
            simp_all
          have Hy : Hid (val (l.take 1) = y) := hy; clear hy
          go_wp2
          go_round
          case rel => exact ⟨2, by omega, by omega, rfl, by rw [or64 x y hxl hyl, val_take_succ, Hx.out, Hy.out]⟩
          case measure => simp [intOf]
      · go_wp2
        go_ret
        have e : l.take 2 = l.take k := by
          rcases (show k = 2 ∨ (k = l.length ∧ k < 2) by omega) with rfl | ⟨h, h'⟩
          · rfl
          · rw [List.take_of_length_le (by omega), List.take_of_length_le (by omega)]
        exact ⟨ret_int (by rw [e]), rfl⟩
set_option maxHeartbeats 400000 in
theorem Norm_any (a : Option Addr) (c : Nat) (l : List Nat) (w : World) (hnc : l.length ≤ c) (hl : l.length ≤ 70368744177664) (hr : Rd w a l) :
    Calls Tryd.prog 17 #[.slice a l.length c] w fun e w' => ∃ v, e = .returned v ∧ Res w.heap.size w' v (l.take (nl l)) ∧ Keep w w' := by
  have h1 := nl_le l
  have e1 : (l.take (nl l)).length = nl l := by simp; omega
  have hfr := fresh_any a c (l.take (nl l)) w (by omega) (hr.take _)
  rw [e1] at hfr
  go_enter Tryd.func17, Tryd.ntmps17
  go_wp2_with (first | (go_at_call 68; refine (trim_any a c l _ hnc (by omega) hr).mono ?_; rintro e w' ⟨rfl, rfl⟩) | (go_at_call 70; refine hfr.mono ?_; rintro e w' ⟨rfl, hrow, hk, -⟩))
  go_ret
  exact ⟨_, rfl, .inr ⟨_, _, by rw [e1]; rfl, Nat.le_refl _, hrow, Nat.le_refl _, List.take_of_length_le (Nat.le_refl _)⟩, hk⟩
set_option maxHeartbeats 400000 in
theorem From_any (n : Nat) (w : World) (hn : n < 18446744073709551616) :
    Calls Tryd.prog 19 #[.int .u64 (n : Nat)] w fun e w' => ∃ v l, e = .returned v ∧ Res w.heap.size w' v l ∧ Lim l ∧ Nrm l ∧ val l = n ∧ Keep w w' := by
  go_enter Tryd.func19, Tryd.ntmps19
  go_wp2_with fail
  have hrow : Row (w.alloc (Obj.cells #[Value.int IntKind.u32 (↑n % 4294967296), Value.int IntKind.u32 (↑n / 4294967296)] 62)) w.heap.size [n % 4294967296, n / 4294967296] := by
    unfold Row; rw [heap_alloc_new]; simp [U]
  have hk : Keep w (w.alloc (Obj.cells #[Value.int IntKind.u32 (↑n % 4294967296), Value.int IntKind.u32 (↑n / 4294967296)] 62)) := (Keep.refl w).alloc _
  generalize w.alloc _ = w1 at hrow hk ⊢
  refine (trim_any (some ⟨w.heap.size, 0, none⟩) 2 [n % 4294967296, n / 4294967296] w1 (by simp) (by simp) (hrow.rd 0 2 (by simp))).mono ?_
  rintro e w' ⟨rfl, rfl⟩
  go_wp2
  go_ret
  refine ⟨_, [n % 4294967296, n / 4294967296].take (nl [n % 4294967296, n / 4294967296]), rfl, ?_, Lim_take (by intro x hx; simp at hx; omega) _, Nrm_take _, by rw [val_take_nl]; simp [val]; omega, hk⟩
  have hres : Res w.heap.size w' (.slice (some ⟨w.heap.size, 0, none⟩) 2 2) [n % 4294967296, n / 4294967296] := .inr ⟨_, _, rfl, Nat.le_refl _, hrow, Nat.le_refl _, rfl⟩
  exact hres.cut (nl_le _)
end Go.Proofs.YtbjidpooociamaaDoor
namespace Go.Proofs.YtbjidpooociamaaDoor
open Go.RowKit Lb
/-- A slice that owns its limbs (made by append). -/
def Own (B : Nat) (w : World) (v : Value) (l : List Nat) : Prop := w.ownsRow B 62 1 v l.length (U l)
theorem Own.keep {B : Nat} {w w' : World} {v : Value} {l : List Nat} (h : Own B w v l) (k : Keep w w') : Own B w' v l := by
  refine ⟨h.1, ?_⟩
  rcases h.2 with h2 | ⟨g, cap, cur, hv, hg, hh, r⟩
  · exact .inl h2
  · exact .inr ⟨g, cap, cur, hv, hg, by rw [k.block g (Array.getElem?_eq_some_iff.1 hh).1]; exact hh, r⟩
theorem Own.mono {B B' : Nat} {w : World} {v : Value} {l : List Nat} (h : Own B w v l) (hB : B' ≤ B) : Own B' w v l := by
  refine ⟨h.1, ?_⟩
  rcases h.2 with h2 | ⟨g, cap, cur, hv, hg, r⟩
  · exact .inl h2
  · exact .inr ⟨g, cap, cur, hv, by omega, r⟩
theorem Own.shape {B : Nat} {w : World} {v : Value} {l : List Nat} (h : Own B w v l) : ∃ a c, v = .slice a l.length c ∧ l.length ≤ c ∧ Rd w a l := by
  rcases h.2 with ⟨h1, h2⟩ | ⟨g, cap, cur, hv, hg, hh, h1, h2, h3, h4⟩
  · exact ⟨none, 0, by rw [h1, h2], by omega, fun j hj => by omega⟩
  · refine ⟨some ⟨g, 0, none⟩, cap, hv, h1, ?_⟩
    intro j hj
    refine ⟨g, 0, rfl, ?_⟩
    rw [Nat.zero_add, cell_of_row w g j cur 62 (0, 0) hh, ← U_get l j hj, ← h4]
    simp [hj]
theorem Res.own {B : Nat} {w : World} {v : Value} {l : List Nat} (h : Res B w v l) (hl : ∀ a n c, v = .slice a n c → c ≤ maxLen) : Own B w v l := by
  refine ⟨by simp [U], ?_⟩
  rcases h with ⟨rfl, rfl⟩ | ⟨g, r, e, hb, hr, h1, h2⟩
  · exact .inl ⟨rfl, rfl⟩
  · refine .inr ⟨g, r.length, _, e, hb, hr, h1, hl _ _ _ e, by simp [U], ?_⟩
    rw [← h2]; simp [U, List.map_take]
/-- out = append(out, x). -/
theorem wpList_app32 {w0 wr : World} {ops : Array Oper} {rest : List Oper} {o : Oper} {a : Act} {Q : Exit → Act → World → Prop} (hgd : o.guard = none) (s x : Operand)
    (ho : o.op = .call { callee := .builtin .append, args := #[s, x], argTypes := #[22, 22] }) (l : List Nat) (v : Value) (hs : a.eval s = v) (Y : Int) (y : Nat) (hY : Y = (y : Int))
    (hx : a.eval x = .slice (some ⟨wr.heap.size, 0, none⟩) 1 1) (hown : Own w0.heap.size wr v l) (hk : Keep w0 wr) (hlen : l.length < 35184372088832)
    (hK : ∀ v' w1, Own w0.heap.size w1 v' (l ++ [y]) → Keep w0 w1 → wpList Tryd.prog ops Q rest (a.put o.dst v') w1) :
    wpList Tryd.prog ops Q (o :: rest) a (wr.alloc (.cells #[.int .u32 Y] 62)) := by
  obtain ⟨i0, hi, hz0, hz1, hz2⟩ := info_parts i62
  subst hY
  refine wpList_append_own _ hgd s x 22 ho w0.heap.size 62 i0 (.int .u32 0) 1 4 Tryd.underlying22 hi hz0 hz1 hz2 rfl (by decide) v _ _ hs (hown.alloc _) ⟨wr.heap.size, 0, none⟩ 1 1 [.int .u32 (y : Int)] hx rfl ?_ ?_ ?_ ?_ ?_ ?_
  · intro j u hj
    match j, hj with
    | 0, hj => simp at hj; subst hj; simp [Addr.add]
  · intro u hu; simp at hu; subst hu; rfl
  · simp only [maxLen]; omega
  · omega
  · have := hk.le; simp; omega
  · intro v' w1 h1 h2 _
    refine hK v' w1 ?_ ?_
    · unfold Own; simpa [U] using h1
    · refine Below.grown (hk.alloc _) h2 (by have := hk.le; simp; omega) ?_
      intro k hk'
      have := hown.lt k hk'
      exact this.1
theorem take_snoc (l : List Nat) (j : Nat) (h : j < l.length) : l.take (j + 1) = l.take j ++ [l.getD j 0] := by
  rw [List.take_succ_eq_append_getElem h]; simp [List.getD, h]
set_option maxHeartbeats 400000 in
set_option maxRecDepth 100000 in
theorem rNorm_any (a : Option Addr) (c : Nat) (l : List Nat) (w : World) (_hnc : l.length ≤ c) (hl : l.length ≤ 35184372088000) (hr : Rd w a l) :
    Calls Tryd.prog 18 #[.slice a l.length c] w fun e w' => ∃ v, e = .returned v ∧ Own w.heap.size w' v (l.take (nl l)) ∧ Keep w w' := by
  obtain ⟨i0, hi, hz0, hz1, hz2⟩ := info_parts i62
  go_enter Tryd.func18, Tryd.ntmps18
  go_wp2
  go_loop [3] (fun i => ∃ k : Nat, k ≤ l.length ∧ i = .int .i64 k ∧ ∀ j, k ≤ j → l.getD j 0 = 0) (fun i => (intOf i).toNat)
  case atStart => exact ⟨l.length, Nat.le_refl _, rfl, fun j hj => by simp [List.getD, List.getElem?_eq_none hj]⟩
  case round =>
    obtain ⟨k, hk, rfl, hz⟩ := hrel
    by_cases hc0 : 0 < k ∧ l.getD (k - 1) 0 = 0
    · obtain ⟨h0, hx⟩ := hc0
      obtain ⟨b, o, rfl, hc⟩ := hr (k - 1) (by omega)
      rw [hx] at hc
      have Hx : Hid (l.getD (k - 1) 0 = 0) := hx; clear hx
      go_wp2
      go_round
      case rel => exact ⟨k - 1, by omega, by go_num, fun j hj => by
        by_cases e : j = k - 1
        · subst e; exact Hx.out
        · exact hz j (by omega)⟩
      case measure => simp [intOf]; omega
    · have hnl : nl l = k := nl_eq l k hz (fun h h' => hc0 ⟨h, h'⟩)
      have Hnl : Hid (nl l = k) := hnl
      clear hz hnl
      have hex : (0 < k ∧ ∃ b o x, a = some ⟨b, o, none⟩ ∧ x ≠ 0 ∧ w.cell? ⟨b, o + (k - 1), none⟩ = some (.int .u32 (x : Nat))) ∨ k = 0 := by
        by_cases h0 : 0 < k
        · obtain ⟨b, o, e, hc⟩ := hr (k - 1) (by omega)
          exact .inl ⟨h0, b, o, _, e, fun h => hc0 ⟨h0, h⟩, hc⟩
        · exact .inr (by omega)
      clear hc0
      rcases hex with ⟨h0, b, o, x, rfl, hx0, hc⟩ | rfl
      all_goals
        go_wp2
        go_loopw [4, 5] (fun v i wr => ∃ j : Nat, j ≤ nl l ∧ i = .int .i64 j ∧ Own w.heap.size wr v (l.take j) ∧ Keep w wr) (fun _ i _ => nl l - (intOf i).toNat)
        case atStart => exact ⟨0, by omega, rfl, World.ownsRow_nil _ _ _ _, Keep.refl _⟩
        case round =>
          obtain ⟨j, hj, rfl, hown, hkp⟩ := hrel
          rw [Hnl.out] at hj
          first
          | (have hj0 : j = 0 := by omega
             subst hj0
             go_wp2
             go_ret
             exact ⟨_, rfl, by rw [Hnl.out]; exact hown, hkp⟩)
          | (clear hc
             by_cases hjl : j < k
             · obtain ⟨b', o', e', hc'⟩ := hr j (by omega)
               simp only [Option.some.injEq, Addr.mk.injEq, and_true] at e'
               obtain ⟨rfl, rfl⟩ := e'
               have hc2 := hkp.cell hc'
               clear hc'
               obtain ⟨y, hy⟩ : ∃ y, l.getD j 0 = y := ⟨_, rfl⟩
               rw [hy] at hc2
               have Hy : Hid (l.getD j 0 = y) := hy; clear hy
               have hlen : (l.take j).length < 35184372088832 := by simp; omega
               have hle : (l.take j).length = j := by simp; omega
               go_wp2_with (at_builtin; refine wpList_app32 rfl _ _ rfl (l.take j) _ rfl _ y rfl rfl hown hkp hlen ?_; intro v' w1 hown' hk')
               go_roundw
               case rel => exact ⟨j + 1, by rw [Hnl.out]; omega, by go_num, by rw [take_snoc l j (by omega), Hy.out]; exact hown', hk'⟩
               case measure => have := Hnl.out; simp [intOf]; omega
             · go_wp2
               go_ret
               exact ⟨_, rfl, by rw [Hnl.out, show k = j by omega]; exact hown, hkp⟩)
end Go.Proofs.YtbjidpooociamaaDoor
namespace Go.Proofs.YtbjidpooociamaaDoor
open Go.RowKit Lb
def bitV (l : List Nat) (n : Int) : Bool :=
  if 0 ≤ n ∧ n / 32 < (l.length : Int) then bits BinOp.and IntKind.u32 (((l.getD (n / 32).toNat 0 : Nat) : Int) / 2 ^ (n % 32).toNat) 1 == 1 else false
set_option maxRecDepth 100000 in
set_option maxHeartbeats 400000 in
theorem Bit_any (a : Option Addr) (c : Nat) (l : List Nat) (n : Int) (w : World) (_hl : l.length ≤ 70368744177664) (hr : Rd w a l) (hm : Lim l) (_hn : -9223372036854775808 ≤ n) (_hn' : n ≤ 9223372036854775807) :
    Calls Tryd.prog 25 #[.slice a l.length c, .int .i64 n] w fun e w' => e = .returned (.bool (bitV l n)) ∧ w' = w := by
  by_cases h0 : n < 0
  · go_enter Tryd.func25, Tryd.ntmps25
    go_wp2
    go_ret
    exact ⟨ret_bool (by unfold bitV; rw [if_neg (by omega)]), rfl⟩
  · have h0' : decide (n < 0) = false := by simp; omega
    by_cases h1 : n / 32 < l.length
    · obtain ⟨b, o, rfl, hc⟩ := hr (n / 32).toNat (by omega)
      obtain ⟨x, hx⟩ : ∃ x, l.getD (n / 32).toNat 0 = x := ⟨_, rfl⟩
      rw [hx] at hc
      have hxl : x < 4294967296 := hx ▸ Lim_getD hm _
      have Hx : Hid (l.getD (n / 32).toNat 0 = x) := hx; clear hx
      go_enter Tryd.func25, Tryd.ntmps25
      go_wp2
      go_ret
      exact ⟨ret_bool (by unfold bitV; rw [if_pos ⟨by omega, h1⟩, Hx.out]), rfl⟩
    · go_enter Tryd.func25, Tryd.ntmps25
      go_wp2
      go_ret
      exact ⟨ret_bool (by unfold bitV; rw [if_neg (by omega)]), rfl⟩
set_option maxRecDepth 100000 in
set_option maxHeartbeats 400000 in
theorem rBit_any (a : Option Addr) (c : Nat) (l : List Nat) (n : Int) (w : World) (_hl : l.length ≤ 70368744177664) (hr : Rd w a l) (hm : Lim l) (_hn : -9223372036854775808 ≤ n) (_hn' : n ≤ 9223372036854775807) :
    Calls Tryd.prog 26 #[.slice a l.length c, .int .i64 n] w fun e w' => e = .returned (.bool (bitV l n)) ∧ w' = w := by
  by_cases h0 : n < 0
  · have h0' : decide (0 ≤ n) = false := by simp; omega
    go_enter Tryd.func26, Tryd.ntmps26
    go_wp2
    go_ret
    exact ⟨ret_bool (by unfold bitV; rw [if_neg (by omega)]), rfl⟩
  · have h0' : 0 ≤ n := by omega
    by_cases h1 : n / 32 < l.length
    · obtain ⟨b, o, rfl, hc⟩ := hr (n / 32).toNat (by omega)
      obtain ⟨x, hx⟩ : ∃ x, l.getD (n / 32).toNat 0 = x := ⟨_, rfl⟩
      rw [hx] at hc
      have hxl : x < 4294967296 := hx ▸ Lim_getD hm _
      have Hx : Hid (l.getD (n / 32).toNat 0 = x) := hx; clear hx
      go_enter Tryd.func26, Tryd.ntmps26
      go_wp2
      go_ret
      exact ⟨ret_bool (by unfold bitV; rw [if_pos ⟨by omega, h1⟩, Hx.out]), rfl⟩
    · have h1' : decide (n / 32 < (l.length : Int)) = false := by simp; omega
      go_enter Tryd.func26, Tryd.ntmps26
      go_wp2
      go_ret
      exact ⟨ret_bool (by unfold bitV; rw [if_neg (by omega)]), rfl⟩

set_option maxRecDepth 100000 in
set_option maxHeartbeats 400000 in
theorem Same_any (a b : Option Addr) (ca cb : Nat) (l : List Nat) (w : World) (_hl : l.length ≤ 70368744177664) (hra : Rd w a l) (hrb : Rd w b l) :
    Calls Tryd.prog 16 #[.slice a l.length ca, .slice b l.length cb] w fun e w' => e = .returned (.bool true) ∧ Dr w w' := by
  go_enter Tryd.func16, Tryd.ntmps16
  go_wp2
  go_loopw [13] (fun i wr => ∃ k : Nat, k ≤ l.length ∧ i = .int .i64 k ∧ Dr w wr) (fun i _ => l.length - (intOf i).toNat)
  case atStart => exact ⟨0, Nat.zero_le _, rfl, Dr.refl _⟩
  case round =>
    obtain ⟨k, hk, rfl, hd⟩ := hrel
    by_cases hkl : k < l.length
    · obtain ⟨b1, o1, rfl, hc1⟩ := hra k hkl
      obtain ⟨b2, o2, rfl, hc2⟩ := hrb k hkl
      obtain ⟨x, hx⟩ : ∃ x, l.getD k 0 = x := ⟨_, rfl⟩
      rw [hx, ← hd.cell] at hc1
      rw [hx, ← hd.cell] at hc2
      clear hx
      go_wp2
      go_quiet (fail)
      go_wp2
      go_roundw
      case rel => exact ⟨k + 1, by omega, by go_num, hd.drewN _⟩
      case measure => simp [intOf]; omega
    · go_wp2
      go_ret
      exact ⟨rfl, hd⟩

set_option maxRecDepth 100000 in
set_option maxHeartbeats 400000 in
theorem Cmp_any (a b : Option Addr) (ca cb : Nat) (la lb : List Nat) (w : World) (hca : la.length ≤ ca) (hcb : lb.length ≤ cb) (hla : la.length ≤ 70368744177664) (hlb : lb.length ≤ 70368744177664) (hra : Rd w a la) (hrb : Rd w b lb) :
    Calls Tryd.prog 21 #[.slice a la.length ca, .slice b lb.length cb] w fun e w' => e = .returned (.int .i64 (cmpL (la.take (nl la)) (lb.take (nl lb)))) ∧ Dr w w' := by
  have h1 := nl_le la
  have h2 := nl_le lb
  have e1 : (la.take (nl la)).length = nl la := by simp; omega
  have e2 : (lb.take (nl lb)).length = nl lb := by simp; omega
  have hc := compare_any a b ca cb (la.take (nl la)) (lb.take (nl lb)) w (by omega) (by omega) (hra.take _) (hrb.take _)
  rw [e1, e2] at hc
  have t1 := trim_any a ca la w hca (by omega) hra
  have t2 := trim_any b cb lb w hcb (by omega) hrb
  go_enter Tryd.func21, Tryd.ntmps21
  go_wp2_with fail
  refine t1.mono ?_
  rintro e w' ⟨rfl, rfl⟩
  go_wp2_with fail
  refine t2.mono ?_
  rintro e w' ⟨rfl, rfl⟩
  go_wp2_with fail
  refine hc.mono ?_
  rintro e w' ⟨rfl, hd⟩
  go_wp2
  go_ret
  exact ⟨rfl, hd⟩

def smallV (l : List Nat) : Nat := if nl l ≤ 2 then val l else 0
def smallB (l : List Nat) : Bool := decide (nl l ≤ 2)
set_option maxRecDepth 100000 in
set_option maxHeartbeats 400000 in
theorem Small_any (a : Option Addr) (c : Nat) (l : List Nat) (w : World) (hnc : l.length ≤ c) (hl : l.length ≤ 70368744177664) (hr : Rd w a l) (hm : Lim l) :
    Calls Tryd.prog 13 #[.slice a l.length c] w fun e w' => e = .returned (.tuple #[.int .u64 (smallV l : Nat), .bool (smallB l)]) ∧ w' = w := by
  have h1 := nl_le l
  have e1 : (l.take (nl l)).length = nl l := by simp; omega
  have t1 := trim_any a c l w hnc (by omega) hr
  have t2 := low64_any a c (l.take (nl l)) w (by omega) (hr.take _) (Lim_take hm _)
  rw [e1] at t2
  by_cases h2 : 2 < nl l
  · go_enter Tryd.func13, Tryd.ntmps13
    go_wp2_with fail
    refine t1.mono ?_
    rintro e w' ⟨rfl, rfl⟩
    go_wp2
    go_ret2
    exact ⟨by simp [smallV, smallB, show ¬ nl l ≤ 2 by omega], rfl⟩
  · have hd : decide (2 < nl l) = false := by simp; omega
    have ev : val ((l.take (nl l)).take 2) = val l := by rw [List.take_of_length_le (by omega), val_take_nl]
    rw [ev] at t2
    go_enter Tryd.func13, Tryd.ntmps13
    go_wp2_with fail
    refine t1.mono ?_
    rintro e w' ⟨rfl, rfl⟩
    go_wp2_with fail
    refine t2.mono ?_
    rintro e w' ⟨rfl, rfl⟩
    go_wp2
    go_ret2
    exact ⟨by simp [smallV, smallB, show nl l ≤ 2 by omega], rfl⟩
theorem and64 (n : Nat) (hn : n < 18446744073709551616) : bits .and .u64 (n : Int) 4294967295 = ((n % 4294967296 : Nat) : Int) := by
  have := u64_and_nat n 4294967295 hn (by omega)
  rw [show n &&& 4294967295 = n % 4294967296 from Nat.and_two_pow_sub_one_eq_mod n 32] at this
  exact this
set_option maxRecDepth 100000 in
set_option maxHeartbeats 400000 in
theorem rFrom_any (n : Nat) (w : World) (hn : n < 18446744073709551616) :
    Calls Tryd.prog 20 #[.int .u64 (n : Nat)] w fun e w' => ∃ v l, e = .returned v ∧ Own w.heap.size w' v l ∧ Lim l ∧ Nrm l ∧ val l = n ∧ Keep w w' := by
  have hand := and64 n hn
  go_enter Tryd.func20, Tryd.ntmps20
  go_wp2_with fail
  have hrow : Row (w.alloc (Obj.cells #[Value.int IntKind.u32 (↑n % 4294967296), Value.int IntKind.u32 (↑n / 4294967296)] 62)) w.heap.size [n % 4294967296, n / 4294967296] := by
    unfold Row; rw [heap_alloc_new]; simp [U]
  have hk : Keep w (w.alloc (Obj.cells #[Value.int IntKind.u32 (↑n % 4294967296), Value.int IntKind.u32 (↑n / 4294967296)] 62)) := (Keep.refl w).alloc _
  generalize w.alloc _ = w1 at hrow hk ⊢
  refine (rNorm_any (some ⟨w.heap.size, 0, none⟩) 2 [n % 4294967296, n / 4294967296] w1 (by simp) (by simp) (hrow.rd 0 2 (by simp))).mono ?_
  rintro e w' ⟨v, rfl, hown, hk'⟩
  go_wp2
  go_ret
  exact ⟨_, [n % 4294967296, n / 4294967296].take (nl [n % 4294967296, n / 4294967296]), rfl, hown.mono hk.le, Lim_take (by intro x hx; simp at hx; omega) _, Nrm_take _, by rw [val_take_nl]; simp [val]; omega, hk.trans hk'⟩
def lenB (l : List Nat) : Nat := if nl l = 0 then 0 else 32 * (nl l - 1) + bitLen (l.getD (nl l - 1) 0)
theorem bitLen_half (x : Nat) (h : 0 < x) : bitLen x = bitLen (x / 2) + 1 := by
  by_cases h1 : x / 2 = 0
  · have : x = 1 := by omega
    subst this; decide
  · have := bitLen_shift x 1 (by simpa using h1)
    simp at this; omega
theorem bitLen_le (x : Nat) (h : x < 4294967296) : bitLen x ≤ 32 := by
  unfold bitLen
  split
  · omega
  · rename_i h0
    have := (Nat.log2_lt h0).2 (show x < 2 ^ 32 from h)
    omega
set_option maxRecDepth 100000 in
set_option maxHeartbeats 400000 in
theorem rLen_any (a : Option Addr) (c : Nat) (l : List Nat) (w : World) (hnc : l.length ≤ c) (hl : l.length ≤ 35184372088000) (hr : Rd w a l) (hm : Lim l) :
    Calls Tryd.prog 24 #[.slice a l.length c] w fun e w' => e = .returned (.int .i64 (lenB l : Nat)) ∧ Keep w w' := by
  have h1 := nl_le l
  have e1 : (l.take (nl l)).length = nl l := by simp; omega
  by_cases h0 : nl l = 0
  · have hb : ((nl l : Int) == 0) = true := by simp; omega
    have he : Hid (lenB l = 0) := by show _ = _; unfold lenB; rw [if_pos h0]
    clear h0
    go_enter Tryd.func24, Tryd.ntmps24
    go_wp2_with fail
    refine (rNorm_any a c l w hnc hl hr).mono ?_
    rintro e w' ⟨v, rfl, hown, hk'⟩
    obtain ⟨a', c', rfl, hc', hr'⟩ := hown.shape
    rw [e1]
    go_wp2
    go_ret
    exact ⟨ret_int (by rw [he.out]; rfl), hk'⟩
  · have hb : ((nl l : Int) == 0) = false := by simp; omega
    obtain ⟨m, hm'⟩ : ∃ m, nl l = m + 1 := ⟨nl l - 1, by omega⟩
    obtain ⟨x, hx⟩ : ∃ x, l.getD m 0 = x := ⟨_, rfl⟩
    have hxl : x < 4294967296 := hx ▸ Lim_getD hm _
    have he : Hid (lenB l = 32 * m + bitLen x) := by show _ = _; unfold lenB; rw [if_neg h0, hm', Nat.add_sub_cancel, hx]
    have Hm : Hid (nl l = m + 1) := hm'
    have hbl := bitLen_le x hxl
    go_enter Tryd.func24, Tryd.ntmps24
    go_wp2_with fail
    refine (rNorm_any a c l w hnc hl hr).mono ?_
    rintro e w' ⟨v, rfl, hown, hk'⟩
    obtain ⟨a', c', rfl, hc', hr'⟩ := hown.shape
    rw [e1, hm']
    obtain ⟨b, o, rfl, hc⟩ := hr' m (by omega)
    have hx2 : (List.take (nl l) l).getD m 0 = x := by rw [← hx]; simp [List.getD, hm']
    rw [hx2] at hc
    clear hx hx2 hr' hown hm' h0 hb hr e1
    have hml : m ≤ 35184372088000 := by have := Hm.out; omega
    clear h1
    have hb2 : (((m : Int) + 1) == 0) = false := by simp; omega
    go_wp2
    go_loop [4, 5] (fun n t => ∃ k y : Nat, y < 4294967296 ∧ k + bitLen y = 32 * m + bitLen x ∧ k ≤ 32 * m + 32 ∧ n = .int .i64 k ∧ t = .int .u32 y) (fun _ t => (intOf t).toNat)
    case atStart => exact ⟨32 * m, x, hxl, rfl, by omega, by simp, rfl⟩
    case round =>
      obtain ⟨k, y, hy, hsum, hk2, rfl, rfl⟩ := hrel
      have Hs : Hid (k + bitLen y = 32 * m + bitLen x) := hsum
      clear hsum
      by_cases hy0 : 0 < y
      · have hh := bitLen_half y hy0
        have Hh : Hid (bitLen y = bitLen (y / 2) + 1) := hh
        have hk3 : k < 32 * m + 32 := by have := Hs.out; omega
        clear hh
        go_wp2
        go_round
        case rel => exact ⟨k + 1, y / 2, by omega, by have := Hs.out; have := Hh.out; omega, by omega, by go_num, by simp⟩
        case measure => simp [intOf]; omega
      · go_wp2
        go_ret
        exact ⟨ret_int (by
          have := Hs.out
          rw [show y = 0 by omega] at this
          simp [bitLen] at this
          rw [he.out, bitLen]; omega), hk'⟩
end Go.Proofs.YtbjidpooociamaaDoor
namespace Go.Proofs.YtbjidpooociamaaDoor
open Go.RowKit Lb
theorem val_drop_pred (r : List Nat) (k : Nat) (h0 : 0 < k) (h : k ≤ r.length) : val (r.drop (k - 1)) = r.getD (k - 1) 0 + 4294967296 * val (r.drop k) := by
  obtain ⟨j, rfl⟩ : ∃ j, k = j + 1 := ⟨k - 1, by omega⟩
  rw [Nat.add_sub_cancel, List.drop_eq_getElem_cons (by omega), val]
  simp [List.getD, show j < r.length by omega]
set_option maxRecDepth 100000 in
set_option maxHeartbeats 400000 in
theorem rSmall_any (a : Option Addr) (c : Nat) (l : List Nat) (w : World) (hnc : l.length ≤ c) (hl : l.length ≤ 35184372088000) (hr : Rd w a l) (hm : Lim l) :
    Calls Tryd.prog 14 #[.slice a l.length c] w fun e w' => e = .returned (.tuple #[.int .u64 (smallV l : Nat), .bool (smallB l)]) ∧ Keep w w' := by
  have h1 := nl_le l
  have e1 : (l.take (nl l)).length = nl l := by simp; omega
  have hmm := Lim_take hm (nl l)
  by_cases h2 : 2 < nl l
  · go_enter Tryd.func14, Tryd.ntmps14
    go_wp2_with fail
    refine (rNorm_any a c l w hnc hl hr).mono ?_
    rintro e w' ⟨v, rfl, hown, hk'⟩
    obtain ⟨a', c', rfl, hc', hr'⟩ := hown.shape
    rw [e1]
    go_wp2
    go_ret2
    exact ⟨by simp [smallV, smallB, show ¬ nl l ≤ 2 by omega], hk'⟩
  · have hd : decide (2 < (nl l : Int)) = false := by simp; omega
    go_enter Tryd.func14, Tryd.ntmps14
    go_wp2_with fail
    refine (rNorm_any a c l w hnc hl hr).mono ?_
    rintro e w' ⟨v, rfl, hown, hk'⟩
    obtain ⟨a', c', rfl, hc', hr'⟩ := hown.shape
    have ev : Hid (val (l.take (nl l)) = val l) := val_take_nl l
    rw [e1]
    clear hown
    generalize l.take (nl l) = r at *
    generalize hn : nl l = n at *
    have Hn : Hid (nl l = n) := hn
    clear hn
    have Hr : Hid (r.length = n) := e1
    have hn2 : n ≤ 2 := by omega
    clear e1
    go_wp2
    go_loop [5, 6] (fun v i => ∃ k : Nat, k ≤ n ∧ i = .int .i64 ((k : Int) - 1) ∧ v = .int .u64 (val (r.drop k) : Nat)) (fun _ i => (intOf i + 1).toNat)
    case atStart => exact ⟨n, Nat.le_refl _, rfl, by rw [List.drop_eq_nil_of_le (by rw [Hr.out]; exact Nat.le_refl _)]; rfl⟩
    case round =>
      obtain ⟨k, hk, rfl, rfl⟩ := hrel
      by_cases hk0 : 0 < k
      · obtain ⟨b, o, rfl, hc⟩ := hr' (k - 1) (by have := Hr.out; omega)
        obtain ⟨x, hx⟩ : ∃ x, r.getD (k - 1) 0 = x := ⟨_, rfl⟩
        have hxl : x < 4294967296 := hx ▸ Lim_getD hmm _
        obtain ⟨y, hy⟩ : ∃ y, val (r.drop k) = y := ⟨_, rfl⟩
        have hyl : y < 4294967296 := by
          rw [← hy]
          refine Nat.lt_of_lt_of_le (val_lt (Lim_drop hmm k)) ?_
          refine Nat.le_trans (Nat.pow_le_pow_right (by omega) (show (r.drop k).length ≤ 1 by have := Hr.out; simp; omega)) (by omega)
        have Hv : Hid (val (r.drop (k - 1)) = y * 4294967296 + x) := by
          show _ = _
          rw [val_drop_pred r k hk0 (by have := Hr.out; omega), hx, hy]; omega
        rw [hx] at hc
        rw [hy]
        clear hx hy
        have hor := or64' y x hyl hxl
        go_wp2
        go_round
        case rel => exact ⟨k - 1, by omega, by go_num, by rw [Hv.out]; simp⟩
        case measure => simp [intOf]; omega
      · go_wp2
        go_ret2
        have e0 : k = 0 := by omega
        subst e0
        exact ⟨by have := ev.out; simp [smallV, smallB, Hn.out, hn2, this], hk'⟩
set_option maxRecDepth 100000 in
set_option maxHeartbeats 400000 in
theorem rCmp_any (a b : Option Addr) (ca cb : Nat) (la lb : List Nat) (w : World) (hca : la.length ≤ ca) (hcb : lb.length ≤ cb) (hla : la.length ≤ 35184372088000) (hlb : lb.length ≤ 35184372088000) (hra : Rd w a la) (hrb : Rd w b lb) :
    Calls Tryd.prog 22 #[.slice a la.length ca, .slice b lb.length cb] w fun e w' => e = .returned (.int .i64 (cmpL (la.take (nl la)) (lb.take (nl lb)))) ∧ Keep w w' := by
  have h1 := nl_le la
  have h2 := nl_le lb
  have n1 := rNorm_any a ca la w hca hla hra
  have n2 := fun w1 (hk1 : Keep w w1) => rNorm_any b cb lb w1 hcb hlb (hrb.keep hk1)
  have hb1 : (la.take (nl la)).length ≤ 35184372088000 := by simp; omega
  have hb2 : (lb.take (nl lb)).length ≤ 35184372088000 := by simp; omega
  generalize la.take (nl la) = x at n1 hb1 ⊢
  generalize lb.take (nl lb) = y at n2 hb2 ⊢
  clear h1 h2
  go_enter Tryd.func22, Tryd.ntmps22
  go_wp2_with fail
  refine n1.mono ?_
  rintro e w1 ⟨v, rfl, hown1, hk1⟩
  obtain ⟨a1, c1, rfl, hc1, hr1⟩ := hown1.shape
  clear hown1
  go_wp2_with fail
  refine (n2 w1 hk1).mono ?_
  rintro e w2 ⟨v, rfl, hown2, hk2⟩
  obtain ⟨a2, c2, rfl, hc2, hr2⟩ := hown2.shape
  clear hown2 n1 n2
  have hr1 := hr1.keep hk2
  have hk := hk1.trans hk2
  by_cases hlt : x.length < y.length
  · have hne : ((x.length : Int) != (y.length : Int)) = true := by simp; omega
    go_wp2
    go_ret
    exact ⟨ret_int (by unfold cmpL; rw [if_pos hlt]), hk⟩
  by_cases hgt : y.length < x.length
  · have hne : ((x.length : Int) != (y.length : Int)) = true := by simp; omega
    go_wp2
    go_ret
    exact ⟨ret_int (by unfold cmpL; rw [if_neg hlt, if_pos hgt]), hk⟩
  have heq : ((x.length : Int) != (y.length : Int)) = false := by simp; omega
  have hc : Hid (cmpL x y = cmpTop x y x.length) := by show _ = _; unfold cmpL; rw [if_neg hlt, if_neg hgt]
  go_wp2
  go_loopw [7] (fun i wr => ∃ k : Nat, k ≤ x.length ∧ i = .int .i64 ((k : Int) - 1) ∧ Hid (cmpTop x y k = cmpTop x y x.length) ∧ Dr w2 wr) (fun i _ => (intOf i + 1).toNat)
  case atStart => exact ⟨x.length, Nat.le_refl _, rfl, rfl, Dr.refl _⟩
  case round =>
    obtain ⟨k, hk0, rfl, hrest, hd⟩ := hrel
    by_cases hkl : 0 < k
    · obtain ⟨b1, o1, rfl, hx1⟩ := hr1 (k - 1) (by omega)
      obtain ⟨b2, o2, rfl, hx2⟩ := hr2 (k - 1) (by omega)
      obtain ⟨p, hp⟩ : ∃ p, x.getD (k - 1) 0 = p := ⟨_, rfl⟩
      obtain ⟨q, hq⟩ : ∃ q, y.getD (k - 1) 0 = q := ⟨_, rfl⟩
      rw [hp, ← hd.cell] at hx1
      rw [hq, ← hd.cell] at hx2
      have Hp : Hid (x.getD (k - 1) 0 = p) := hp; clear hp
      have Hq : Hid (y.getD (k - 1) 0 = q) := hq; clear hq
      have hstep : Hid (cmpTop x y k = if p < q then -1 else if q < p then 1 else cmpTop x y (k - 1)) := by
        show _ = _
        obtain ⟨j, rfl⟩ : ∃ j, k = j + 1 := ⟨k - 1, by omega⟩
        rw [cmpTop]
        have h1 := Hp.out
        have h2 := Hq.out
        rw [Nat.add_sub_cancel] at h1 h2 ⊢
        rw [h1, h2]
      clear hr1 hr2
      rcases Nat.lt_trichotomy p q with hpq | hpq | hpq
      · go_wp2
        go_quiet (fail)
        go_wp2
        go_ret
        exact ⟨ret_int (by rw [hc.out, ← hrest.out, hstep.out, if_pos hpq]), hk.trans (hd.drewN _).keep⟩
      · subst hpq
        have hf : decide ((p : Int) < p) = false := by simp
        go_wp2
        go_quiet (fail)
        have hd1 : Dr w2 (wr.drewN nq) := hd.drewN nq
        have hx1' : (wr.drewN nq).cell? _ = _ := hx1
        have hx2' : (wr.drewN nq).cell? _ = _ := hx2
        clear hx1 hx2 hd
        generalize wr.drewN nq = w3 at hd1 hx1' hx2' ⊢
        go_wp2
        go_quiet (fail)
        go_wp2
        go_roundw
        case rel => exact ⟨k - 1, by omega, by go_num, by rw [← hrest.out, hstep.out, if_neg (by omega), if_neg (by omega)]; rfl, hd1.drewN _⟩
        case measure => simp [intOf]; omega
      · have hf : decide ((p : Int) < q) = false := by simp; omega
        go_wp2
        go_quiet (fail)
        have hd1 : Dr w2 (wr.drewN nq) := hd.drewN nq
        have hx1' : (wr.drewN nq).cell? _ = _ := hx1
        have hx2' : (wr.drewN nq).cell? _ = _ := hx2
        clear hx1 hx2 hd
        generalize wr.drewN nq = w3 at hd1 hx1' hx2' ⊢
        go_wp2
        go_quiet (fail)
        go_wp2
        go_ret
        exact ⟨ret_int (by rw [hc.out, ← hrest.out, hstep.out, if_neg (by omega), if_pos hpq]), hk.trans (hd1.drewN _).keep⟩
    · go_wp2
      go_ret
      have hkk : k = 0 := by omega
      subst hkk
      exact ⟨ret_int (by rw [hc.out, ← hrest.out]; rfl), hk.trans hd.keep⟩
end Go.Proofs.YtbjidpooociamaaDoor
