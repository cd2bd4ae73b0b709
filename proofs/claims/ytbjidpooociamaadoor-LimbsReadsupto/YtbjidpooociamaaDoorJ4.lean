import Derived.Test.YtbjidpooociamaaDoorJ3
namespace Go.Proofs.YtbjidpooociamaaDoor
open Go.RowKit Lb
theorem B_ten (n : Nat) : 4294967296 ^ n ≤ 10 ^ (10 * n) := by
  rw [Nat.pow_mul]
  exact Nat.pow_le_pow_left (by decide) _
set_option maxRecDepth 100000 in
set_option maxHeartbeats 1600000 in
theorem rPrint_any (a : Option Addr) (ca : Nat) (la : List Nat) (w : World) (hca : la.length ≤ ca) (hla : la.length ≤ 1048576) (hra : Rd w a la) (hma : Lim la) :
    Calls Tryd.prog 30 #[.slice a la.length ca] w fun e w' => e = .returned (.string (S8 (dec (val la)))) ∧ Keep w w' := by
  have l1 := nl_le la
  have e1 : (la.take (nl la)).length ≤ 1048576 := by simp; omega
  have mx := Lim_take hma (nl la)
  have nx := Nrm_take la
  have vx := val_take_nl la
  have hN1 := rNorm_any a ca la w hca (by omega) hra
  rw [← vx]
  generalize la.take (nl la) = x at *
  clear vx l1 hra hma hca hla
  have hz1 : (fun (wx : World) => True) w := trivial
  clear hz1
  by_cases hx0 : x = []
  · subst hx0
    go_enter Tryd.func30, Tryd.ntmps30
    go_wp2_with fail
    refine hN1.mono ?_
    rintro e w1 ⟨v1, rfl, o1, k1⟩
    obtain ⟨a1, c1, rfl, hc1, r1⟩ := o1.shape
    go_wp2_with fail
    go_ret
    exact ⟨rfl, k1⟩
  · have hl0 : 0 < x.length := List.length_pos_iff.2 hx0
    have hV0 : 0 < val x := val_pos nx hx0
    have hVl : (rdig (val x)).length ≤ 10485760 := Nat.le_trans (rdig_len (10 * x.length) _ (Nat.lt_of_lt_of_le (val_lt mx) (B_ten x.length))) (by omega)
    have hdec := rdig_dec hV0
    obtain ⟨V, hV⟩ : ∃ V, val x = V := ⟨_, rfl⟩
    rw [hV] at hV0 hVl hdec ⊢
    have HD : Hid ((rdig V).reverse = dec V) := hdec
    have HV : Hid (val x = V) := hV
    have hg0 : ((x.length : Int) == 0) = false := by simp; omega
    have HV0 : Hid (0 < V) := hV0
    clear hdec hV hV0
    go_enter Tryd.func30, Tryd.ntmps30
    go_wp2_with fail
    refine hN1.mono ?_
    rintro e w1 ⟨v1, rfl, o1, k1⟩
    have o1' := o1
    obtain ⟨a1, c1, rfl, hc1, r1⟩ := o1.shape
    clear hN1
    go_wp2_with fail
    go_loopw [3, 4] (fun xv bv wr => ∃ (lx bk : List Nat), Own w.heap.size wr xv lx ∧ Lim lx ∧ Nrm lx ∧ lx.length ≤ 1048576 ∧ Own8 w.heap.size wr bv bk ∧ Hid (bk ++ rdig (val lx) = rdig V) ∧ Keep w wr) (fun xv _ wr => limbsAt wr xv)
    case atStart => exact ⟨x, [], o1', mx, nx, e1, World.ownsRow_nil _ _ _ _, by show _ = _; rw [HV.out]; rfl, k1⟩
    case round =>
      clear mx nx e1 hx0 hl0 o1 o1' r1 hc1
      obtain ⟨lx, bk, ox, mx, nx, hlx, ob, hbk, hkp⟩ := hrel
      obtain ⟨wo, hwo⟩ : ∃ wo, wo = wr := ⟨_, rfl⟩
      subst hwo
      have ox' := ox
      have ob' := ob
      obtain ⟨ax, cx, rfl, hcx, rx⟩ := ox.shape
      obtain ⟨ab, cb, rfl, hcb, rb⟩ := ob.shape
      have hms := limbsAt_eq (c := cx) rx
      by_cases h0 : lx = []
      · subst h0
        have hb : bk = rdig V := by
          have := hbk.out
          rw [show val [] = 0 from rfl, rdig_zero, List.append_nil] at this
          exact this
        subst hb
        have hbl : (rdig V).length ≤ 10485760 := hVl
        generalize hbe : rdig V = bs at *
        clear hbk hms hVl
        simp only [List.length_nil] at *
        go_wp2_with fail
        go_loopw [11, 12] (fun ov iv wr => ∃ (k : Nat) (os : List Nat), k ≤ bs.length ∧ iv = .int .i64 ((k : Int) - 1) ∧ Own8 wo.heap.size wr ov os ∧ Hid (os = (bs.drop k).reverse) ∧ Keep wo wr) (fun _ iv _ => (intOf iv + 1).toNat)
        case atStart => exact ⟨bs.length, [], by omega, by simp, World.ownsRow_nil _ _ _ _, by show _ = _; simp, Keep.refl _⟩
        case round =>
          obtain ⟨k, os, hk, rfl, oo, hos, hkx⟩ := hrel
          have oo' := oo
          obtain ⟨ao, co, rfl, hco, ro⟩ := oo.shape
          by_cases hk0 : k = 0
          · subst hk0
            have hg : decide ((0 : Int) ≤ ((0 : Nat) : Int) - 1) = false := by simp
            have ho1 : os = bs.reverse := by have := hos.out; simpa using this
            have Hos : Hid (os = dec V) := by show _ = _; rw [ho1]; exact HD.out
            have hpos : 0 < os.length := by rw [ho1, ← hbe, rdig_pos HV0.out]; simp
            obtain ⟨g, rfl, -⟩ := ro 0 hpos
            have hcv : (convert 72 9 (.slice (some ⟨g, 0, none⟩) os.length co)).run Tryd.prog wr = .ok (.string (S8 os)) wr := by
              have := run_convert_bytes_arg (P := Tryd.prog) wr 72 5 Tryd.underlying72 Tryd.underlying5 g 0 os.length co (os.map (fun x : Nat => (x : Int))) (by simp) (fun i hi => by
                obtain ⟨g', e, hc⟩ := ro i hi
                simp only [Option.some.injEq, Addr.mk.injEq, and_true] at e
                rw [e, Nat.zero_add, hc]; simp [List.getD, hi]) 9 Tryd.underlying9
              rw [this]
              simp [strOfNums, S8]
            clear ho1 hos hbe
            go_wp2_with fail
            go_ret
            exact ⟨by rw [← Hos.out]; rfl, hkp.trans hkx⟩
          · obtain ⟨j, rfl⟩ : ∃ j, k = j + 1 := ⟨k - 1, by omega⟩
            have hji : ((j + 1 : Nat) : Int) - 1 = (j : Int) := by omega
            rw [hji]
            obtain ⟨gb, rfl, hcj⟩ := rb j (by omega)
            have hcj := hkx.cell hcj
            obtain ⟨z, hz⟩ : ∃ z, bs.getD j 0 = z := ⟨_, rfl⟩
            rw [hz] at hcj
            have Hn : Hid (os ++ [z] = (bs.drop j).reverse) := by
              show _ = _
              rw [drop_cons_getD bs j (by omega), List.reverse_cons, hz, hos.out]
            have hol : os.length < 35184372088832 := by rw [hos.out]; simp; omega
            clear hz hos
            go_wp2_with (at_builtin; refine wpList_app8 rfl _ _ rfl os _ rfl _ z ?_ rfl oo' hkx hol ?_; rotate_left; intro v' w1' hown' hk' _)
            go_roundw
            case rel => exact ⟨j, _, by omega, by go_num, hown', Hn, hk'⟩
            case measure => simp [intOf]
            all_goals (first | rfl | simp)
      · have hl0 : 0 < lx.length := List.length_pos_iff.2 h0
        have hx0 : 0 < val lx := val_pos nx h0
        have hkA : Keep wo (wo.alloc (Obj.cells #[Value.int IntKind.u32 1000000000] 62)) := (Keep.refl wo).alloc _
        have hcA : (wo.alloc (Obj.cells #[Value.int IntKind.u32 1000000000] 62)).cell? ⟨wo.heap.size, 0, none⟩ = some (.int .u32 1000000000) := by
          have h1 : (wo.alloc (Obj.cells #[Value.int IntKind.u32 1000000000] 62)).heap[wo.heap.size]? = some (Obj.cells #[Value.int IntKind.u32 1000000000] 62 (0, 0)) := heap_alloc_new wo _
          rw [cell_of_row _ _ 0 _ 62 (0, 0) h1]; rfl
        go_wp2_with fail
        generalize wo.alloc _ = w2 at hkA hcA ⊢
        have hrA : Rd w2 (some ⟨wo.heap.size, 0, none⟩) [1000000000] := by
          intro j hj
          obtain rfl : j = 0 := by simp at hj; omega
          exact ⟨_, _, rfl, hcA⟩
        have hD := rDivMod_any ax (some ⟨wo.heap.size, 0, none⟩) cx 1 lx [1000000000] w2 hcx (by simp) (by omega) (by simp) (rx.keep hkA) hrA mx (by intro z hz; simp at hz; omega) (by decide)
        rw [show val [1000000000] = 1000000000 from rfl] at hD
        refine hD.mono ?_
        rintro e w3 ⟨vq, vr, lq, lr, rfl, oq, or3, mq, nq, eq, mr, nr, er, k3⟩
        clear hD
        have oq' := oq
        obtain ⟨aq, cq, rfl, hcq, rq⟩ := oq.shape
        obtain ⟨ar, cr, rfl, hcr, rr⟩ := or3.shape
        have hr9 : val lr < 1000000000 := by rw [er]; exact Nat.mod_lt _ (by omega)
        have hlr : lr.length ≤ 1 := len_le_pow nr 1 (by omega)
        have hS := rSmall_any ar cr lr w3 hcr (by omega) rr mr
        have hsv : smallV lr = val lr := by
          unfold smallV
          rw [if_pos (by have := nl_le lr; omega)]
        rw [hsv] at hS
        have kA3 := hkA.trans k3
        have hqlt : val lq < val lx := by rw [eq]; omega
        have hlq : lq.length ≤ lx.length := val_len mx nq (by omega)
        have hsplit : val lx = val lq * 10 ^ 9 + val lr := by
          rw [eq, er, show (10 : Nat) ^ 9 = 1000000000 from rfl]; omega
        have Hsp : Hid (bk ++ rdig (val lq * 10 ^ 9 + val lr) = rdig V) := by show _ = _; rw [← hsplit]; exact hbk.out
        have hbkl : bk.length ≤ 10485760 := by
          have := congrArg List.length hbk.out
          rw [List.length_append] at this
          omega
        have HQ : Hid (val lq < val lx) := hqlt
        clear hsplit hsv er eq hbk
        go_wp2_with fail
        refine hS.mono ?_
        rintro e w4 ⟨rfl, k4⟩
        clear hS
        have k14 := kA3.trans k4
        have hk4 := hkp.trans k14
        have ob4 := ob'.keep k14
        have oq4 : Own w.heap.size w4 (.slice aq lq.length cq) lq := (oq'.keep k4).mono (hkp.trans hkA).le
        generalize smallB lr = sb
        generalize val lr = n0 at hr9 Hsp ⊢
        go_wp2_with fail
        go_loopw [4, 8, 10] (fun bv nv iv wr => ∃ (i n : Nat) (bj : List Nat), i ≤ 9 ∧ iv = .int .i64 i ∧ nv = .int .u64 n ∧ n ≤ 1000000000 ∧ Hid (n < 10 ^ (9 - i)) ∧ Own8 w.heap.size wr bv bj ∧ Hid (bj ++ rdig (val lq * 10 ^ (9 - i) + n) = rdig V) ∧ Own w.heap.size wr (.slice aq lq.length cq) lq ∧ Keep w wr) (fun _ _ iv _ => 9 - (intOf iv).toNat)
        case atStart => exact ⟨0, n0, bk, by omega, rfl, rfl, by omega, by show _ < _; exact hr9, ob4, Hsp, oq4, hk4⟩
        case round =>
          obtain ⟨i, n, bj, hi, rfl, rfl, hn9, hnl, obj, hbj, oqx, hkx⟩ := hrel
          have obj' := obj
          obtain ⟨abj, cbj, rfl, hcbj, rbj⟩ := obj.shape
          have hbjl : bj.length < 35184372088832 := by
            have := congrArg List.length hbj.out
            rw [List.length_append] at this
            omega
          by_cases hgo : i < 9 ∧ (0 < n ∨ 0 < lq.length)
          · obtain ⟨h9, hor⟩ := hgo
            obtain ⟨e, he⟩ : ∃ e, 9 - i = e + 1 := ⟨8 - i, by omega⟩
            have hpos : 0 < val lq * 10 ^ (9 - i) + n := by
              rcases hor with h | h
              · omega
              · have h1 := val_pos nq (List.length_pos_iff.1 h)
                have h2 : 0 < 10 ^ (9 - i) := Nat.pos_of_ne_zero (by simp)
                have := Nat.mul_pos h1 h2
                omega
            have Hb : Hid ((bj ++ [48 + n % 10]) ++ rdig (val lq * 10 ^ (9 - (i + 1)) + n / 10) = rdig V) := by
              show _ = _
              have h1 := hbj.out
              rw [he] at h1 hpos
              rw [rdig_step _ _ _ hpos] at h1
              rw [show 9 - (i + 1) = e by omega, List.append_assoc]
              exact h1
            have Hl : Hid (n / 10 < 10 ^ (9 - (i + 1))) := by
              show _ < _
              have h1 : n < 10 ^ (9 - i) := hnl
              rw [he, Nat.pow_succ] at h1
              rw [show 9 - (i + 1) = e by omega]
              omega
            have hg1 : decide ((i : Int) < 9) = true := by simp; omega
            have hwv : (48 + (n : Int) % 10) % 256 = ((48 + n % 10 : Nat) : Int) := by omega
            clear hbj hnl hpos he
            by_cases hn0 : 0 < n
            · have hg2 : decide ((0 : Int) < (n : Int)) = true := by simp; omega
              clear hor
              go_wp2_with (at_builtin; refine wpList_app8 rfl _ _ rfl bj _ rfl _ (48 + n % 10) ?_ rfl obj' hkx hbjl ?_; rotate_left; intro v' w1' hown' hk' hb62)
              go_roundw
              case rel => exact ⟨i + 1, n / 10, _, by omega, by go_num, by simp, by omega, Hl, hown', Hb, oqx.blocks hb62, hk'⟩
              case measure => simp [intOf]; omega
              all_goals (first | rfl | (simp; omega) | simp)
            · have hg2 : decide ((0 : Int) < (n : Int)) = false := by simp; omega
              have hg4 : 0 < lq.length := by omega
              have hg3 : decide ((0 : Int) < (lq.length : Int)) = true := decide_eq_true (by omega)
              clear hor
              go_wp2_with (at_builtin; refine wpList_app8 rfl _ _ rfl bj _ rfl _ (48 + n % 10) ?_ rfl obj' hkx hbjl ?_; rotate_left; intro v' w1' hown' hk' hb62)
              go_roundw
              case rel => exact ⟨i + 1, n / 10, _, by omega, by go_num, by simp, by omega, Hl, hown', Hb, oqx.blocks hb62, hk'⟩
              case measure => simp [intOf]; omega
              all_goals (first | rfl | (simp; omega) | simp)
          · have hend : val lq * 10 ^ (9 - i) + n = val lq := by
              by_cases h9 : i = 9
              · subst h9
                have : n < 10 ^ (9 - 9) := hnl
                simp at this
                simp; omega
              · have hn0 : n = 0 := by omega
                have hq0 : lq = [] := List.eq_nil_of_length_eq_zero (by omega)
                subst hq0
                rw [hn0]; simp [val]
            have Hb : Hid (bj ++ rdig (val lq) = rdig V) := by show _ = _; rw [← hend]; exact hbj.out
            obtain ⟨aq2, cq2, eq2, hcq2, rq2⟩ := oqx.shape
            simp only [Value.slice.injEq, true_and] at eq2
            obtain ⟨rfl, rfl⟩ := eq2
            have hms2 := limbsAt_eq (c := cq) rq2
            have HM : Hid (limbsAt wr (.slice aq lq.length cq) < limbsAt wo (.slice ax lx.length cx)) := by show _ < _; rw [hms2, hms]; exact HQ.out
            clear hend hbj hnl hms hms2
            by_cases h9 : i < 9
            · have hg1 : decide ((i : Int) < 9) = true := by simp; omega
              have hg2 : decide ((0 : Int) < (n : Int)) = false := by simp; omega
              have hg4 : lq.length = 0 := by omega
              have hg3 : decide ((0 : Int) < (lq.length : Int)) = false := decide_eq_false (by omega)
              have oq0 : Own w.heap.size wr (.slice aq 0 cq) lq := by have := oqx; rw [hg4] at this; exact this
              have HM0 : Hid (limbsAt wr (.slice aq 0 cq) < limbsAt wo (.slice ax lx.length cx)) := by have := HM.out; rw [hg4] at this; exact this
              go_wp2_with fail
              go_roundw
              case rel => exact ⟨lq, bj, oq0, mq, nq, by omega, obj', Hb, hkx⟩
              case measure => exact HM0.out
            · have hg1 : decide ((i : Int) < 9) = false := by simp; omega
              go_wp2_with fail
              go_roundw
              case rel => exact ⟨lq, bj, oqx, mq, nq, by omega, obj', Hb, hkx⟩
              case measure => exact HM.out
end Go.Proofs.YtbjidpooociamaaDoor
