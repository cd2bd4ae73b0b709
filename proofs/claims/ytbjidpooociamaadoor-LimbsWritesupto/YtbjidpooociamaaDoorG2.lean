import Derived.Test.YtbjidpooociamaaDoorF10
import Derived.Test.YtbjidpooociamaaDoorC18
set_option linter.unusedVariables false
set_option linter.unusedSimpArgs false
namespace Go.Proofs.YtbjidpooociamaaDoor
open Go.RowKit Lb
/-- A cell that holds no byte stays, where a row of bytes alone was written. -/
theorem Gr.cell {g : Nat} {w w' : World} {old : List Nat} (h : Gr g w w') (hr : Row8 w g old) {b o : Nat} {v : Value} (hc : w.cell? ⟨b, o, none⟩ = some v) (hv : ∀ x, v ≠ .int .u8 x) : w'.cell? ⟨b, o, none⟩ = some v := by
  have hb : b ≠ g := by
    rintro rfl
    have h1 := cell_of_row w b o _ 5 (0, 0) hr
    rw [hc] at h1
    by_cases ho : o < old.length
    · have h2 := V8_get old o ho
      simp at h1
      rw [h2] at h1
      simp only [Option.some.injEq] at h1
      exact hv _ h1
    · have h2 : (V8 old)[o]? = none := by simp [V8]; omega
      simp at h1
      rw [h2] at h1
      cases h1
  exact (World.cell?_of_block (a := ⟨b, o, none⟩) (h.block b (World.block_lt_of_cell? w _ hc) hb)).trans hc
theorem Rd.gr {g : Nat} {w w' : World} {old : List Nat} {a : Option Addr} {l : List Nat} (h : Rd w a l) (k : Gr g w w') (hr : Row8 w g old) : Rd w' a l := by
  intro j hj
  obtain ⟨b, o, e, hc⟩ := h j hj
  exact ⟨b, o, e, k.cell hr hc (fun x => by simp)⟩
theorem Pw.gr {g : Nat} {w w' : World} {old : List Nat} {av : Option Addr} {k : Nat} (h : Pw w av k) (hk : Gr g w w') (hr : Row8 w g old) : Pw w' av k := by
  intro i hi
  obtain ⟨b, gx, cx, lx, e, hc, hl, hrd, r⟩ := h i hi
  exact ⟨b, gx, cx, lx, e, hk.cell hr hc (fun x => by simp), hl, hrd.gr hk hr, r⟩
set_option maxRecDepth 100000 in
theorem slice72_to (wx : World) (b o n c k : Nat) (hk : k ≤ c) : (Instr.slice 72 (.slice (some ⟨b, o, none⟩) n c) none (some (.int .i64 (k : Nat))) none).run Tryd.prog wx = .ok (.slice (some ⟨b, o, none⟩) k c) wx := by
  rw [run_slice_h (P := Tryd.prog) wx 72 (some ⟨b, o, none⟩) n c Tryd.underlying72 .i64 k (by omega) (by omega)]
  have e2 : (sizeOf (Tryd.prog.elem 72)).run Tryd.prog wx = .ok 1 wx := by kernel_rfl
  rw [e2]
  simp [Result.andThen, sliced, Addr.add]
set_option maxRecDepth 100000 in
theorem slice72_from (wx : World) (b o n c k m d : Nat) (hk : k ≤ n) (hm : k + m = n) (hd : k + d = c) (hk0 : 0 < k) (hd0 : 0 < d) : (Instr.slice 72 (.slice (some ⟨b, o, none⟩) n c) (some (.int .i64 (k : Nat))) none none).run Tryd.prog wx = .ok (.slice (some ⟨b, o + k, none⟩) m d) wx := by
  rw [run_slice_l (P := Tryd.prog) wx 72 (some ⟨b, o, none⟩) n c Tryd.underlying72 .i64 k (by omega) (by omega)]
  have e2 : (sizeOf (Tryd.prog.elem 72)).run Tryd.prog wx = .ok 1 wx := by kernel_rfl
  rw [e2]
  have h1 : n - k = m := by omega
  have h2 : c - k = d := by omega
  have h3 : ¬ c = k := by omega
  have h4 : ¬ k = 0 := by omega
  simp [Result.andThen, sliced, Addr.add, h1, h2, h3, h4]
set_option maxRecDepth 100000 in
set_option maxHeartbeats 400000 in
theorem split_zero (g o n c : Nat) (a : Option Addr) (ca : Nat) (old l : List Nat) (av : Option Addr) (cv : Nat) (w : World) (hon : o + n ≤ old.length) (hol : old.length ≤ 140737488355328) (hrow : Row8 w g old) (hl : l.length ≤ 70368744177664) (hr : Rd w a l) (hm : Lim l) :
    Calls Tryd.prog 75 #[.slice (some ⟨g, o, none⟩) n c, .slice a l.length ca, .slice av 0 cv] w fun e w' => e = .returned (.tuple #[]) ∧ Row8 w' g (old.take o ++ (dw n (val l) ++ old.drop (o + n))) ∧ Gr g w w' := by
  go_enter Tryd.func75, Tryd.ntmps75
  go_wp2_with fail
  refine (splitChunks_any g o n c a ca old l w hon hol hrow hl hr hm).mono ?_
  rintro e w1 ⟨rfl, h1, h2⟩
  go_wp2_with fail
  refine bodyPost_ret (results_none rfl _ _ _) rfl ?_
  exact ⟨rfl, h1, h2⟩
theorem split_lists (old : List Nat) (o h : Nat) (hq hr : List Nat) (eq : hq.length = h) (hb : o + 2 * h ≤ old.length) :
    (old.take o ++ (hq ++ old.drop (o + h))).take (o + h) ++ (hr ++ (old.take o ++ (hq ++ old.drop (o + h))).drop (o + h + h)) = old.take o ++ ((hq ++ hr) ++ old.drop (o + 2 * h)) := by
  have e1 : (old.take o).length = o := by simp; omega
  have e2 : (old.take o ++ (hq ++ old.drop (o + h))).take (o + h) = old.take o ++ hq := by
    rw [← List.append_assoc, List.take_left' (by simp; omega)]
  have e3 : (old.take o ++ (hq ++ old.drop (o + h))).drop (o + h + h) = old.drop (o + 2 * h) := by
    rw [← List.append_assoc, ← List.drop_drop, List.drop_left' (by simp; omega), List.drop_drop]
    congr 1; omega
  rw [e2, e3]; simp
def SplitSaid (k : Nat) : Prop := ∀ (g o n c : Nat) (a : Option Addr) (ca : Nat) (old l : List Nat) (av : Option Addr) (cv : Nat) (w : World), n = 288 * 2 ^ k → n ≤ c → o + n ≤ old.length → old.length ≤ 140737488355328 → Row8 w g old → l.length ≤ 70368744177663 → Rd w a l → Lim l → Nrm l → k ≤ cv → Pw w av k →
    Calls Tryd.prog 75 #[.slice (some ⟨g, o, none⟩) n c, .slice a l.length ca, .slice av k cv] w fun e w' => e = .returned (.tuple #[]) ∧ Row8 w' g (old.take o ++ (dw n (val l) ++ old.drop (o + n))) ∧ Gr g w w'
set_option maxRecDepth 100000 in
set_option maxHeartbeats 1600000 in
theorem split_step (k : Nat) (hk : k < 38) (ih : SplitSaid k) : SplitSaid (k + 1) := by
  intro g o n c a ca old l av cv w hn hc hon hol hrow hl hr hm hnl hcv hpw
  obtain ⟨gp, gx, cx, lx, rfl, hcell, hlx, hrx, hmx, hnx, hvx⟩ := hpw k (by omega)
  obtain ⟨h, hh⟩ : ∃ h, 288 * 2 ^ k = h := ⟨_, rfl⟩
  have hnh : n = 2 * h := by rw [hn, Nat.pow_succ]; omega
  have Hh : Hid (h = 288 * 2 ^ k) := hh.symm
  have hlxb := ten_len lx k hnx hvx
  have hlx2 : lx.length ≤ 70368744177664 := by omega
  have hx0 : lx ≠ [] := by
    rintro rfl
    have : 0 < 10 ^ (288 * 2 ^ k) := Nat.pos_of_ne_zero (by simp)
    rw [show val [] = 0 from rfl] at hvx
    omega
  rw [hh] at hvx
  have hni : (n : Int) / 2 = (h : Int) := by omega
  have hD := divide_any a (some ⟨gx, 0, none⟩) ca cx l lx w hl hlx2 hr hrx hm hmx hnl hnx hx0
  rw [hvx] at hD
  have hh0 : 0 < h := by have : 0 < 2 ^ k := Nat.pos_of_ne_zero (by simp); omega
  have hs1 := fun wx => slice72_to wx g o n c h (by omega)
  have hs2 := fun wx => slice72_from wx g o n c h h (c - h) (by omega) (by omega) (by omega) hh0 (by omega)
  have hs3 := fun wx => slice70_to wx gp (k + 1) cv k (by omega)
  have hp0 := hpw.less (show k ≤ k + 1 by omega)
  have HE : Hid (dw n (val l) = dw h (val l / 10 ^ h) ++ dw h (val l % 10 ^ h)) := by show _ = _; rw [hnh, dw_halves]
  have hch : c - h + h = c := by omega
  generalize c - h = ch at hs2 hch
  have hvl := val_lt hm
  have ho1 : o + h ≤ old.length := by omega
  have ho2 : o + h + h ≤ old.length := by omega
  have hhc : h ≤ c := by omega
  have hhd : h ≤ ch := by omega
  have HN : Hid (n = 2 * h) := hnh
  clear hn hh hvx hlxb hnh
  go_enter Tryd.func75, Tryd.ntmps75
  go_wp2_with fail
  refine hD.mono ?_
  rintro e w1 ⟨vq, vr, rfl, hq, hrm, hk1⟩
  obtain ⟨aq, cq, lq, rfl, hcq, rq, mq, pq, eq, -⟩ := hq.shape
  obtain ⟨ar, cr, lr, rfl, hcr, rr, mr, pr, er, -⟩ := hrm.shape
  have hLq : lq.length ≤ l.length := len_le_pow pq _ (by rw [eq]; exact Nat.lt_of_le_of_lt (Nat.div_le_self _ _) hvl)
  have hLr : lr.length ≤ l.length := len_le_pow pr _ (by rw [er]; exact Nat.lt_of_le_of_lt (Nat.mod_le _ _) hvl)
  have hrow1 := hrow.keep hk1
  have hp1 := hp0.keep hk1
  have hS1 := fun wx (h1 : Row8 wx g old) (h2 : Rd wx aq lq) (h3 : Pw wx (some ⟨gp, 0, none⟩) k) => ih g o h c aq cq old lq (some ⟨gp, 0, none⟩) cv wx Hh.out (by omega) (by omega) hol h1 (by omega) h2 mq pq (by omega) h3
  go_wp2_with fail
  go_region_with (go_at_call 75; refine (hS1 _ ?_ ?_ ?_).mono ?_; exact hrow1; exact rq; exact hp1; rintro e w2 ⟨rfl, hrow2, hg2⟩)
  clear hS1
  have hg2 : Gr g w1 w2 := ((Keep.refl w1).drew.gr g).trans hg2
  have hp2 := hp1.gr hg2 hrow1
  have hrr2 := rr.gr hg2 hrow1
  rw [eq] at hrow2
  have hdl := dw_length h (val l / 10 ^ h)
  have hS2 := fun wx (h1 : Row8 wx g _) (h2 : Rd wx ar lr) (h3 : Pw wx (some ⟨gp, 0, none⟩) k) => ih g (o + h) h ch ar cr (old.take o ++ (dw h (val l / 10 ^ h) ++ old.drop (o + h))) lr (some ⟨gp, 0, none⟩) cv wx Hh.out (by omega) (by simp [hdl]; omega) (by simp [hdl]; omega) h1 (by omega) h2 mr pr (by omega) h3
  go_simp
  go_wp2_with fail
  go_region_with (go_at_call 75; refine (hS2 _ ?_ ?_ ?_).mono ?_; exact hrow2; exact hrr2; exact hp2; rintro e w3 ⟨rfl, hrow3, hg3⟩)
  clear hS2
  have hg3 : Gr g w2 w3 := ((Keep.refl w2).drew.gr g).trans hg3
  go_simp
  go_wp2_with fail
  go_end0
  refine ⟨rfl, ?_, ((hk1.gr g).trans hg2).trans hg3⟩
  rw [er, split_lists old o h _ _ hdl (by omega)] at hrow3
  rw [HE.out, HN.out]
  exact hrow3
theorem split_any : ∀ k, k ≤ 38 → SplitSaid k
  | 0, _ => fun g o n c a ca old l av cv w _ _ hon hol hrow hl hr hm _ _ _ => split_zero g o n c a ca old l av cv w hon hol hrow (by omega) hr hm
  | k + 1, h => split_step k (by omega) (split_any k (by omega))
end Go.Proofs.YtbjidpooociamaaDoor
namespace Go.Proofs.YtbjidpooociamaaDoor
open Go.RowKit Lb
set_option maxRecDepth 100000 in
set_option maxHeartbeats 1600000 in
theorem Print_any : PrintSaid 1099511627776 := by
  intro a ca l w hc hl hr hm hd
  have hL := Len_any a ca l w hc (by omega) hr hm
  have hdig : val l < 10 ^ (lenB l * 30103 / 100000 + 1) := Nat.lt_trans (val_lt_len l hm) (pow_dec _)
  have hnl : nl l ≤ 34359738369 := by
    unfold lenB at hd
    split at hd <;> omega
  generalize lenB l = n at hL hdig hd
  obtain ⟨k, hk⟩ : ∃ k, n * 30103 / 100000 + 1 = k := ⟨_, rfl⟩
  rw [hk] at hdig
  have hkl : k ≤ 1099511627776 := by omega
  have hke : (n : Int) * 30103 / 100000 + 1 = (k : Int) := by omega
  go_enter Tryd.func29, Tryd.ntmps29
  go_wp2_with fail
  refine hL.mono ?_
  rintro e w1 ⟨rfl, hd1⟩
  have hPF := powersFor_any k w1 hkl
  go_wp2_with fail
  refine hPF.mono ?_
  rintro e w2 ⟨v2, vs, rfl, hown, hpows, hnk, hvl, hk2⟩
  have hpw0 := fun av c (e : v2 = .slice av vs.length c) => Pows.pw (e ▸ hown) hpows
  obtain ⟨av, cv, rfl, hcv, -⟩ := hown.shape
  have hpw := hpw0 av cv rfl
  clear hpw0 hown hpows hPF
  have hk02 := hd1.keep.trans hk2
  generalize vs.length = K at *
  have l1 := nl_le l
  have e1 : (l.take (nl l)).length = nl l := by simp; omega
  have hcv0 := hcv
  by_cases hK : K = 0
  · subst hK
    obtain ⟨D, hD⟩ : ∃ D, D = k := ⟨_, rfl⟩
    subst hD
    clear hcv
    go_wp2_with (at_make; refine wpList_make8 _ rfl _ _ rfl _ _ _ _ D rfl rfl rfl rfl (by omega) ?_; intro w3 hrow hk3 hsz)
    have hk03 := hk02.trans hk3
    refine (trim_any a ca l w3 hc (by omega) (hr.keep hk03)).mono ?_
    rintro e w4 ⟨rfl, rfl⟩
    have hS := split_zero w2.heap.size 0 D D a ca (List.replicate D 0) (l.take (nl l)) av cv w4 (by simp) (by simp; omega) hrow (by omega) ((hr.keep hk03).take _) (Lim_take hm _)
    rw [e1, val_take_nl] at hS
    go_wp2_with fail
    refine hS.mono ?_
    rintro e w5 ⟨rfl, h8, hg8⟩
    clear hS
    have h8' : Row8 w5 w2.heap.size (dw D (val l)) := by
      have : List.drop (0 + D) (List.replicate D 0) = [] := List.drop_eq_nil_of_le (by simp)
      rw [this] at h8
      simpa using h8
    have hk05 : Keep w w5 := by
      refine hk02.trans ?_
      exact ⟨(hg8.os.trans hk3.os), (hg8.tape.trans hk3.tape), (hg8.output.trans hk3.output), Nat.le_trans hk3.size hg8.size, fun i hi => (hg8.block i (by omega) (by omega)).trans (hk3.block i hi)⟩
    have hcv := conv8 w5 w2.heap.size D _ h8'
    rw [dw_length] at hcv
    clear h8 hg8 hrow hk3
    have hT := Tryd.strings_TrimLeft_one (S8 (dw D (val l))) 48 (by decide) w5
    rw [show (S8 (dw D (val l))).data.toList = (dw D (val l)).map UInt8.ofNat from by simp [S8], trimLeft_map _ (fun x hx => by have := dw_range _ _ x hx; omega)] at hT
    by_cases h0 : val l = 0
    · have e0 : cut0 (dw D (val l)) = [] := by
        rw [h0, cut0_zero]
      have ed : Hid (dec (val l) = [48]) := by show _ = _; unfold dec; rw [if_pos h0]
      rw [e0] at hT
      clear h0 e0
      go_wp2_with fail
      refine hT.mono ?_
      rintro e w6 ⟨rfl, rfl⟩
      go_wp2
      go_ret
      exact ⟨by rw [ed.out]; rfl, hk05⟩
    · have e0 : cut0 (dw D (val l)) ≠ [] := cut0_ne _ _ (by omega) hdig
      have ed : Hid (dec (val l) = cut0 (dw D (val l))) := by show _ = _; unfold dec; rw [if_neg h0, cut0_eq _ D hdig]
      obtain ⟨x, xs, hx⟩ := List.exists_cons_of_ne_nil e0
      rw [hx] at hT
      have Hx : Hid (cut0 (dw D (val l)) = x :: xs) := hx
      clear h0 e0 hx
      go_wp2_with fail
      refine hT.mono ?_
      rintro e w6 ⟨rfl, rfl⟩
      go_wp2
      go_ret
      exact ⟨by rw [ed.out, Hx.out]; simp [S8], hk05⟩
  · obtain ⟨D, hD⟩ : ∃ D, D = 288 * 2 ^ K := ⟨_, rfl⟩
    have h2k : 2 ^ K ≤ 4294967296 := Nat.le_trans (Nat.pow_le_pow_right (by omega) hvl) (by decide)
    have hPi : (288 : Int) * 2 ^ K = (D : Int) := by rw [hD]; simp
    have hPw : IntKind.i64.wrap (288 * 2 ^ K) = (D : Int) := by rw [hPi, IntKind.wrap_i64]; omega
    have HD : Hid (D = 288 * 2 ^ K) := hD
    have hdig := Nat.lt_of_lt_of_le hdig (Nat.pow_le_pow_right (show 0 < 10 by omega) (show k ≤ D by omega))
    have hDb : D ≤ 1236950581248 := by omega
    clear hD h2k hcv
    go_wp2_with (at_make; refine wpList_make8 _ rfl _ _ rfl _ _ _ _ D rfl rfl rfl rfl (by omega) ?_; intro w3 hrow hk3 hsz)
    have hk03 := hk02.trans hk3
    refine (trim_any a ca l w3 hc (by omega) (hr.keep hk03)).mono ?_
    rintro e w4 ⟨rfl, rfl⟩
    have hS := split_any K (by omega) w2.heap.size 0 D D a ca (List.replicate D 0) (l.take (nl l)) av cv w4 HD.out (by omega) (by simp) (by simp; omega) hrow (by omega) ((hr.keep hk03).take _) (Lim_take hm _) (Nrm_take l) hcv0 (hpw.keep hk3)
    rw [e1, val_take_nl] at hS
    go_wp2_with fail
    refine hS.mono ?_
    rintro e w5 ⟨rfl, h8, hg8⟩
    clear hS
    have h8' : Row8 w5 w2.heap.size (dw D (val l)) := by
      have : List.drop (0 + D) (List.replicate D 0) = [] := List.drop_eq_nil_of_le (by simp)
      rw [this] at h8
      simpa using h8
    have hk05 : Keep w w5 := by
      refine hk02.trans ?_
      exact ⟨(hg8.os.trans hk3.os), (hg8.tape.trans hk3.tape), (hg8.output.trans hk3.output), Nat.le_trans hk3.size hg8.size, fun i hi => (hg8.block i (by omega) (by omega)).trans (hk3.block i hi)⟩
    have hcv := conv8 w5 w2.heap.size D _ h8'
    rw [dw_length] at hcv
    clear h8 hg8 hrow hk3
    have hT := Tryd.strings_TrimLeft_one (S8 (dw D (val l))) 48 (by decide) w5
    rw [show (S8 (dw D (val l))).data.toList = (dw D (val l)).map UInt8.ofNat from by simp [S8], trimLeft_map _ (fun x hx => by have := dw_range _ _ x hx; omega)] at hT
    by_cases h0 : val l = 0
    · have e0 : cut0 (dw D (val l)) = [] := by
        rw [h0, cut0_zero]
      have ed : Hid (dec (val l) = [48]) := by show _ = _; unfold dec; rw [if_pos h0]
      rw [e0] at hT
      clear h0 e0
      go_wp2_with fail
      refine hT.mono ?_
      rintro e w6 ⟨rfl, rfl⟩
      go_wp2
      go_ret
      exact ⟨by rw [ed.out]; rfl, hk05⟩
    · have e0 : cut0 (dw D (val l)) ≠ [] := cut0_ne _ _ (by omega) hdig
      have ed : Hid (dec (val l) = cut0 (dw D (val l))) := by show _ = _; unfold dec; rw [if_neg h0, cut0_eq _ D hdig]
      obtain ⟨x, xs, hx⟩ := List.exists_cons_of_ne_nil e0
      rw [hx] at hT
      have Hx : Hid (cut0 (dw D (val l)) = x :: xs) := hx
      clear h0 e0 hx
      go_wp2_with fail
      refine hT.mono ?_
      rintro e w6 ⟨rfl, rfl⟩
      go_wp2
      go_ret
      exact ⟨by rw [ed.out, Hx.out]; simp [S8], hk05⟩
end Go.Proofs.YtbjidpooociamaaDoor
