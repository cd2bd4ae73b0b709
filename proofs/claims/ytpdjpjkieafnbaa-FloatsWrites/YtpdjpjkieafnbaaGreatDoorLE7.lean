import Derived.Test.YtpdjpjkieafnbaaGreatDoorProg
import Derived.Test.YtpdjpjkieafnbaaGreatDoorLF10
import Derived.WalkKit
import Derived.WalkSpells
import Derived.WalkLawsBesides
import Derived.Laws.CopyOwn
import Derived.Deep.Draws
import Derived.Deep.QuietTactic
import Derived.BigQuiet
import Derived.Laws.MathBits
import Derived.Laws.BytesArg
import Derived.Lib.OthersKept
import Derived.Deep.RegionWith
import Derived.WalkMore
import Derived.Deep.LoopGhost
import Derived.Deep.RegionLaw
import Derived.Test.YtpdjpjkieafnbaaGreatDoorShelf
import Derived.Test.YtpdjpjkieafnbaaGreatDoorLC18
import Derived.Test.YtpdjpjkieafnbaaGreatDoorLF7
set_option linter.unusedVariables false
set_option linter.unusedSimpArgs false
namespace Go.Proofs.YtpdjpjkieafnbaaGreatDoor.Li
open Go.RowKit Lb
/-- A cell that holds no byte stays, where a row of bytes alone was written. -/
theorem Gr.cell {g : Nat} {w w' : World} {old : List Nat} (h : Gr g w w') (hr : Row8 w g old) {b o : Nat} {v : Value} (hc : w.cell? ⟨b, o, none⟩ = some v) (hv : ∀ x, v ≠ .int .u8 x) : w'.cell? ⟨b, o, none⟩ = some v := by
  have hb : b ≠ g := by
    rintro rfl
    have h1 := cell_of_row w b o _ 5 (0, 0) hr
    rw [hc] at h1
    by_cases ho : o < old.length
    · have h2 := V8_get old o ho
      simp at h1
      rw [h2] at h1
      simp only [Option.some.injEq] at h1
      exact hv _ h1
    · have h2 : (V8 old)[o]? = none := by simp [V8]; omega
      simp at h1
      rw [h2] at h1
      cases h1
  exact (World.cell?_of_block (a := ⟨b, o, none⟩) (h.block b (World.block_lt_of_cell? w _ hc) hb)).trans hc
theorem Rd.gr {g : Nat} {w w' : World} {old : List Nat} {a : Option Addr} {l : List Nat} (h : Rd w a l) (k : Gr g w w') (hr : Row8 w g old) : Rd w' a l := by
  intro j hj
  obtain ⟨b, o, e, hc⟩ := h j hj
  exact ⟨b, o, e, k.cell hr hc (fun x => by simp)⟩
theorem Pw.gr {g : Nat} {w w' : World} {old : List Nat} {av : Option Addr} {k : Nat} (h : Pw w av k) (hk : Gr g w w') (hr : Row8 w g old) : Pw w' av k := by
  intro i hi
  obtain ⟨b, gx, cx, lx, e, hc, hl, hrd, r⟩ := h i hi
  exact ⟨b, gx, cx, lx, e, hk.cell hr hc (fun x => by simp), hl, hrd.gr hk hr, r⟩
set_option maxRecDepth 100000 in
theorem slice72_to (wx : World) (b o n c k : Nat) (hk : k ≤ c) : (Instr.slice 61 (.slice (some ⟨b, o, none⟩) n c) none (some (.int .i64 (k : Nat))) none).run Tryz.prog wx = .ok (.slice (some ⟨b, o, none⟩) k c) wx := by
  rw [run_slice_h (P := Tryz.prog) wx 61 (some ⟨b, o, none⟩) n c Tryz.underlying61 .i64 k (by omega) (by omega)]
  have e2 : (sizeOf (Tryz.prog.elem 61)).run Tryz.prog wx = .ok 1 wx := by kernel_rfl
  rw [e2]
  simp [Result.andThen, sliced, Addr.add]
set_option maxRecDepth 100000 in
theorem slice72_from (wx : World) (b o n c k m d : Nat) (hk : k ≤ n) (hm : k + m = n) (hd : k + d = c) (hk0 : 0 < k) (hd0 : 0 < d) : (Instr.slice 61 (.slice (some ⟨b, o, none⟩) n c) (some (.int .i64 (k : Nat))) none none).run Tryz.prog wx = .ok (.slice (some ⟨b, o + k, none⟩) m d) wx := by
  rw [run_slice_l (P := Tryz.prog) wx 61 (some ⟨b, o, none⟩) n c Tryz.underlying61 .i64 k (by omega) (by omega)]
  have e2 : (sizeOf (Tryz.prog.elem 61)).run Tryz.prog wx = .ok 1 wx := by kernel_rfl
  rw [e2]
  have h1 : n - k = m := by omega
  have h2 : c - k = d := by omega
  have h3 : ¬ c = k := by omega
  have h4 : ¬ k = 0 := by omega
  simp [Result.andThen, sliced, Addr.add, h1, h2, h3, h4]
set_option maxRecDepth 100000 in
set_option maxHeartbeats 400000 in
theorem split_zero (g o n c : Nat) (a : Option Addr) (ca : Nat) (old l : List Nat) (av : Option Addr) (cv : Nat) (w : World) (hon : o + n ≤ old.length) (hol : old.length ≤ 140737488355328) (hrow : Row8 w g old) (hl : l.length ≤ 70368744177664) (hr : Rd w a l) (hm : Lim l) :
    Calls Tryz.prog 147 #[.slice (some ⟨g, o, none⟩) n c, .slice a l.length ca, .slice av 0 cv] w fun e w' => e = .returned (.tuple #[]) ∧ Row8 w' g (old.take o ++ (dw n (val l) ++ old.drop (o + n))) ∧ Gr g w w' := by
  go_enter Tryz.func147, Tryz.ntmps147
  go_wp2_with fail
  refine (splitChunks_any g o n c a ca old l w hon hol hrow hl hr hm).mono ?_
  rintro e w1 ⟨rfl, h1, h2⟩
  go_wp2_with fail
  refine bodyPost_ret (results_none rfl _ _ _) rfl ?_
  exact ⟨rfl, h1, h2⟩
theorem split_lists (old : List Nat) (o h : Nat) (hq hr : List Nat) (eq : hq.length = h) (hb : o + 2 * h ≤ old.length) :
    (old.take o ++ (hq ++ old.drop (o + h))).take (o + h) ++ (hr ++ (old.take o ++ (hq ++ old.drop (o + h))).drop (o + h + h)) = old.take o ++ ((hq ++ hr) ++ old.drop (o + 2 * h)) := by
  have e1 : (old.take o).length = o := by simp; omega
  have e2 : (old.take o ++ (hq ++ old.drop (o + h))).take (o + h) = old.take o ++ hq := by
    rw [← List.append_assoc, List.take_left' (by simp; omega)]
  have e3 : (old.take o ++ (hq ++ old.drop (o + h))).drop (o + h + h) = old.drop (o + 2 * h) := by
    rw [← List.append_assoc, ← List.drop_drop, List.drop_left' (by simp; omega), List.drop_drop]
    congr 1; omega
  rw [e2, e3]; simp
def SplitSaid (k : Nat) : Prop := ∀ (g o n c : Nat) (a : Option Addr) (ca : Nat) (old l : List Nat) (av : Option Addr) (cv : Nat) (w : World), n = 288 * 2 ^ k → n ≤ c → o + n ≤ old.length → old.length ≤ 140737488355328 → Row8 w g old → l.length ≤ 70368744177663 → Rd w a l → Lim l → Nrm l → k ≤ cv → Pw w av k →
    Calls Tryz.prog 147 #[.slice (some ⟨g, o, none⟩) n c, .slice a l.length ca, .slice av k cv] w fun e w' => e = .returned (.tuple #[]) ∧ Row8 w' g (old.take o ++ (dw n (val l) ++ old.drop (o + n))) ∧ Gr g w w'
set_option maxRecDepth 100000 in
set_option maxHeartbeats 1600000 in
theorem split_step (k : Nat) (hk : k < 38) (ih : SplitSaid k) : SplitSaid (k + 1) := by
  intro g o n c a ca old l av cv w hn hc hon hol hrow hl hr hm hnl hcv hpw
  obtain ⟨gp, gx, cx, lx, rfl, hcell, hlx, hrx, hmx, hnx, hvx⟩ := hpw k (by omega)
  obtain ⟨h, hh⟩ : ∃ h, 288 * 2 ^ k = h := ⟨_, rfl⟩
  have hnh : n = 2 * h := by rw [hn, Nat.pow_succ]; omega
  have Hh : Hid (h = 288 * 2 ^ k) := hh.symm
  have hlxb := ten_len lx k hnx hvx
  have hlx2 : lx.length ≤ 70368744177664 := by omega
  have hx0 : lx ≠ [] := by
    rintro rfl
    have : 0 < 10 ^ (288 * 2 ^ k) := Nat.pos_of_ne_zero (by simp)
    rw [show val [] = 0 from rfl] at hvx
    omega
  rw [hh] at hvx
  have hni : (n : Int) / 2 = (h : Int) := by omega
  have hD := divide_any a (some ⟨gx, 0, none⟩) ca cx l lx w hl hlx2 hr hrx hm hmx hnl hnx hx0
  rw [hvx] at hD
  have hh0 : 0 < h := by have : 0 < 2 ^ k := Nat.pos_of_ne_zero (by simp); omega
  have hs1 := fun wx => slice72_to wx g o n c h (by omega)
  have hs2 := fun wx => slice72_from wx g o n c h h (c - h) (by omega) (by omega) (by omega) hh0 (by omega)
  have hs3 := fun wx => slice70_to wx gp (k + 1) cv k (by omega)
  have hp0 := hpw.less (show k ≤ k + 1 by omega)
  have HE : Hid (dw n (val l) = dw h (val l / 10 ^ h) ++ dw h (val l % 10 ^ h)) := by show _ = _; rw [hnh, dw_halves]
  have hch : c - h + h = c := by omega
  generalize c - h = ch at hs2 hch
  have hvl := val_lt hm
  have ho1 : o + h ≤ old.length := by omega
  have ho2 : o + h + h ≤ old.length := by omega
  have hhc : h ≤ c := by omega
  have hhd : h ≤ ch := by omega
  have HN : Hid (n = 2 * h) := hnh
  clear hn hh hvx hlxb hnh
  go_enter Tryz.func147, Tryz.ntmps147
  go_wp2_with fail
  refine hD.mono ?_
  rintro e w1 ⟨vq, vr, rfl, hq, hrm, hk1⟩
  obtain ⟨aq, cq, lq, rfl, hcq, rq, mq, pq, eq, -⟩ := hq.shape
  obtain ⟨ar, cr, lr, rfl, hcr, rr, mr, pr, er, -⟩ := hrm.shape
  have hLq : lq.length ≤ l.length := len_le_pow pq _ (by rw [eq]; exact Nat.lt_of_le_of_lt (Nat.div_le_self _ _) hvl)
  have hLr : lr.length ≤ l.length := len_le_pow pr _ (by rw [er]; exact Nat.lt_of_le_of_lt (Nat.mod_le _ _) hvl)
  have hrow1 := hrow.keep hk1
  have hp1 := hp0.keep hk1
  have hS1 := fun wx (h1 : Row8 wx g old) (h2 : Rd wx aq lq) (h3 : Pw wx (some ⟨gp, 0, none⟩) k) => ih g o h c aq cq old lq (some ⟨gp, 0, none⟩) cv wx Hh.out (by omega) (by omega) hol h1 (by omega) h2 mq pq (by omega) h3
  go_wp2_with fail
  go_region_with (go_at_call 147; refine (hS1 _ ?_ ?_ ?_).mono ?_; exact hrow1; exact rq; exact hp1; rintro e w2 ⟨rfl, hrow2, hg2⟩)
  clear hS1
  have hg2 : Gr g w1 w2 := ((Keep.refl w1).drew.gr g).trans hg2
  have hp2 := hp1.gr hg2 hrow1
  have hrr2 := rr.gr hg2 hrow1
  rw [eq] at hrow2
  have hdl := dw_length h (val l / 10 ^ h)
  have hS2 := fun wx (h1 : Row8 wx g _) (h2 : Rd wx ar lr) (h3 : Pw wx (some ⟨gp, 0, none⟩) k) => ih g (o + h) h ch ar cr (old.take o ++ (dw h (val l / 10 ^ h) ++ old.drop (o + h))) lr (some ⟨gp, 0, none⟩) cv wx Hh.out (by omega) (by simp [hdl]; omega) (by simp [hdl]; omega) h1 (by omega) h2 mr pr (by omega) h3
  go_simp
  go_wp2_with fail
  go_region_with (go_at_call 147; refine (hS2 _ ?_ ?_ ?_).mono ?_; exact hrow2; exact hrr2; exact hp2; rintro e w3 ⟨rfl, hrow3, hg3⟩)
  clear hS2
  have hg3 : Gr g w2 w3 := ((Keep.refl w2).drew.gr g).trans hg3
  go_simp
  go_wp2_with fail
  go_end0
  refine ⟨rfl, ?_, ((hk1.gr g).trans hg2).trans hg3⟩
  rw [er, split_lists old o h _ _ hdl (by omega)] at hrow3
  rw [HE.out, HN.out]
  exact hrow3
theorem split_any : ∀ k, k ≤ 38 → SplitSaid k
  | 0, _ => fun g o n c a ca old l av cv w _ _ hon hol hrow hl hr hm _ _ _ => split_zero g o n c a ca old l av cv w hon hol hrow (by omega) hr hm
  | k + 1, h => split_step k (by omega) (split_any k (by omega))
end Go.Proofs.YtpdjpjkieafnbaaGreatDoor.Li
set_option linter.unusedVariables false
set_option linter.unusedSimpArgs false
namespace Go.Proofs.YtpdjpjkieafnbaaGreatDoor.Li
open Go.RowKit Lb
set_option maxRecDepth 100000 in
set_option maxHeartbeats 1600000 in
theorem Print_any : PrintSaid 1099511627776 := by
  intro a ca l w hc hl hr hm hd
  have hL := Len_any a ca l w hc (by omega) hr hm
  have hdig : val l < 10 ^ (lenB l * 30103 / 100000 + 1) := Nat.lt_trans (val_lt_len l hm) (pow_dec _)
  have hnl : nl l ≤ 34359738369 := by
    unfold lenB at hd
    split at hd <;> omega
  generalize lenB l = n at hL hdig hd
  obtain ⟨k, hk⟩ : ∃ k, n * 30103 / 100000 + 1 = k := ⟨_, rfl⟩
  rw [hk] at hdig
  have hkl : k ≤ 1099511627776 := by omega
  have hke : (n : Int) * 30103 / 100000 + 1 = (k : Int) := by omega
  go_enter Tryz.func107, Tryz.ntmps107
  go_wp2_with fail
  refine hL.mono ?_
  rintro e w1 ⟨rfl, hd1⟩
  have hPF := powersFor_any k w1 hkl
  go_wp2_with fail
  refine hPF.mono ?_
  rintro e w2 ⟨v2, vs, rfl, hown, hpows, hnk, hvl, hk2⟩
  have hpw0 := fun av c (e : v2 = .slice av vs.length c) => Pows.pw (e ▸ hown) hpows
  obtain ⟨av, cv, rfl, hcv, -⟩ := hown.shape
  have hpw := hpw0 av cv rfl
  clear hpw0 hown hpows hPF
  have hk02 := hd1.keep.trans hk2
  generalize vs.length = K at *
  have l1 := nl_le l
  have e1 : (l.take (nl l)).length = nl l := by simp; omega
  have hcv0 := hcv
  by_cases hK : K = 0
  · subst hK
    obtain ⟨D, hD⟩ : ∃ D, D = k := ⟨_, rfl⟩
    subst hD
    clear hcv
    go_wp2_with (at_make; refine wpList_make8 _ rfl _ _ rfl _ _ _ _ D rfl rfl rfl rfl (by omega) ?_; intro w3 hrow hk3 hsz)
    have hk03 := hk02.trans hk3
    refine (trim_any a ca l w3 hc (by omega) (hr.keep hk03)).mono ?_
    rintro e w4 ⟨rfl, rfl⟩
    have hS := split_zero w2.heap.size 0 D D a ca (List.replicate D 0) (l.take (nl l)) av cv w4 (by simp) (by simp; omega) hrow (by omega) ((hr.keep hk03).take _) (Lim_take hm _)
    rw [e1, val_take_nl] at hS
    go_wp2_with fail
    refine hS.mono ?_
    rintro e w5 ⟨rfl, h8, hg8⟩
    clear hS
    have h8' : Row8 w5 w2.heap.size (dw D (val l)) := by
      have : List.drop (0 + D) (List.replicate D 0) = [] := List.drop_eq_nil_of_le (by simp)
      rw [this] at h8
      simpa using h8
    have hk05 : Keep w w5 := by
      refine hk02.trans ?_
      exact ⟨(hg8.os.trans hk3.os), (hg8.tape.trans hk3.tape), (hg8.output.trans hk3.output), Nat.le_trans hk3.size hg8.size, fun i hi => (hg8.block i (by omega) (by omega)).trans (hk3.block i hi)⟩
    have hcv := conv8 w5 w2.heap.size D _ h8'
    rw [dw_length] at hcv
    clear h8 hg8 hrow hk3
    have hT := Tryz.strings_TrimLeft_one (S8 (dw D (val l))) 48 (by decide) w5
    rw [show (S8 (dw D (val l))).data.toList = (dw D (val l)).map UInt8.ofNat from by simp [S8], trimLeft_map _ (fun x hx => by have := dw_range _ _ x hx; omega)] at hT
    by_cases h0 : val l = 0
    · have e0 : cut0 (dw D (val l)) = [] := by
        rw [h0, cut0_zero]
      have ed : Hid (dec (val l) = [48]) := by show _ = _; unfold dec; rw [if_pos h0]
      rw [e0] at hT
      clear h0 e0
      go_wp2_with fail
      refine hT.mono ?_
      rintro e w6 ⟨rfl, rfl⟩
      go_wp2
      go_ret
      exact ⟨by rw [ed.out]; rfl, hk05⟩
    · have e0 : cut0 (dw D (val l)) ≠ [] := cut0_ne _ _ (by omega) hdig
      have ed : Hid (dec (val l) = cut0 (dw D (val l))) := by show _ = _; unfold dec; rw [if_neg h0, cut0_eq _ D hdig]
      obtain ⟨x, xs, hx⟩ := List.exists_cons_of_ne_nil e0
      rw [hx] at hT
      have Hx : Hid (cut0 (dw D (val l)) = x :: xs) := hx
      clear h0 e0 hx
      go_wp2_with fail
      refine hT.mono ?_
      rintro e w6 ⟨rfl, rfl⟩
      go_wp2
      go_ret
      exact ⟨by rw [ed.out, Hx.out]; simp [S8], hk05⟩
  · obtain ⟨D, hD⟩ : ∃ D, D = 288 * 2 ^ K := ⟨_, rfl⟩
    have h2k : 2 ^ K ≤ 4294967296 := Nat.le_trans (Nat.pow_le_pow_right (by omega) hvl) (by decide)
    have hPi : (288 : Int) * 2 ^ K = (D : Int) := by rw [hD]; simp
    have hPw : IntKind.i64.wrap (288 * 2 ^ K) = (D : Int) := by rw [hPi, IntKind.wrap_i64]; omega
    have HD : Hid (D = 288 * 2 ^ K) := hD
    have hdig := Nat.lt_of_lt_of_le hdig (Nat.pow_le_pow_right (show 0 < 10 by omega) (show k ≤ D by omega))
    have hDb : D ≤ 1236950581248 := by omega
    clear hD h2k hcv
    go_wp2_with (at_make; refine wpList_make8 _ rfl _ _ rfl _ _ _ _ D rfl rfl rfl rfl (by omega) ?_; intro w3 hrow hk3 hsz)
    have hk03 := hk02.trans hk3
    refine (trim_any a ca l w3 hc (by omega) (hr.keep hk03)).mono ?_
    rintro e w4 ⟨rfl, rfl⟩
    have hS := split_any K (by omega) w2.heap.size 0 D D a ca (List.replicate D 0) (l.take (nl l)) av cv w4 HD.out (by omega) (by simp) (by simp; omega) hrow (by omega) ((hr.keep hk03).take _) (Lim_take hm _) (Nrm_take l) hcv0 (hpw.keep hk3)
    rw [e1, val_take_nl] at hS
    go_wp2_with fail
    refine hS.mono ?_
    rintro e w5 ⟨rfl, h8, hg8⟩
    clear hS
    have h8' : Row8 w5 w2.heap.size (dw D (val l)) := by
      have : List.drop (0 + D) (List.replicate D 0) = [] := List.drop_eq_nil_of_le (by simp)
      rw [this] at h8
      simpa using h8
    have hk05 : Keep w w5 := by
      refine hk02.trans ?_
      exact ⟨(hg8.os.trans hk3.os), (hg8.tape.trans hk3.tape), (hg8.output.trans hk3.output), Nat.le_trans hk3.size hg8.size, fun i hi => (hg8.block i (by omega) (by omega)).trans (hk3.block i hi)⟩
    have hcv := conv8 w5 w2.heap.size D _ h8'
    rw [dw_length] at hcv
    clear h8 hg8 hrow hk3
    have hT := Tryz.strings_TrimLeft_one (S8 (dw D (val l))) 48 (by decide) w5
    rw [show (S8 (dw D (val l))).data.toList = (dw D (val l)).map UInt8.ofNat from by simp [S8], trimLeft_map _ (fun x hx => by have := dw_range _ _ x hx; omega)] at hT
    by_cases h0 : val l = 0
    · have e0 : cut0 (dw D (val l)) = [] := by
        rw [h0, cut0_zero]
      have ed : Hid (dec (val l) = [48]) := by show _ = _; unfold dec; rw [if_pos h0]
      rw [e0] at hT
      clear h0 e0
      go_wp2_with fail
      refine hT.mono ?_
      rintro e w6 ⟨rfl, rfl⟩
      go_wp2
      go_ret
      exact ⟨by rw [ed.out]; rfl, hk05⟩
    · have e0 : cut0 (dw D (val l)) ≠ [] := cut0_ne _ _ (by omega) hdig
      have ed : Hid (dec (val l) = cut0 (dw D (val l))) := by show _ = _; unfold dec; rw [if_neg h0, cut0_eq _ D hdig]
      obtain ⟨x, xs, hx⟩ := List.exists_cons_of_ne_nil e0
      rw [hx] at hT
      have Hx : Hid (cut0 (dw D (val l)) = x :: xs) := hx
      clear h0 e0 hx
      go_wp2_with fail
      refine hT.mono ?_
      rintro e w6 ⟨rfl, rfl⟩
      go_wp2
      go_ret
      exact ⟨by rw [ed.out, Hx.out]; simp [S8], hk05⟩
end Go.Proofs.YtpdjpjkieafnbaaGreatDoor.Li
set_option linter.unusedVariables false
set_option linter.unusedSimpArgs false
namespace Go.Proofs.YtpdjpjkieafnbaaGreatDoor.Li
open Go.RowKit Lb
theorem lenB_max {l : List Nat} (hm : Lim l) : lenB l ≤ 32 * l.length := by
  unfold lenB
  have h1 := nl_le l
  by_cases h : nl l = 0
  · rw [if_pos h]; omega
  · rw [if_neg h]
    have h2 := bitLen_le (l.getD (nl l - 1) 0) (Lim_getD hm _)
    omega
theorem pow_room (l : List Nat) (hm : Lim l) (n K : Nat) (hK : 65536 < 32 * K) (h : lenB l * n ≤ 65536) (j : Nat) (hj : j ≤ n) : val l ^ j < 4294967296 ^ K := by
  have h1 := val_lt_len l hm
  have h2 : val l ^ j ≤ (2 ^ lenB l) ^ j := Nat.pow_le_pow_left (by omega) j
  have h3 : lenB l * j ≤ lenB l * n := Nat.mul_le_mul_left _ hj
  rw [← Nat.pow_mul] at h2
  refine Nat.lt_of_le_of_lt h2 ?_
  rw [show (4294967296 : Nat) = 2 ^ 32 from rfl, ← Nat.pow_mul]
  exact Nat.pow_lt_pow_right (by omega) (by omega)
/-- What is told besides a power: 2 past the range, 3 where it has too many bits. -/
def powE (la : List Nat) (n : Int) : Int := if n < 0 ∨ 65536 < n then 2 else if 65536 < (lenB la : Int) * n then 3 else 0
def powV (la : List Nat) (n : Int) : Nat := if n < 0 ∨ 65536 < n then 0 else if 65536 < (lenB la : Int) * n then 0 else val la ^ n.toNat
/-- A natural and an error's number: what Pow, Up and Down return. -/
def Two (w w' : World) (e : Ending) (V : Nat) (E : Int) : Prop := ∃ a c l, e = .returned (.tuple #[.slice a l.length c, .int .i64 E]) ∧ l.length ≤ c ∧ Rd w' a l ∧ Lim l ∧ Nrm l ∧ val l = V ∧ Keep w w'
theorem Two.nought {w w' : World} {E : Int} (k : Keep w w') : Two w w' (.returned (.tuple #[.slice none 0 0, .int .i64 E])) 0 E :=
  ⟨none, 0, [], rfl, by simp, Rd.nil _ _, by intro x hx; simp at hx, by simp [Nrm], rfl, k⟩
theorem many_iff (L n : Nat) (hn : 0 < n) : 65536 / n < L ↔ 65536 < L * n := Nat.div_lt_iff_lt_mul hn
set_option maxRecDepth 100000 in
set_option maxHeartbeats 800000 in
theorem Pow_any (a : Option Addr) (ca : Nat) (n : Int) (la : List Nat) (w : World) (hca : la.length ≤ ca) (hla : la.length ≤ 1048576) (hra : Rd w a la) (hma : Lim la) :
    Calls Tryz.prog 39 #[.slice a la.length ca, .int .i64 n] w fun e w' => Two w w' e (powV la n) (powE la n) := by
  by_cases hout : n < 0 ∨ 65536 < n
  · have e1 : powE la n = 2 := by unfold powE; rw [if_pos hout]
    have e2 : powV la n = 0 := by unfold powV; rw [if_pos hout]
    rw [e1, e2]
    clear e1 e2
    rcases hout with h | h
    all_goals
      go_enter Tryz.func39, Tryz.ntmps39
      go_wp2
      go_ret2
      exact Two.nought (Keep.refl _)
  · obtain ⟨m, rfl⟩ : ∃ m : Nat, n = (m : Int) := ⟨n.toNat, by omega⟩
    have hm : m ≤ 65536 := by omega
    have hni : ¬ (m : Int) < 0 := by omega
    have hni2 : ¬ (65536 : Int) < (m : Int) := by omega
    have hLen := fun wx (hk : Keep w wx) => Len_any a ca la wx hca (by omega) (hra.keep hk) hma
    have hLb := lenB_max hma
    have h1 := nl_le la
    have e1 : (la.take (nl la)).length = nl la := by simp; omega
    have t1 := fun wx (hk : Keep w wx) => trim_any a ca la wx hca (by omega) (hra.keep hk)
    by_cases hmany : 65536 < lenB la * m
    · have hmi : 65536 < (lenB la : Int) * (m : Int) := by rw [← Int.natCast_mul]; omega
      have e1 : powE la m = 3 := by unfold powE; rw [if_neg hout, if_pos hmi]
      have e2 : powV la m = 0 := by unfold powV; rw [if_neg hout, if_pos hmi]
      rw [e1, e2]
      clear e1 e2 hmi
      have hm0 : 0 < m := by rcases Nat.eq_zero_or_pos m with h | h; · rw [h] at hmany; omega
                             · exact h
      have hq := (many_iff (lenB la) m hm0).2 hmany
      have hqi : (65536 : Int) / (m : Int) = ((65536 / m : Nat) : Int) := by simp
      generalize 65536 / m = q at *
      generalize lenB la = Lb at *
      clear hmany
      go_enter Tryz.func39, Tryz.ntmps39
      go_wp2_with fail
      go_quiet ((go_at_call 70; exact Calls.quiet_of (hLen _ ((Keep.refl w).drewN _))))
      have hk1 : Keep w (w.drewN nq) := (Keep.refl w).drewN _
      generalize w.drewN nq = w1 at hk1 ⊢
      go_wp2_with fail
      go_ret2
      exact Two.nought hk1
    · have hmi : ¬ 65536 < (lenB la : Int) * (m : Int) := by rw [← Int.natCast_mul]; omega
      have e3 : powE la m = 0 := by unfold powE; rw [if_neg hout, if_neg hmi]
      have e2 : powV la m = val la ^ m := by unfold powV; rw [if_neg hout, if_neg hmi]; simp
      rw [e3, e2]
      clear e3 e2 hmi
      obtain ⟨K, hK, hK2⟩ : ∃ K, 65536 < 32 * K ∧ K ≤ 35184372088832 := ⟨2049, by omega, by omega⟩
      have hM := fun wx (hk : Keep w wx) => power_any a ca m K (la.take (nl la)) wx (by omega) (by omega) hm (by omega) (by rw [val_take_nl]; exact pow_room la hma m K hK (by omega)) ((hra.keep hk).take _) (Lim_take hma _)
      rw [e1, val_take_nl] at hM
      by_cases hm0 : 0 < m
      · have hq : lenB la ≤ 65536 / m := by have := many_iff (lenB la) m hm0; omega
        have hqi : (65536 : Int) / (m : Int) = ((65536 / m : Nat) : Int) := by simp
        generalize 65536 / m = q at *
        generalize lenB la = Lb at *
        clear hmany
        go_enter Tryz.func39, Tryz.ntmps39
        go_wp2_with fail
        go_quiet ((go_at_call 70; exact Calls.quiet_of (hLen _ ((Keep.refl w).drewN _))))
        have hk1 : Keep w (w.drewN nq) := (Keep.refl w).drewN _
        generalize w.drewN nq = w1 at hk1 ⊢
        go_wp2_with fail
        refine (t1 _ hk1).mono ?_
        rintro e w2 ⟨rfl, rfl⟩
        go_wp2_with fail
        refine (hM _ hk1).mono ?_
        rintro e w3 ⟨v3, rfl, n3, k3⟩
        obtain ⟨a3, c3, l3, rfl, hc3, r3, m3, p3, e3, -⟩ := n3.natR.shape
        go_wp2_with fail
        go_ret2
        exact ⟨_, _, _, rfl, hc3, r3, m3, p3, e3, hk1.trans k3⟩
      · have hm00 : m = 0 := by omega
        subst hm00
        go_enter Tryz.func39, Tryz.ntmps39
        go_wp2_with fail
        go_quiet (fail)
        have hk1 : Keep w (w.drewN nq) := (Keep.refl w).drewN _
        generalize w.drewN nq = w1 at hk1 ⊢
        go_wp2_with fail
        refine (t1 _ hk1).mono ?_
        rintro e w2 ⟨rfl, rfl⟩
        go_wp2_with fail
        refine (hM _ hk1).mono ?_
        rintro e w3 ⟨v3, rfl, n3, k3⟩
        obtain ⟨a3, c3, l3, rfl, hc3, r3, m3, p3, e3, -⟩ := n3.natR.shape
        go_wp2_with fail
        go_ret2
        exact ⟨_, _, _, rfl, hc3, r3, m3, p3, e3, hk1.trans k3⟩
end Go.Proofs.YtpdjpjkieafnbaaGreatDoor.Li
