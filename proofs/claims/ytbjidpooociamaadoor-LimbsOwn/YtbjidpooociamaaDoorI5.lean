import Derived.Test.YtbjidpooociamaaDoorI4
import Derived.Test.YtbjidpooociamaaDoorH7
import Derived.Test.YtbjidpooociamaaDoorF5
import Derived.Test.YtbjidpooociamaaDoorC19
set_option linter.unusedVariables false
set_option linter.unusedSimpArgs false
namespace Go.Proofs.YtbjidpooociamaaDoor
open Go.RowKit Lb
theorem rDivMod_any (a b : Option Addr) (ca cb : Nat) (la lb : List Nat) (w : World) (hca : la.length ≤ ca) (hcb : lb.length ≤ cb) (hla : la.length ≤ 35184372087900) (hlb : lb.length ≤ 35184372087900) (hra : Rd w a la) (hrb : Rd w b lb) (hma : Lim la) (hmb : Lim lb) (hb : nl lb ≠ 0) :
    Calls Tryd.prog 38 #[.slice a la.length ca, .slice b lb.length cb] w fun e w' => ∃ vq vr lq lr, e = .returned (.tuple #[vq, vr, .int .i64 0]) ∧ Own w.heap.size w' vq lq ∧ Own w.heap.size w' vr lr ∧ Lim lq ∧ Nrm lq ∧ val lq = val la / val lb ∧ Lim lr ∧ Nrm lr ∧ val lr = val la % val lb ∧ Keep w w' := by
  by_cases h1 : nl lb = 1
  · exact rDivMod_one a b ca cb la lb w hca hcb (by omega) (by omega) hra hrb hma hmb h1
  · exact rDivMod_bits a b ca cb la lb w hca hcb hla hlb hra hrb hma hmb (by omega)
theorem nl_nrm {l : List Nat} (hn : Nrm l) : nl l = l.length := by
  by_cases h : l = []
  · subst h; rfl
  · have h0 : 0 < l.length := List.length_pos_iff.2 h
    refine nl_eq l l.length (fun j hj => by simp [List.getD, hj]) (fun _ => ?_)
    obtain ⟨i, z, rfl⟩ : ∃ i z, l = i ++ [z] := ⟨l.dropLast, l.getLast h, (List.dropLast_concat_getLast h).symm⟩
    simp [Nrm] at hn
    simpa [List.getD] using hn
set_option maxRecDepth 100000 in
set_option maxHeartbeats 800000 in
theorem rGcd_any (a b : Option Addr) (ca cb : Nat) (la lb : List Nat) (w : World) (hca : la.length ≤ ca) (hcb : lb.length ≤ cb) (hla : la.length ≤ 35184372087900) (hlb : lb.length ≤ 35184372087900) (hra : Rd w a la) (hrb : Rd w b lb) (hma : Lim la) (hmb : Lim lb) :
    Calls Tryd.prog 40 #[.slice a la.length ca, .slice b lb.length cb] w fun e w' => ∃ v l, e = .returned v ∧ Own w.heap.size w' v l ∧ Lim l ∧ Nrm l ∧ val l = Nat.gcd (val la) (val lb) ∧ Keep w w' := by
  have l1 := nl_le la
  have l2 := nl_le lb
  have e1 : (la.take (nl la)).length ≤ 35184372087900 := by simp; omega
  have e2 : (lb.take (nl lb)).length ≤ 35184372087900 := by simp; omega
  have mx := Lim_take hma (nl la)
  have my := Lim_take hmb (nl lb)
  have nx := Nrm_take la
  have ny := Nrm_take lb
  have hG0 : Nat.gcd (val (la.take (nl la))) (val (lb.take (nl lb))) = Nat.gcd (val la) (val lb) := by rw [val_take_nl, val_take_nl]
  have hN1 := rNorm_any a ca la w hca (by omega) hra
  have hN2 := fun wx (hk : Keep w wx) => rNorm_any b cb lb wx hcb (by omega) (hrb.keep hk)
  generalize la.take (nl la) = x at *
  generalize lb.take (nl lb) = y at *
  generalize Nat.gcd (val la) (val lb) = G at *
  have HG : Hid (Nat.gcd (val x) (val y) = G) := hG0
  clear hma hmb hra hrb hca hcb hla hlb hG0 l1 l2
  go_enter Tryd.func40, Tryd.ntmps40
  go_wp2_with fail
  refine hN1.mono ?_
  rintro e w1 ⟨v1, rfl, o1, k1⟩
  have o1' := o1
  obtain ⟨a1, c1, rfl, hc1, r1⟩ := o1.shape
  go_wp2_with fail
  refine (hN2 _ k1).mono ?_
  rintro e w2 ⟨v2, rfl, o2, k2⟩
  have o2' := o2
  obtain ⟨a2, c2, rfl, hc2, r2⟩ := o2.shape
  have k02 := k1.trans k2
  clear hN1 hN2
  go_wp2_with fail
  go_loopw [5, 6] (fun xv yv wr => ∃ (lx ly : List Nat), Own w.heap.size wr xv lx ∧ Own w.heap.size wr yv ly ∧ lx.length ≤ 35184372087900 ∧ ly.length ≤ 35184372087900 ∧ Lim lx ∧ Lim ly ∧ Nrm lx ∧ Nrm ly ∧ Hid (Nat.gcd (val lx) (val ly) = G) ∧ Keep w wr) (fun _ yv wr => limbsAt wr yv)
  case atStart => exact ⟨x, y, o1'.keep k2, o2'.mono k1.le, e1, e2, mx, my, nx, ny, HG, k02⟩
  case round =>
    clear mx my nx ny HG e1 e2 r1 r2 hc1 hc2 o1 o2 o1' o2'
    obtain ⟨lx, ly, ox, oy, hlx, hly, mx, my, nx, ny, hg, hkp⟩ := hrel
    have ox' := ox
    have oy' := oy
    obtain ⟨ax, cx, rfl, hcx, rx⟩ := ox.shape
    obtain ⟨ay, cy, rfl, hcy, ry⟩ := oy.shape
    have hms := limbsAt_eq (c := cy) ry
    by_cases h0 : ly = []
    · subst h0
      have hv : val lx = G := by
        have := hg.out
        simpa [val] using this
      simp only [List.length_nil] at *
      go_wp2_with fail
      go_ret
      exact ⟨_, _, rfl, ox', mx, nx, hv, hkp⟩
    · have hl0 : 0 < ly.length := List.length_pos_iff.2 h0
      have hy0 : 0 < val ly := val_pos ny h0
      have hD := rDivMod_any ax ay cx cy lx ly wr hcx hcy hlx hly rx ry mx my (by rw [nl_nrm ny]; omega)
      go_wp2_with fail
      refine hD.mono ?_
      rintro e w3 ⟨vq, vr, lq, lr, rfl, oq, or3, mq, nq, eq, mr, nr, er, k3⟩
      clear hD
      have or' := or3
      obtain ⟨aq, cq, rfl, hcq, rq⟩ := oq.shape
      obtain ⟨ar, cr, rfl, hcr, rr⟩ := or3.shape
      have hlt : val lr < val ly := by rw [er]; exact Nat.mod_lt _ hy0
      have hlr : lr.length ≤ ly.length := val_len my nr (by omega)
      have hms4 := limbsAt_eq (c := cr) rr
      have hgc : Hid (Nat.gcd (val ly) (val lr) = G) := by
        show _ = _
        rw [er, Nat.gcd_comm, ← Nat.gcd_rec, Nat.gcd_comm]; exact hg.out
      have HM : Hid (limbsAt w3 (.slice ar lr.length cr) < limbsAt wr (.slice ay ly.length cy)) := by show _ < _; rw [hms4, hms]; exact hlt
      clear er eq hlt hms hms4 hg hy0
      go_wp2_with fail
      go_roundw
      case rel => exact ⟨ly, lr, oy'.keep k3, or'.mono hkp.le, hly, by omega, my, mr, ny, nr, hgc, hkp.trans k3⟩
      case measure => exact HM.out
end Go.Proofs.YtbjidpooociamaaDoor
