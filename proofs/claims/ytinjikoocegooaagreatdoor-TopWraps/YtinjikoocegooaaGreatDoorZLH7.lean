import Derived.Test.YtinjikoocegooaaGreatDoorProg
import Derived.Test.YtinjikoocegooaaGreatDoorLC10
import Derived.Test.YtinjikoocegooaaGreatDoorShelf
import Derived.Test.YtinjikoocegooaaGreatDoorZLH3
import Derived.Test.YtinjikoocegooaaGreatDoorZLF4
import Derived.WalkKit
import Derived.WalkSpells
import Derived.WalkLawsBesides
import Derived.Laws.CopyOwn
import Derived.Deep.Draws
import Derived.Deep.QuietTactic
import Derived.BigQuiet
import Derived.Laws.MathBits
import Derived.Shelf.Small.Bits
import Derived.Laws.BytesArg
import Derived.Lib.OthersKept
import Derived.Deep.RegionWith
import Derived.WalkMore
import Derived.Deep.LoopGhost
import Derived.Deep.RegionHeld3
import Derived.Test.YtinjikoocegooaaGreatDoorZLE3
import Derived.Test.YtinjikoocegooaaGreatDoorZLD6
import Derived.Test.YtinjikoocegooaaGreatDoorZLC18
set_option linter.unusedVariables false
set_option linter.unusedSimpArgs false
namespace Go.Proofs.YtinjikoocegooaaGreatDoor.Li
open Go.RowKit Lb
/-- The natural that a slice of limbs says in a world. -/
def limbsAt (w : World) : Value → Nat
  | .slice (some a) n _ => val ((List.range n).map fun j => match w.cell? ⟨a.block, a.off + j, none⟩ with | some (.int .u32 x) => x.toNat | _ => 0)
  | _ => 0
theorem limbsAt_eq {w : World} {a : Option Addr} {l : List Nat} {c : Nat} (h : Rd w a l) : limbsAt w (.slice a l.length c) = val l := by
  by_cases h0 : l = []
  · subst h0
    cases a <;> simp [limbsAt, val]
  · obtain ⟨b, o, rfl, -⟩ := h 0 (List.length_pos_iff.2 h0)
    simp only [limbsAt]
    congr 1
    refine List.ext_getElem (by simp) ?_
    intro j h1 h2
    obtain ⟨b', o', e, hc⟩ := h j h2
    simp only [Option.some.injEq, Addr.mk.injEq, and_true] at e
    obtain ⟨rfl, rfl⟩ := e
    simp [hc, List.getD, h2]
theorem lenB_many {l : List Nat} (hn : Nrm l) (h : 2 < l.length) (hm : Lim l) : 62 ≤ lenB l := by
  rcases Nat.lt_or_ge (lenB l) 62 with h1 | h1
  · exfalso
    have h2 := val_lt_len l hm
    have h3 := val_ge hn (by intro h; simp [h] at *)
    have h4 : (2 : Nat) ^ lenB l ≤ 2 ^ 62 := Nat.pow_le_pow_right (by omega) (by omega)
    have h5 : 4294967296 ^ 2 ≤ 4294967296 ^ (l.length - 1) := Nat.pow_le_pow_right (by omega) (by omega)
    have h6 : (2 : Nat) ^ 62 < 4294967296 ^ 2 := by decide
    omega
  · exact h1
theorem lenB_most (l : List Nat) (hm : Lim l) : lenB l ≤ 32 * l.length := by
  unfold lenB
  split
  · omega
  · rename_i h
    have h1 := nl_le l
    have h2 : l.getD (nl l - 1) 0 < 4294967296 := Lim_getD hm _
    have := bitLen_le _ h2
    omega
theorem val_pos {l : List Nat} (hn : Nrm l) (h : l ≠ []) : 0 < val l := by
  have h1 := val_ge hn h
  have h2 : 0 < 4294967296 ^ (l.length - 1) := Nat.pos_of_ne_zero (by simp)
  omega
theorem val_len {a b : List Nat} (hma : Lim a) (hnb : Nrm b) (h : val b ≤ val a) : b.length ≤ a.length := by
  rcases Nat.lt_or_ge a.length b.length with h1 | h1
  · have := len_lt_val hma hnb h1; omega
  · exact h1
set_option maxRecDepth 100000 in
set_option maxHeartbeats 1600000 in
theorem divisor_ge (a b : Option Addr) (ca cb : Nat) (la lb : List Nat) (w : World) (hca : la.length ≤ ca) (hcb : lb.length ≤ cb) (hla : la.length ≤ 70368744177663) (hlb : lb.length ≤ 70368744177663) (hra : Rd w a la) (hrb : Rd w b lb) (hma : Lim la) (hmb : Lim lb) (na : Nrm la) (nb : Nrm lb) (hge : val lb ≤ val la) :
    Calls Tryz.prog 49 #[.slice a la.length ca, .slice b lb.length cb] w fun e w' => ∃ v, e = .returned v ∧ NatR w.heap.size w' v (Nat.gcd (val la) (val lb)) ∧ Keep w w' := by
  have hz0 := cmpL_ge hma hmb na nb (by omega)
  have hc := compare_any a b ca cb la lb w (by omega) (by omega) hra hrb
  generalize cmpL la lb = z at hz0 hc
  have hz : decide (z < 0) = false := by simp; omega
  obtain ⟨G, hG⟩ : ∃ G, Nat.gcd (val la) (val lb) = G := ⟨_, rfl⟩
  rw [hG]
  go_enter Tryz.func49, Tryz.ntmps49
  go_wp2_with fail
  refine hc.mono ?_
  rintro e w1 ⟨rfl, hd⟩
  go_wp2_with fail
  go_loopw [0, 1] (fun av bv wr => ∃ (x y : Option Addr) (cx cy : Nat) (lx ly : List Nat), av = .slice x lx.length cx ∧ bv = .slice y ly.length cy ∧ lx.length ≤ cx ∧ ly.length ≤ cy ∧ lx.length ≤ 70368744177663 ∧ ly.length ≤ 70368744177663 ∧ Rd wr x lx ∧ Rd wr y ly ∧ Lim lx ∧ Lim ly ∧ Nrm lx ∧ Nrm ly ∧ Hid (val ly ≤ val lx) ∧ Hid (Nat.gcd (val lx) (val ly) = G) ∧ Keep w wr) (fun _ bv wr => limbsAt wr bv)
  case atStart => exact ⟨a, b, ca, cb, la, lb, rfl, rfl, hca, hcb, hla, hlb, hra.keep hd.keep, hrb.keep hd.keep, hma, hmb, na, nb, hge, hG, hd.keep⟩
  case round =>
    clear hra hrb hma hmb na nb hge hG hca hcb hla hlb hc hz0 hz
    obtain ⟨x, y, cx, cy, lx, ly, rfl, rfl, hcx, hcy, hlx, hly, rx, ry, mx, my, nx, ny, hle, hg, hkp⟩ := hrel
    have hms := limbsAt_eq (c := cy) ry
    by_cases h2 : 2 < ly.length
    · have hxl : ly.length ≤ lx.length := val_len mx ny hle.out
      have hF := foresee_any x y cx cy lx ly wr hcx hcy (by omega) (by omega) rx ry mx my hle.out (lenB_many nx (by omega) mx) (Nat.le_trans (lenB_most lx mx) (by omega))
      go_wp2_with fail
      refine hF.mono ?_
      rintro e w2 ⟨u0, u1, d0, d1, odd, rfl, ⟨b0, b1, b2, b3, hgood⟩, k2⟩
      clear hF
      have hK := fun wx => known_any u0 u1 d0 d1 odd wx
      have hS := Stp.new w2 u0 u1 d0 d1 odd
      have kS : Keep w2 (w2.alloc (.cells #[.int .u64 (u0 : Nat), .int .u64 (u1 : Nat), .int .u64 (d0 : Nat), .int .u64 (d1 : Nat), .bool odd] 117)) := (Keep.refl w2).alloc _
      by_cases hd0 : d0 = 0
      · have hq : (!((d0 : Int) == 0)) = false := by simp; omega
        rw [hq] at hK
        clear hq hgood hd0
        go_wp2_with fail
        generalize w2.alloc _ = w2' at hS kS ⊢
        refine (hK w2').mono ?_
        rintro e w3 ⟨rfl, k3⟩
        have k23 := (k2.trans kS).trans k3
        have hk3 := hkp.trans k23
        obtain ⟨s0, s1, s2, s3, s4⟩ := (hS.keep k3).cells
        have hD := divide_any x y cx cy lx ly w3 hlx (by omega) (rx.keep k23) (ry.keep k23) mx my nx ny (by intro h; simp [h] at h2)
        clear hK
        go_wp2_with fail
        refine hD.mono ?_
        rintro e w4 ⟨vq, vr, rfl, hq, hr, k4⟩
        obtain ⟨aq, cq, lq, rfl, -⟩ := hq.shape
        obtain ⟨ar, cr, lr, rfl, hcr, rr, mr, nr, er, -⟩ := hr.shape
        have hy0 : 0 < val ly := val_pos ny (by intro h; simp [h] at h2)
        have hlt : val lr < val ly := by rw [er]; exact Nat.mod_lt _ hy0
        have hlr : lr.length ≤ ly.length := val_len my nr (by omega)
        have hms4 := limbsAt_eq (c := cr) rr
        have hgc : Hid (Nat.gcd (val ly) (val lr) = G) := by
          show _ = _
          rw [er, Nat.gcd_comm, ← Nat.gcd_rec, Nat.gcd_comm]; exact hg.out
        have HM : Hid (limbsAt w4 (.slice ar lr.length cr) < limbsAt wr (.slice y ly.length cy)) := by show _ < _; rw [hms4, hms]; exact hlt
        have hlt' : Hid (val lr ≤ val ly) := Nat.le_of_lt hlt
        clear hD er hlt hms hms4 hle hg hy0
        go_wp2_with fail
        go_roundw
        case rel => exact ⟨y, ar, cy, cr, ly, lr, rfl, rfl, hcy, hcr, hly, by omega, (ry.keep k23).keep k4, rr, my, mr, ny, nr, hlt', hgc, hk3.trans k4⟩
        case measure => exact HM.out
      · have hq : (!((d0 : Int) == 0)) = true := by simp; omega
        rw [hq] at hK
        obtain ⟨g0, g1, g2, g3⟩ := hgood hd0
        obtain ⟨R1, hR1⟩ : ∃ R1 : Nat, Ri (!odd) u0 d0 (val lx) (val ly) = (R1 : Int) := ⟨_, (Int.toNat_of_nonneg (by omega)).symm⟩
        obtain ⟨R2, hR2⟩ : ∃ R2 : Nat, Ri odd u1 d1 (val lx) (val ly) = (R2 : Int) := ⟨_, (Int.toNat_of_nonneg (by omega)).symm⟩
        rw [hR2] at g0 g1 g3
        rw [hR1] at g1 g2 g3
        have hvl := val_lt my
        have q1 : R2 < R1 := by omega
        have q2 : R1 ≤ val ly := by omega
        have q3 : Nat.gcd R1 R2 = Nat.gcd (val lx) (val ly) := by
          rw [← g3]; rfl
        go_wp2_with fail
        generalize w2.alloc _ = w2' at hS kS ⊢
        refine (hK w2').mono ?_
        rintro e w3 ⟨rfl, k3⟩
        have k23 := (k2.trans kS).trans k3
        have hk3 := hkp.trans k23
        obtain ⟨s0, s1, s2, s3, s4⟩ := (hS.keep k3).cells
        have hD := do_any u0 u1 d0 d1 odd x y cx cy lx ly w3 (by omega) (by omega) (rx.keep k23) (ry.keep k23) mx my b0 b1 b2 b3 R1 R2 hR1 hR2 (by omega) (by omega)
        clear hK hq hd0 hR1 hR2 g0 g1 g2 g3 hgood
        go_wp2_with fail
        refine hD.mono ?_
        rintro e w4 ⟨vx, vy, rfl, hx4, hy4, k4⟩
        obtain ⟨ap, cp, lp, rfl, hcp, rp, mp, np, ep, -⟩ := hx4.shape
        obtain ⟨ar, cr, lr, rfl, hcr, rr, mr, nr, er, -⟩ := hy4.shape
        have hlp : lp.length ≤ ly.length := val_len my np (by omega)
        have hlr : lr.length ≤ ly.length := val_len my nr (by omega)
        have hms4 := limbsAt_eq (c := cr) rr
        have hgc : Hid (Nat.gcd (val lp) (val lr) = G) := by
          show _ = _
          rw [ep, er, q3]; exact hg.out
        have HM : Hid (limbsAt w4 (.slice ar lr.length cr) < limbsAt wr (.slice y ly.length cy)) := by show _ < _; rw [hms4, hms]; omega
        have hlt' : Hid (val lr ≤ val lp) := by show _ ≤ _; omega
        clear hD er ep hms hms4 hle hg q1 q2 q3 hvl
        go_wp2_with fail
        go_roundw
        case rel => exact ⟨ap, ar, cp, cr, lp, lr, rfl, rfl, hcp, hcr, by omega, by omega, rp, rr, mp, mr, np, nr, hlt', hgc, hk3.trans k4⟩
        case measure => exact HM.out
    · by_cases h0 : ly = []
      · subst h0
        have hf := fresh_any x cx lx wr (by omega) rx
        have hv : val lx = G := by
          have := hg.out
          simpa [val] using this
        simp only [List.length_nil] at *
        go_wp2_with fail
        refine hf.mono ?_
        rintro e w2 ⟨rfl, hrow, k2, -⟩
        go_wp2
        go_ret
        exact ⟨_, rfl, ⟨lx, (hrow.res (Nat.le_refl _)).mono hkp.le, mx, nx, hv⟩, hkp.trans k2⟩
      · have hl0 : 0 < ly.length := List.length_pos_iff.2 h0
        have h0' : ((ly.length : Int) == 0) = false := by simp; omega
        have hD := divide_any x y cx cy lx ly wr hlx (by omega) rx ry mx my nx ny h0
        go_wp2_with fail
        refine hD.mono ?_
        rintro e w2 ⟨vq, vr, rfl, hq, hr, hk⟩
        obtain ⟨aq, cq, lq, rfl, -⟩ := hq.shape
        obtain ⟨ar, cr, lr, rfl, hcr, hrr, hmr, nr, hvr, -⟩ := hr.shape
        have hk2 := hkp.trans hk
        have hb2 := val_two my (show ly.length ≤ 2 by omega)
        have hv0 : 0 < val ly := val_pos ny h0
        have hrl : val lr < 18446744073709551616 := by rw [hvr]; exact Nat.lt_trans (Nat.mod_lt _ hv0) hb2
        have hlr := len_two nr hrl
        have L1 := low64_any y cy ly w2 (by omega) (ry.keep hk) my
        rw [List.take_of_length_le (show ly.length ≤ 2 by omega)] at L1
        have L2 := low64_any ar cr lr w2 (by omega) hrr hmr
        rw [List.take_of_length_le hlr] at L2
        have G0 := divisor64_any (val ly) (val lr) w2 hb2 hrl
        rw [hvr, Nat.gcd_comm, ← Nat.gcd_rec, Nat.gcd_comm, hg.out] at G0
        have hgl : G < 18446744073709551616 := by rw [← hg.out]; exact Nat.lt_of_le_of_lt (Nat.gcd_le_right _ hv0) hb2
        have F := fun w3 => From_any G w3 hgl
        rw [hvr] at L2
        clear hvr hD
        go_wp2_with fail
        refine L1.mono ?_
        rintro e w3 ⟨rfl, rfl⟩
        go_wp2_with fail
        refine L2.mono ?_
        rintro e w3 ⟨rfl, rfl⟩
        go_wp2_with fail
        refine G0.mono ?_
        rintro e w4 ⟨rfl, hd4⟩
        go_wp2_with fail
        refine (F w4).mono ?_
        rintro e w5 ⟨v, l, rfl, hres, hlim, hnrm, hval, hk5⟩
        go_wp2
        go_ret
        exact ⟨_, rfl, ⟨l, hres.mono (hk2.trans hd4.keep).le, hlim, hnrm, hval⟩, (hk2.trans hd4.keep).trans hk5⟩
end Go.Proofs.YtinjikoocegooaaGreatDoor.Li
set_option linter.unusedVariables false
set_option linter.unusedSimpArgs false
namespace Go.Proofs.YtinjikoocegooaaGreatDoor.Li
open Go.RowKit Lb
theorem Own.mut {B g : Nat} {w w' : World} {v : Value} {l : List Nat} (h : Own B w v l) (k : Mut g w w') (hg : g < B) : Own B w' v l := by
  refine ⟨h.1, ?_⟩
  rcases h.2 with h2 | ⟨g', cap, cur, hv, hg', hh, r⟩
  · exact .inl h2
  · exact .inr ⟨g', cap, cur, hv, hg', by rw [k.block g' (by omega)]; exact hh, r⟩
end Go.Proofs.YtinjikoocegooaaGreatDoor.Li
set_option linter.unusedVariables false
set_option linter.unusedSimpArgs false
namespace Go.Proofs.YtinjikoocegooaaGreatDoor.Li
open Go.RowKit Lb
set_option maxRecDepth 100000 in
set_option maxHeartbeats 1600000 in
theorem divisor_lt (a b : Option Addr) (ca cb : Nat) (la lb : List Nat) (w : World) (hca : la.length ≤ ca) (hcb : lb.length ≤ cb) (hla : la.length ≤ 70368744177663) (hlb : lb.length ≤ 70368744177663) (hra : Rd w a la) (hrb : Rd w b lb) (hma : Lim la) (hmb : Lim lb) (na : Nrm la) (nb : Nrm lb) (hge : val lb < val la) :
    Calls Tryz.prog 49 #[.slice b lb.length cb, .slice a la.length ca] w fun e w' => ∃ v, e = .returned v ∧ NatR w.heap.size w' v (Nat.gcd (val la) (val lb)) ∧ Keep w w' := by
  have hcm := cmpL_lt hmb hma nb na hge
  have hc := compare_any b a cb ca lb la w (by omega) (by omega) hrb hra
  rw [hcm] at hc
  clear hcm
  obtain ⟨G, hG⟩ : ∃ G, Nat.gcd (val la) (val lb) = G := ⟨_, rfl⟩
  rw [hG]
  go_enter Tryz.func49, Tryz.ntmps49
  go_wp2_with fail
  refine hc.mono ?_
  rintro e w1 ⟨rfl, hd⟩
  go_wp2_with fail
  go_loopw [0, 1] (fun av bv wr => ∃ (x y : Option Addr) (cx cy : Nat) (lx ly : List Nat), av = .slice x lx.length cx ∧ bv = .slice y ly.length cy ∧ lx.length ≤ cx ∧ ly.length ≤ cy ∧ lx.length ≤ 70368744177663 ∧ ly.length ≤ 70368744177663 ∧ Rd wr x lx ∧ Rd wr y ly ∧ Lim lx ∧ Lim ly ∧ Nrm lx ∧ Nrm ly ∧ Hid (val ly ≤ val lx) ∧ Hid (Nat.gcd (val lx) (val ly) = G) ∧ Keep w wr) (fun _ bv wr => limbsAt wr bv)
  case atStart => exact ⟨a, b, ca, cb, la, lb, rfl, rfl, hca, hcb, hla, hlb, hra.keep hd.keep, hrb.keep hd.keep, hma, hmb, na, nb, Nat.le_of_lt hge, hG, hd.keep⟩
  case round =>
    clear hra hrb hma hmb na nb hge hG hca hcb hla hlb hc
    obtain ⟨x, y, cx, cy, lx, ly, rfl, rfl, hcx, hcy, hlx, hly, rx, ry, mx, my, nx, ny, hle, hg, hkp⟩ := hrel
    have hms := limbsAt_eq (c := cy) ry
    by_cases h2 : 2 < ly.length
    · have hxl : ly.length ≤ lx.length := val_len mx ny hle.out
      have hF := foresee_any x y cx cy lx ly wr hcx hcy (by omega) (by omega) rx ry mx my hle.out (lenB_many nx (by omega) mx) (Nat.le_trans (lenB_most lx mx) (by omega))
      go_wp2_with fail
      refine hF.mono ?_
      rintro e w2 ⟨u0, u1, d0, d1, odd, rfl, ⟨b0, b1, b2, b3, hgood⟩, k2⟩
      clear hF
      have hK := fun wx => known_any u0 u1 d0 d1 odd wx
      have hS := Stp.new w2 u0 u1 d0 d1 odd
      have kS : Keep w2 (w2.alloc (.cells #[.int .u64 (u0 : Nat), .int .u64 (u1 : Nat), .int .u64 (d0 : Nat), .int .u64 (d1 : Nat), .bool odd] 117)) := (Keep.refl w2).alloc _
      by_cases hd0 : d0 = 0
      · have hq : (!((d0 : Int) == 0)) = false := by simp; omega
        rw [hq] at hK
        clear hq hgood hd0
        go_wp2_with fail
        generalize w2.alloc _ = w2' at hS kS ⊢
        refine (hK w2').mono ?_
        rintro e w3 ⟨rfl, k3⟩
        have k23 := (k2.trans kS).trans k3
        have hk3 := hkp.trans k23
        obtain ⟨s0, s1, s2, s3, s4⟩ := (hS.keep k3).cells
        have hD := divide_any x y cx cy lx ly w3 hlx (by omega) (rx.keep k23) (ry.keep k23) mx my nx ny (by intro h; simp [h] at h2)
        clear hK
        go_wp2_with fail
        refine hD.mono ?_
        rintro e w4 ⟨vq, vr, rfl, hq, hr, k4⟩
        obtain ⟨aq, cq, lq, rfl, -⟩ := hq.shape
        obtain ⟨ar, cr, lr, rfl, hcr, rr, mr, nr, er, -⟩ := hr.shape
        have hy0 : 0 < val ly := val_pos ny (by intro h; simp [h] at h2)
        have hlt : val lr < val ly := by rw [er]; exact Nat.mod_lt _ hy0
        have hlr : lr.length ≤ ly.length := val_len my nr (by omega)
        have hms4 := limbsAt_eq (c := cr) rr
        have hgc : Hid (Nat.gcd (val ly) (val lr) = G) := by
          show _ = _
          rw [er, Nat.gcd_comm, ← Nat.gcd_rec, Nat.gcd_comm]; exact hg.out
        have HM : Hid (limbsAt w4 (.slice ar lr.length cr) < limbsAt wr (.slice y ly.length cy)) := by show _ < _; rw [hms4, hms]; exact hlt
        have hlt' : Hid (val lr ≤ val ly) := Nat.le_of_lt hlt
        clear hD er hlt hms hms4 hle hg hy0
        go_wp2_with fail
        go_roundw
        case rel => exact ⟨y, ar, cy, cr, ly, lr, rfl, rfl, hcy, hcr, hly, by omega, (ry.keep k23).keep k4, rr, my, mr, ny, nr, hlt', hgc, hk3.trans k4⟩
        case measure => exact HM.out
      · have hq : (!((d0 : Int) == 0)) = true := by simp; omega
        rw [hq] at hK
        obtain ⟨g0, g1, g2, g3⟩ := hgood hd0
        obtain ⟨R1, hR1⟩ : ∃ R1 : Nat, Ri (!odd) u0 d0 (val lx) (val ly) = (R1 : Int) := ⟨_, (Int.toNat_of_nonneg (by omega)).symm⟩
        obtain ⟨R2, hR2⟩ : ∃ R2 : Nat, Ri odd u1 d1 (val lx) (val ly) = (R2 : Int) := ⟨_, (Int.toNat_of_nonneg (by omega)).symm⟩
        rw [hR2] at g0 g1 g3
        rw [hR1] at g1 g2 g3
        have hvl := val_lt my
        have q1 : R2 < R1 := by omega
        have q2 : R1 ≤ val ly := by omega
        have q3 : Nat.gcd R1 R2 = Nat.gcd (val lx) (val ly) := by
          rw [← g3]; rfl
        go_wp2_with fail
        generalize w2.alloc _ = w2' at hS kS ⊢
        refine (hK w2').mono ?_
        rintro e w3 ⟨rfl, k3⟩
        have k23 := (k2.trans kS).trans k3
        have hk3 := hkp.trans k23
        obtain ⟨s0, s1, s2, s3, s4⟩ := (hS.keep k3).cells
        have hD := do_any u0 u1 d0 d1 odd x y cx cy lx ly w3 (by omega) (by omega) (rx.keep k23) (ry.keep k23) mx my b0 b1 b2 b3 R1 R2 hR1 hR2 (by omega) (by omega)
        clear hK hq hd0 hR1 hR2 g0 g1 g2 g3 hgood
        go_wp2_with fail
        refine hD.mono ?_
        rintro e w4 ⟨vx, vy, rfl, hx4, hy4, k4⟩
        obtain ⟨ap, cp, lp, rfl, hcp, rp, mp, np, ep, -⟩ := hx4.shape
        obtain ⟨ar, cr, lr, rfl, hcr, rr, mr, nr, er, -⟩ := hy4.shape
        have hlp : lp.length ≤ ly.length := val_len my np (by omega)
        have hlr : lr.length ≤ ly.length := val_len my nr (by omega)
        have hms4 := limbsAt_eq (c := cr) rr
        have hgc : Hid (Nat.gcd (val lp) (val lr) = G) := by
          show _ = _
          rw [ep, er, q3]; exact hg.out
        have HM : Hid (limbsAt w4 (.slice ar lr.length cr) < limbsAt wr (.slice y ly.length cy)) := by show _ < _; rw [hms4, hms]; omega
        have hlt' : Hid (val lr ≤ val lp) := by show _ ≤ _; omega
        clear hD er ep hms hms4 hle hg q1 q2 q3 hvl
        go_wp2_with fail
        go_roundw
        case rel => exact ⟨ap, ar, cp, cr, lp, lr, rfl, rfl, hcp, hcr, by omega, by omega, rp, rr, mp, mr, np, nr, hlt', hgc, hk3.trans k4⟩
        case measure => exact HM.out
    · by_cases h0 : ly = []
      · subst h0
        have hf := fresh_any x cx lx wr (by omega) rx
        have hv : val lx = G := by
          have := hg.out
          simpa [val] using this
        simp only [List.length_nil] at *
        go_wp2_with fail
        refine hf.mono ?_
        rintro e w2 ⟨rfl, hrow, k2, -⟩
        go_wp2
        go_ret
        exact ⟨_, rfl, ⟨lx, (hrow.res (Nat.le_refl _)).mono hkp.le, mx, nx, hv⟩, hkp.trans k2⟩
      · have hl0 : 0 < ly.length := List.length_pos_iff.2 h0
        have h0' : ((ly.length : Int) == 0) = false := by simp; omega
        have hD := divide_any x y cx cy lx ly wr hlx (by omega) rx ry mx my nx ny h0
        go_wp2_with fail
        refine hD.mono ?_
        rintro e w2 ⟨vq, vr, rfl, hq, hr, hk⟩
        obtain ⟨aq, cq, lq, rfl, -⟩ := hq.shape
        obtain ⟨ar, cr, lr, rfl, hcr, hrr, hmr, nr, hvr, -⟩ := hr.shape
        have hk2 := hkp.trans hk
        have hb2 := val_two my (show ly.length ≤ 2 by omega)
        have hv0 : 0 < val ly := val_pos ny h0
        have hrl : val lr < 18446744073709551616 := by rw [hvr]; exact Nat.lt_trans (Nat.mod_lt _ hv0) hb2
        have hlr := len_two nr hrl
        have L1 := low64_any y cy ly w2 (by omega) (ry.keep hk) my
        rw [List.take_of_length_le (show ly.length ≤ 2 by omega)] at L1
        have L2 := low64_any ar cr lr w2 (by omega) hrr hmr
        rw [List.take_of_length_le hlr] at L2
        have G0 := divisor64_any (val ly) (val lr) w2 hb2 hrl
        rw [hvr, Nat.gcd_comm, ← Nat.gcd_rec, Nat.gcd_comm, hg.out] at G0
        have hgl : G < 18446744073709551616 := by rw [← hg.out]; exact Nat.lt_of_le_of_lt (Nat.gcd_le_right _ hv0) hb2
        have F := fun w3 => From_any G w3 hgl
        rw [hvr] at L2
        clear hvr hD
        go_wp2_with fail
        refine L1.mono ?_
        rintro e w3 ⟨rfl, rfl⟩
        go_wp2_with fail
        refine L2.mono ?_
        rintro e w3 ⟨rfl, rfl⟩
        go_wp2_with fail
        refine G0.mono ?_
        rintro e w4 ⟨rfl, hd4⟩
        go_wp2_with fail
        refine (F w4).mono ?_
        rintro e w5 ⟨v, l, rfl, hres, hlim, hnrm, hval, hk5⟩
        go_wp2
        go_ret
        exact ⟨_, rfl, ⟨l, hres.mono (hk2.trans hd4.keep).le, hlim, hnrm, hval⟩, (hk2.trans hd4.keep).trans hk5⟩
end Go.Proofs.YtinjikoocegooaaGreatDoor.Li
set_option linter.unusedVariables false
set_option linter.unusedSimpArgs false
namespace Go.Proofs.YtinjikoocegooaaGreatDoor.Li
open Go.RowKit Lb
theorem divisor_all (a b : Option Addr) (ca cb : Nat) (la lb : List Nat) (w : World) (hca : la.length ≤ ca) (hcb : lb.length ≤ cb) (hla : la.length ≤ 70368744177663) (hlb : lb.length ≤ 70368744177663) (hra : Rd w a la) (hrb : Rd w b lb) (hma : Lim la) (hmb : Lim lb) (na : Nrm la) (nb : Nrm lb) :
    Calls Tryz.prog 49 #[.slice a la.length ca, .slice b lb.length cb] w fun e w' => ∃ v, e = .returned v ∧ NatR w.heap.size w' v (Nat.gcd (val la) (val lb)) ∧ Keep w w' := by
  by_cases h : val la < val lb
  · have := divisor_lt b a cb ca lb la w hcb hca hlb hla hrb hra hmb hma nb na h
    rwa [Nat.gcd_comm] at this
  · exact divisor_ge a b ca cb la lb w hca hcb hla hlb hra hrb hma hmb na nb (by omega)
end Go.Proofs.YtinjikoocegooaaGreatDoor.Li
