import Derived.Test.YtbjidpooociamaaDoorK3
import Derived.Test.YtbjidpooociamaaDoorG2
import Derived.Test.YtbjidpooociamaaDoorH7
import Derived.Test.YtbjidpooociamaaDoorC19
set_option linter.unusedVariables false
set_option linter.unusedSimpArgs false
namespace Go.Proofs.YtbjidpooociamaaDoor
open Go.RowKit Lb
/-- A quotient as it is written. -/
def wrS (neg : Bool) (N D : Nat) : List Nat := if D = 0 then [] else ratioS (RS neg N D) (RN N D) (RD N D)
set_option maxRecDepth 100000 in
set_option maxHeartbeats 1600000 in
theorem Write_zero (neg : Bool) (a b : Option Addr) (ca cb : Nat) (la lb : List Nat) (w : World) (hca : la.length ≤ ca) (hcb : lb.length ≤ cb) (hla : la.length ≤ 70368744177663) (hlb : lb.length ≤ 70368744177663) (hra : Rd w a la) (hrb : Rd w b lb) (hma : Lim la) (hmb : Lim lb) (hb : val lb = 0) :
    Calls Tryd.prog 62 #[.agg #[.bool neg, .slice a la.length ca, .slice b lb.length cb]] w fun e w' => e = .returned (.tuple #[.string ⟨#[]⟩, .int .i64 11]) ∧ Keep w w' := by
  have hk : Keep w (w.alloc (Obj.cells #[Value.bool neg, Value.slice a la.length ca, Value.slice b lb.length cb] 47)) := (Keep.refl w).alloc _
  have hbox := Box.new w (Value.bool neg) (Value.slice a la.length ca) (Value.slice b lb.length cb)
  have hO := Over_form neg a b ca cb la lb _ hca hcb hla hlb (hra.keep hk) (hrb.keep hk) hma hmb
  go_enter Tryd.func62, Tryd.ntmps62
  go_wp2_with fail
  refine hO.mono ?_
  rintro e w2 ⟨an, cn, ln, ad, cd, ld, rfl, hcn, hcd, hrn, hrd, hmn, hmd, nn, nd, hvn, hvd, hk2⟩
  have hbox2 := hbox.keep hk2
  obtain ⟨c0, c1, c2⟩ := hbox2.cells
  have f0 := hbox2.free 0
  have f1 := hbox2.free 1
  have f2 := hbox2.free 2
  have hre : RE (val lb) = 11 := by unfold RE; rw [if_pos hb]
  rw [hre]
  clear hO hvn hvd hre
  go_wp2_with fail
  go_ret2
  refine ⟨rfl, ?_⟩
  have := hk.trans hk2
  exact ((this.setCell (Nat.le_refl _) _).setCell (Nat.le_refl _) _).setCell (Nat.le_refl _) _
theorem off_box {w : World} {g : Nat} {a : Option Addr} {l : List Nat} {x : Bool} {p q : Option Addr} {n c m d : Nat} (h : Rd w a l) (hb : Box w g (.bool x) (.slice p n c) (.slice q m d)) : Off g a l := by
  intro b o s e hl he
  subst he
  obtain ⟨b', o', e', hc⟩ := h 0 (List.length_pos_iff.2 hl)
  rw [e] at e'
  simp only [Option.some.injEq, Addr.mk.injEq] at e'
  obtain ⟨rfl, rfl, rfl⟩ := e'
  unfold Box at hb
  rw [cell_of_row w b _ _ 47 (0, 0) hb] at hc
  match o, hc with
  | 0, hc => simp at hc
  | 1, hc => simp at hc
  | 2, hc => simp at hc
  | (k + 3), hc => simp at hc
theorem lenB_few (l : List Nat) (h : l.length ≤ 1048800) (hm : Lim l) : lenB l ≤ 33561600 := by
  have h1 := nl_le l
  unfold lenB
  split
  · omega
  · have h2 := bitLen_le _ (Lim_getD hm (nl l - 1))
    omega
set_option maxRecDepth 100000 in
set_option maxHeartbeats 1600000 in
theorem Write_some (neg : Bool) (a b : Option Addr) (ca cb : Nat) (la lb : List Nat) (w : World) (hca : la.length ≤ ca) (hcb : lb.length ≤ cb) (hla : la.length ≤ 1048576) (hlb : lb.length ≤ 1048576) (hra : Rd w a la) (hrb : Rd w b lb) (hma : Lim la) (hmb : Lim lb) (hb : val lb ≠ 0) :
    Calls Tryd.prog 62 #[.agg #[.bool neg, .slice a la.length ca, .slice b lb.length cb]] w fun e w' => e = .returned (.tuple #[.string (S8 (ratioS (RS neg (val la) (val lb)) (RN (val la) (val lb)) (RD (val la) (val lb)))), .int .i64 0]) ∧ Keep w w' := by
  have hP := Print_any
  have hk : Keep w (w.alloc (Obj.cells #[Value.bool neg, Value.slice a la.length ca, Value.slice b lb.length cb] 47)) := (Keep.refl w).alloc _
  have hbox := Box.new w (Value.bool neg) (Value.slice a la.length ca) (Value.slice b lb.length cb)
  have hO := Over_form neg a b ca cb la lb _ hca hcb (by omega) (by omega) (hra.keep hk) (hrb.keep hk) hma hmb
  have hp : RN (val la) (val lb) ≤ val la := by unfold RN; rw [if_neg hb]; exact Nat.div_le_self _ _
  have hq : RD (val la) (val lb) ≤ val lb := by unfold RD; rw [if_neg hb]; exact Nat.div_le_self _ _
  have hq0 : 0 < RD (val la) (val lb) := by unfold RD; rw [if_neg hb]; exact Nat.div_pos (Nat.gcd_le_right _ (by omega)) (Nat.gcd_pos_of_pos_right _ (by omega))
  have hre : RE (val lb) = 0 := by unfold RE; rw [if_neg hb]
  unfold RatF at hO
  rw [hre] at hO
  clear hre
  have B1 := lenB_few la (by omega) hma
  have B2 := lenB_few lb (by omega) hmb
  generalize RN (val la) (val lb) = p at hO hp ⊢
  generalize RD (val la) (val lb) = q at hO hq hq0 ⊢
  generalize RS neg (val la) (val lb) = sg at hO ⊢
  go_enter Tryd.func62, Tryd.ntmps62
  go_wp2_with fail
  refine hO.mono ?_
  rintro e w2 ⟨an, cn, ln, ad, cd, ld, rfl, hcn, hcd, hrn, hrd, hmn, hmd, nn, nd, hvn, hvd, hk2⟩
  have hbox2 := hbox.keep hk2
  obtain ⟨c0, c1, c2⟩ := hbox2.cells
  have f0 := hbox2.free 0
  have f1 := hbox2.free 1
  have f2 := hbox2.free 2
  clear hO
  go_wp2_with fail
  have hmu : Mut w.heap.size w2 (((w2.setCell { block := w.heap.size, off := 0 } (Value.bool sg)).setCell { block := w.heap.size, off := 1 } (Value.slice an ln.length cn)).setCell { block := w.heap.size, off := 2 } (Value.slice ad ld.length cd)) :=
    (((Mut.refl _ _).setCell _ _).setCell _ _).setCell _ _
  have hbx : Box (((w2.setCell { block := w.heap.size, off := 0 } (Value.bool sg)).setCell { block := w.heap.size, off := 1 } (Value.slice an ln.length cn)).setCell { block := w.heap.size, off := 2 } (Value.slice ad ld.length cd)) w.heap.size (Value.bool sg) (Value.slice an ln.length cn) (Value.slice ad ld.length cd) := by
    exact hbox2.set _ _ _
  have hrn3 := hrn.mut hmu (off_box hrn hbox2)
  have hrd3 := hrd.mut hmu (off_box hrd hbox2)
  generalize ((w2.setCell _ _).setCell _ _).setCell _ _ = w3 at hmu hbx hrn3 hrd3 ⊢
  have hk3 : Keep w w3 := (hk.trans hk2).mut hmu (Nat.le_refl _)
  clear c0 c1 c2 f0 f1 f2 hbox hbox2 hmu hrn hrd
  obtain ⟨c0, c1, c2⟩ := hbx.cells
  have hlb1 := lenB_le (l := ln) hma (by omega)
  have hlb2 := lenB_le (l := ld) hmb (by omega)
  have hll1 := len_le_of_val nn hma (by omega)
  have hll2 := len_le_of_val nd hmb (by omega)
  have hs1 := dec_lenB ln hmn
  have hs2 := dec_lenB ld hmd
  have p1 := hP an cn ln w3 hcn (by omega) hrn3 hmn (by omega)
  have p2 := fun w4 (hk4 : Keep w3 w4) => hP ad cd ld w4 hcd (by omega) (hrd3.keep hk4) hmd (by omega)
  rw [hvn] at p1 hs1
  rw [hvd] at hs2
  have z1 := S8_size (dec p)
  have z2 := S8_size (dec q)
  have hz1 : (S8 (dec p)).size ≤ 1125899906842625 := by omega
  have hz2 : (S8 (dec q)).size ≤ 1125899906842625 := by omega
  have hcmp : cmpL ld [1] = cmpN q 1 := by rw [cmpL_eq ld [1] hmd (by intro x hx; simp at hx; omega) nd (by simp [Nrm]), hvd]; simp [val]
  rw [hvd] at p2
  clear z1 z2 hs1 hs2 hvn hvd hp hq hlb1 hlb2
  refine p1.mono ?_
  rintro e w4 ⟨rfl, hk4⟩
  obtain ⟨d0, d1, d2⟩ := (hbx.keep hk4).cells
  clear c0 c1 c2 p1
  have hk04 := hk3.trans hk4
  have hrow5 : Row (w4.alloc (Obj.cells #[Value.int IntKind.u32 1] 62)) w4.heap.size [1] := by
    unfold Row; rw [heap_alloc_new]; simp [U]
  have hk5 : Keep w4 (w4.alloc (Obj.cells #[Value.int IntKind.u32 1] 62)) := (Keep.refl w4).alloc _
  have hc := compare_any ad (some ⟨w4.heap.size, 0, none⟩) cd 1 ld [1] _ (by omega) (by simp) ((hrd3.keep hk4).keep hk5) hrow5.rd0
  rw [hcmp] at hc
  clear hcmp
  have hbx5 := (hbx.keep hk4).keep hk5
  have hk35 := hk4.trans hk5
  by_cases hq1 : q = 1
  · have hc1 : cmpN q 1 = 0 := by rw [hq1]; rfl
    rw [hc1] at hc
    have HF : Hid (S8 (ratioS false p q) = S8 (dec p)) := by show _ = _; unfold ratioS; rw [if_pos hq1]; simp
    have HT : Hid (S8 (ratioS true p q) = (⟨#[45]⟩ : ByteArray) ++ S8 (dec p)) := by show _ = _; unfold ratioS; rw [if_pos hq1]; simp [S8_cons]
    clear hc1 hq1
    cases sg
    all_goals
      go_wp2_with fail
      refine hc.mono ?_
      rintro e w6 ⟨rfl, hd6⟩
      go_wp2_with fail
      go_ret2
      exact ⟨by first | (rw [HF.out]; rfl) | (rw [HT.out]; rfl), (hk04.trans hk5).trans hd6.keep⟩
  · have hc1 : cmpN q 1 = 1 := by unfold cmpN; rw [if_neg (by omega), if_pos (by omega)]
    rw [hc1] at hc
    have HF : Hid (S8 (ratioS false p q) = S8 (dec p) ++ ((⟨#[47]⟩ : ByteArray) ++ S8 (dec q))) := by show _ = _; unfold ratioS; rw [if_neg hq1]; simp [S8_append, S8_cons]
    have HT : Hid (S8 (ratioS true p q) = (⟨#[45]⟩ : ByteArray) ++ S8 (dec p) ++ ((⟨#[47]⟩ : ByteArray) ++ S8 (dec q))) := by show _ = _; unfold ratioS; rw [if_neg hq1]; simp [S8_append, S8_cons, ByteArray.append_assoc]
    clear hc1 hq1
    cases sg
    all_goals
      go_wp2_with fail
      refine hc.mono ?_
      rintro e w6 ⟨rfl, hd6⟩
      obtain ⟨d0', d1', d2'⟩ := (hbx5.keep hd6.keep).cells
      clear d0 d1 d2
      go_wp2_with fail
      refine (p2 w6 (hk35.trans hd6.keep)).mono ?_
      rintro e w7 ⟨rfl, hk7⟩
      clear d0' d1' d2'
      go_wp2_with fail
      go_ret2
      exact ⟨by first | (rw [HF.out]; rfl) | (rw [HT.out]; rfl), ((hk04.trans hk5).trans hd6.keep).trans hk7⟩
end Go.Proofs.YtbjidpooociamaaDoor
