import Derived.Test.YtbjidpooociamaaDoorN1
import Derived.Test.YtbjidpooociamaaDoorJ4
import Derived.Deep.RegionHeld3
set_option linter.unusedVariables false
set_option linter.unusedSimpArgs false
namespace Go.Proofs.YtbjidpooociamaaDoor
open Go.RowKit Lb
theorem nl_all {l : List Nat} (hm : Lim l) (h : Nrm l) : l.take (nl l) = l := val_inj (Lim_take hm _) hm (Nrm_take l) h (val_take_nl l)
theorem few_one {l : List Nat} (h : Nrm l) (e : val l = 1) : l.length ≤ 1 := by
  rcases Nat.lt_or_ge 1 l.length with h1 | h1
  · have h2 := val_ge h (by intro h0; rw [h0] at h1; simp at h1)
    have h3 : 4294967296 ^ 1 ≤ 4294967296 ^ (l.length - 1) := Nat.pow_le_pow_right (by omega) (by omega)
    omega
  · exact h1
set_option maxRecDepth 100000 in
set_option maxHeartbeats 1600000 in
theorem rWrite_zero (neg : Bool) (a b : Option Addr) (ca cb : Nat) (la lb : List Nat) (w : World) (hca : la.length ≤ ca) (hcb : lb.length ≤ cb) (hla : la.length ≤ 1048576) (hlb : lb.length ≤ 1048576) (hra : Rd w a la) (hrb : Rd w b lb) (hma : Lim la) (hmb : Lim lb) (hb : val lb = 0) :
    Calls Tryd.prog 63 #[.agg #[.bool neg, .slice a la.length ca, .slice b lb.length cb]] w fun e w' => e = .returned (.tuple #[.string ⟨#[]⟩, .int .i64 11]) ∧ Keep w w' := by
  have hre : RE (val lb) = 11 := by unfold RE; rw [if_pos hb]
  have hO := fun wx (k : Keep w wx) => rOver_form neg a b ca cb la lb wx hca hcb (by omega) (by omega) (hra.keep k) (hrb.keep k) hma hmb
  unfold RatF at hO
  rw [hre] at hO
  have hk : Keep w (w.alloc (Obj.cells #[Value.bool neg, Value.slice a la.length ca, Value.slice b lb.length cb] 47)) := (Keep.refl w).alloc _
  go_enter Tryd.func63, Tryd.ntmps63
  go_wp2_with fail
  refine (hO _ hk).mono ?_
  rintro e w2 ⟨an, cn, ln, ad, cd, ld, rfl, hcn, hcd, hrn, hrd, hmn, hmd, nn, nd, hvn, hvd, hk2⟩
  clear hO
  go_wp2_with fail
  go_ret2
  refine ⟨rfl, ?_⟩
  first | exact hk.trans hk2 | exact (hk.trans hk2).alloc _
set_option maxRecDepth 100000 in
set_option maxHeartbeats 1600000 in
theorem rWrite_some (neg : Bool) (a b : Option Addr) (ca cb : Nat) (la lb : List Nat) (w : World) (hca : la.length ≤ ca) (hcb : lb.length ≤ cb) (hla : la.length ≤ 1048576) (hlb : lb.length ≤ 1048576) (hra : Rd w a la) (hrb : Rd w b lb) (hma : Lim la) (hmb : Lim lb) (hb : val lb ≠ 0) :
    Calls Tryd.prog 63 #[.agg #[.bool neg, .slice a la.length ca, .slice b lb.length cb]] w fun e w' => e = .returned (.tuple #[.string (S8 (ratioS (RS neg (val la) (val lb)) (RN (val la) (val lb)) (RD (val la) (val lb)))), .int .i64 0]) ∧ Keep w w' := by
  have hre : RE (val lb) = 0 := by unfold RE; rw [if_neg hb]
  have hO := fun wx (k : Keep w wx) => rOver_form neg a b ca cb la lb wx hca hcb (by omega) (by omega) (hra.keep k) (hrb.keep k) hma hmb
  unfold RatF at hO
  rw [hre] at hO
  have hp : RN (val la) (val lb) ≤ val la := by unfold RN; rw [if_neg hb]; exact Nat.div_le_self _ _
  have hq : RD (val la) (val lb) ≤ val lb := by unfold RD; rw [if_neg hb]; exact Nat.div_le_self _ _
  generalize RN (val la) (val lb) = p at hO hp ⊢
  generalize RD (val la) (val lb) = q at hO hq ⊢
  generalize RS neg (val la) (val lb) = sg at hO ⊢
  have hk : Keep w (w.alloc (Obj.cells #[Value.bool neg, Value.slice a la.length ca, Value.slice b lb.length cb] 47)) := (Keep.refl w).alloc _
  go_enter Tryd.func63, Tryd.ntmps63
  go_wp2_with fail
  refine (hO _ hk).mono ?_
  rintro e w2 ⟨an, cn, ln, ad, cd, ld, rfl, hcn, hcd, hrn, hrd, hmn, hmd, nn, nd, hvn, hvd, hk2⟩
  clear hO
  go_wp2_with fail
  have hk3 : Keep w2 (w2.alloc (Obj.cells #[Value.bool sg, Value.slice an ln.length cn, Value.slice ad ld.length cd] 47)) := (Keep.refl w2).alloc _
  have hbx := Box.new w2 (Value.bool sg) (Value.slice an ln.length cn) (Value.slice ad ld.length cd)
  generalize w2.alloc _ = w3 at hk3 hbx ⊢
  generalize w2.heap.size = g at hbx ⊢
  have hll1 := len_le_of_val nn hma (by omega)
  have hll2 := len_le_of_val nd hmb (by omega)
  have p1 := rPrint_any an cn ln w3 hcn (by omega) (hrn.keep hk3) hmn
  have p2 := fun w4 (k : Keep w3 w4) => rPrint_any ad cd ld w4 hcd (by omega) ((hrd.keep hk3).keep k) hmd
  have hs1 := dec_lenB ln hmn
  have hs2 := dec_lenB ld hmd
  have hb1 := lenB_few ln (by omega) hmn
  have hb2 := lenB_few ld (by omega) hmd
  rw [hvn] at p1 hs1
  rw [hvd] at p2 hs2
  have hz1 : (S8 (dec p)).size ≤ 33561601 := by rw [S8_size]; omega
  have hz2 : (S8 (dec q)).size ≤ 33561601 := by rw [S8_size]; omega
  clear hs1 hs2 hvn hp hq
  refine p1.mono ?_
  rintro e w4 ⟨rfl, hk4⟩
  obtain ⟨d0, d1, d2⟩ := (hbx.keep hk4).cells
  have hF := fun wx => (show Calls Tryd.prog 20 #[.int .u64 1] wx _ from rFrom_any 1 wx (by omega))
  have hCm : ∀ (w5 : World) (a5 : Option Addr) (c5 : Nat) (l5 : List Nat), Keep w4 w5 → l5.length ≤ c5 → Rd w5 a5 l5 → Lim l5 → Nrm l5 → val l5 = 1 → Calls Tryd.prog 22 #[.slice ad ld.length cd, .slice a5 l5.length c5] w5 fun e w' => e = .returned (.int .i64 (cmpN q 1)) ∧ Keep w5 w' := by
    intro w5 a5 c5 l5 k h1 h2 h3 h4 h5
    have h6 := few_one h4 h5
    have h := rCmp_any ad a5 cd c5 ld l5 w5 hcd h1 (by omega) (by omega) (((hrd.keep hk3).keep hk4).keep k) h2
    rw [nl_all hmd nd, nl_all h3 h4, cmpL_eq ld l5 hmd h3 nd h4, hvd, h5] at h
    exact h
  have k4d : Keep w4 w4.drew := (Keep.refl w4).drew
  clear p1
  cases sg
  all_goals
    go_wp2_with fail
    go_region_held3 (fun w' => w'.cell? ⟨g, 2, none⟩ = some (Value.slice ad ld.length cd)) (go_keep) (first
      | (go_at_call 20; refine (hF _).mono ?_; rintro e w5 ⟨v5, l5, rfl, o5, m5, n5, e5, k5⟩; obtain ⟨a5, c5, rfl, hc5, r5⟩ := o5.shape; have k45 := k4d.trans k5; have x0 := Keep.cell k5 d0; have x1 := Keep.cell k5 d1; have x2 := Keep.cell k5 d2)
      | (go_at_call 22; refine (hCm _ _ _ _ k45 hc5 r5 m5 n5 e5).mono ?_; rintro e w6 ⟨rfl, k6⟩; have y0 := Keep.cell k6 x0; have y1 := Keep.cell k6 x1; have y2 := Keep.cell k6 x2))
    go_simp
    have k46 := hk4.trans (k45.trans k6)
    by_cases hq1 : q = 1
    · have hc1 : cmpN q 1 = 0 := by rw [hq1]; rfl
      have HF : Hid (S8 (ratioS false p q) = S8 (dec p)) := by show _ = _; unfold ratioS; rw [if_pos hq1]; simp
      have HT : Hid (S8 (ratioS true p q) = (⟨#[45]⟩ : ByteArray) ++ S8 (dec p)) := by show _ = _; unfold ratioS; rw [if_pos hq1]; simp [S8_cons]
      rw [hc1] at *
      clear hc1 hq1 hCm
      go_wp2_with fail
      go_ret2
      exact ⟨by first | (rw [HF.out]; rfl) | (rw [HT.out]; rfl), (hk.trans hk2).trans (hk3.trans k46)⟩
    · have hc1 : ∃ c : Int, cmpN q 1 = c ∧ c ≠ 0 := by
        refine ⟨_, rfl, ?_⟩
        unfold cmpN
        split
        · omega
        · split <;> omega
      obtain ⟨c, hc1, hc0⟩ := hc1
      have HF : Hid (S8 (ratioS false p q) = S8 (dec p) ++ (⟨#[47]⟩ : ByteArray) ++ S8 (dec q)) := by show _ = _; unfold ratioS; rw [if_neg hq1]; simp [S8_append, S8_cons, ByteArray.append_assoc]
      have HT : Hid (S8 (ratioS true p q) = (⟨#[45]⟩ : ByteArray) ++ S8 (dec p) ++ (⟨#[47]⟩ : ByteArray) ++ S8 (dec q)) := by show _ = _; unfold ratioS; rw [if_neg hq1]; simp [S8_append, S8_cons, ByteArray.append_assoc]
      rw [hc1] at *
      have hcb : (c == 0) = false := by rw [beq_eq_false_iff_ne]; exact hc0
      clear hc1 hq1 hCm
      go_wp2_with fail
      refine (p2 w6 k46).mono ?_
      rintro e w7 ⟨rfl, k7⟩
      go_wp2_with fail
      go_ret2
      exact ⟨by first | (rw [HF.out]; rfl) | (rw [HT.out]; rfl), ((hk.trans hk2).trans (hk3.trans k46)).trans k7⟩
end Go.Proofs.YtbjidpooociamaaDoor
