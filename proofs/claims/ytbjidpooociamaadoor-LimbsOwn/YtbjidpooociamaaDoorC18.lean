import Derived.Test.YtbjidpooociamaaDoorC17
set_option linter.unusedVariables false
set_option linter.unusedSimpArgs false
namespace Go.Proofs.YtbjidpooociamaaDoor
open Go.RowKit Lb
theorem pow_dec_aux (A B n m : Nat) (h : 2 ^ A < 10 ^ B) (hm : B * n ≤ (m + 1) * A) (h0 : n ≠ 0) : 2 ^ n < 10 ^ (m + 1) := by
  rcases Nat.lt_or_ge (2 ^ n) (10 ^ (m + 1)) with h' | h'
  · exact h'
  · exfalso
    have h1 := Nat.pow_le_pow_left h' A
    rw [← Nat.pow_mul, ← Nat.pow_mul] at h1
    have h2 := Nat.pow_lt_pow_left h h0
    rw [← Nat.pow_mul, ← Nat.pow_mul] at h2
    have h3 : (10 : Nat) ^ (B * n) ≤ 10 ^ ((m + 1) * A) := Nat.pow_le_pow_right (by omega) hm
    rw [Nat.mul_comm n A] at h1
    omega
set_option maxRecDepth 100000 in
theorem pow_big : (2 : Nat) ^ 100000 < 10 ^ 30103 := by decide +kernel
theorem pow_dec (n : Nat) : 2 ^ n < 10 ^ (n * 30103 / 100000 + 1) := by
  by_cases h0 : n = 0
  · subst h0; decide
  · exact pow_dec_aux 100000 30103 n _ pow_big (by omega) h0
theorem val_lt_len (l : List Nat) (hm : Lim l) : val l < 2 ^ lenB l := by
  rw [← val_take_nl l]
  unfold lenB
  by_cases h : nl l = 0
  · rw [if_pos h, h]; simp [val]
  · rw [if_neg h]
    obtain ⟨m, hm'⟩ : ∃ m, nl l = m + 1 := ⟨nl l - 1, by omega⟩
    rw [hm', Nat.add_sub_cancel, val_take_succ, Nat.pow_add, Nat.pow_mul]
    have h1 := (bitLen_spec (l.getD m 0)).1
    have h2 := val_lt (Lim_take hm m)
    have h3 : (l.take m).length ≤ m := by simp; omega
    have h4 : 4294967296 ^ (l.take m).length ≤ 4294967296 ^ m := Nat.pow_le_pow_right (by omega) h3
    have h5 := Nat.mul_le_mul_left (4294967296 ^ m) (show l.getD m 0 + 1 ≤ 2 ^ bitLen (l.getD m 0) from h1)
    rw [show (2 : Nat) ^ 32 = 4294967296 from rfl]
    rw [Nat.mul_add, Nat.mul_comm (4294967296 ^ m) (l.getD m 0)] at h5
    omega
/-- What Print does, up to so many bits. -/
def PrintSaid (N : Nat) : Prop := ∀ (a : Option Addr) (ca : Nat) (l : List Nat) (w : World), l.length ≤ ca → l.length ≤ 70368744177663 → Rd w a l → Lim l → lenB l ≤ N →
    Calls Tryd.prog 29 #[.slice a l.length ca] w fun e w' => e = .returned (.string (S8 (dec (val l)))) ∧ Keep w w'
theorem print_900 : PrintSaid 900 := fun a ca l w h1 h2 h3 h4 h5 =>
  Print_few a ca l w h1 (by omega) h3 h4 h5 (Nat.lt_trans (val_lt_len l h4) (pow_dec _))
theorem NatR.res {B : Nat} {w : World} {v : Value} {n : Nat} (h : NatR B w v n) {l : List Nat} (hl : Lim l) (hn : Nrm l) (hv : val l = n) : Res B w v l := by
  obtain ⟨r, h1, h2, h3, h4⟩ := h
  have : r = l := val_inj h2 hl h3 hn (by omega)
  rw [← this]; exact h1
theorem NatR.arg {B : Nat} {w : World} {v : Value} {n : Nat} (h : NatR B w v n) {l : List Nat} (hl : Lim l) (hn : Nrm l) (hv : val l = n) : ∃ a c, v = .slice a l.length c ∧ l.length ≤ c ∧ Rd w a l := (h.res hl hn hv).shape
theorem Res.rd {B : Nat} {w : World} {a : Option Addr} {n c : Nat} {l : List Nat} (h : Res B w (.slice a n c) l) : Rd w a l := by
  obtain ⟨a', c', e, -, hr⟩ := h.shape
  simp at e
  rw [e.1]; exact hr
theorem Box.set {w : World} {g : Nat} {x y z : Value} (h : Box w g x y z) (x' y' z' : Value) : Box (((w.setCell ⟨g, 0, none⟩ x').setCell ⟨g, 1, none⟩ y').setCell ⟨g, 2, none⟩ z') g x' y' z' := by
  have h0 := heap_setCell_same w g 0 _ 47 x' h
  have h1 := heap_setCell_same _ g 1 _ 47 y' h0
  have h2 := heap_setCell_same _ g 2 _ 47 z' h1
  unfold Box
  rw [h2]
  simp
theorem val_ge_len (l : List Nat) (h : nl l ≠ 0) : 2 ^ (lenB l - 1) ≤ val l := by
  rw [← val_take_nl l]
  unfold lenB
  rw [if_neg h]
  obtain ⟨m, hm'⟩ : ∃ m, nl l = m + 1 := ⟨nl l - 1, by omega⟩
  have ht := nl_top l (by omega)
  rw [hm', Nat.add_sub_cancel] at ht ⊢
  rw [val_take_succ]
  have h1 := (bitLen_spec (l.getD m 0)).2 ht
  have hb : 1 ≤ bitLen (l.getD m 0) := by
    unfold bitLen; rw [if_neg ht]; omega
  rw [show 32 * m + bitLen (l.getD m 0) - 1 = 32 * m + (bitLen (l.getD m 0) - 1) from by omega, Nat.pow_add, Nat.pow_mul, show (2 : Nat) ^ 32 = 4294967296 from rfl]
  have := Nat.mul_le_mul_left (4294967296 ^ m) h1
  rw [Nat.mul_comm (4294967296 ^ m) (l.getD m 0)] at this
  omega
theorem lenB_le {l m : List Nat} (hm : Lim m) (h : val l ≤ val m) : lenB l ≤ lenB m := by
  by_cases h0 : nl l = 0
  · unfold lenB; rw [if_pos h0]; omega
  · rcases Nat.lt_or_ge (lenB m) (lenB l) with h1 | h1
    · have h2 := val_ge_len l h0
      have h3 := val_lt_len m hm
      have h4 : 2 ^ lenB m ≤ 2 ^ (lenB l - 1) := Nat.pow_le_pow_right (by omega) (by omega)
      omega
    · exact h1
theorem len_le_of_val {l m : List Nat} (nl : Nrm l) (hm : Lim m) (h : val l ≤ val m) : l.length ≤ m.length := by
  rcases Nat.lt_or_ge m.length l.length with h1 | h1
  · have := len_lt_val hm nl h1; omega
  · exact h1
theorem dec_len (n k : Nat) (h : n < 10 ^ k) (hk : 1 ≤ k) : (dec n).length ≤ k := by
  unfold dec
  split
  · simpa using hk
  · rw [← cut0_eq n k h]
    have h1 : (cut0 (dw k n)).length ≤ (dw k n).length := by
      unfold cut0
      generalize dw k n = l
      induction l with
      | nil => simp
      | cons x xs ih => rw [List.dropWhile_cons]; split <;> simp; omega
    rw [dw_length] at h1
    exact h1
theorem dec_lenB (l : List Nat) (hm : Lim l) : (dec (val l)).length ≤ lenB l + 1 := by
  refine Nat.le_trans (dec_len (val l) (lenB l * 30103 / 100000 + 1) (Nat.lt_trans (val_lt_len l hm) (pow_dec _)) (by omega)) ?_
  omega
theorem S8_append (l r : List Nat) : S8 (l ++ r) = S8 l ++ S8 r := by
  apply ByteArray.ext
  simp [S8]
theorem S8_cons (x : Nat) (l : List Nat) : S8 (x :: l) = (⟨#[UInt8.ofNat x]⟩ : ByteArray) ++ S8 l := by
  apply ByteArray.ext
  simp [S8]
/-- How a quotient is written. -/
def ratioS (neg : Bool) (n d : Nat) : List Nat := (if neg then [45] else []) ++ dec n ++ (if d = 1 then [] else 47 :: dec d)
set_option maxRecDepth 100000 in
set_option maxHeartbeats 1600000 in
theorem Write_any (K N : Nat) (hD : DivideSaid K) (hG : DivisorSaid K) (hP : PrintSaid N) (neg : Bool) (a b : Option Addr) (ca cb : Nat) (la lb : List Nat) (w : World) (hca : la.length ≤ ca) (hcb : lb.length ≤ cb) (hla : la.length ≤ 70368744177663) (hlb : lb.length ≤ 70368744177663) (hra : Rd w a la) (hrb : Rd w b lb)
    (hma : Lim la) (hmb : Lim lb) (hb0 : nl lb ≠ 0) (ha0 : nl la ≠ 0) (hK : nl lb ≤ K) (hna : lenB la ≤ N) (hnb : lenB lb ≤ N) (hN : N ≤ 1125899906842624) :
    Calls Tryd.prog 62 #[.agg #[.bool neg, .slice a la.length ca, .slice b lb.length cb]] w fun e w' => e = .returned (.tuple #[.string (S8 (ratioS neg (val la / Nat.gcd (val la) (val lb)) (val lb / Nat.gcd (val la) (val lb)))), .int .i64 0]) ∧ Keep w w' := by
  have hk : Keep w (w.alloc (Obj.cells #[Value.bool neg, Value.slice a la.length ca, Value.slice b lb.length cb] 47)) := (Keep.refl w).alloc _
  have hbox := Box.new w (Value.bool neg) (Value.slice a la.length ca) (Value.slice b lb.length cb)
  have hO := Over_any K hD hG neg a b ca cb la lb _ hca hcb hla hlb (hra.keep hk) (hrb.keep hk) hma hmb hb0 ha0 hK
  have vb0 : 0 < val lb := by
    rw [← val_take_nl lb]
    have h1 := val_ge (Nrm_take lb) (by intro h; have h1 : (lb.take (nl lb)).length = nl lb := (by have := nl_le lb; simp; omega); rw [h] at h1; simp at h1; omega)
    have h2 : 0 < 4294967296 ^ ((lb.take (nl lb)).length - 1) := Nat.pos_of_ne_zero (by simp)
    omega
  have hp := Nat.div_le_self (val la) (Nat.gcd (val la) (val lb))
  have hq := Nat.div_le_self (val lb) (Nat.gcd (val la) (val lb))
  have hq0 : 0 < val lb / Nat.gcd (val la) (val lb) := Nat.div_pos (Nat.gcd_le_right _ vb0) (Nat.gcd_pos_of_pos_right _ vb0)
  generalize val la / Nat.gcd (val la) (val lb) = p at hO hp ⊢
  generalize val lb / Nat.gcd (val la) (val lb) = q at hO hq hq0 ⊢
  go_enter Tryd.func62, Tryd.ntmps62
  go_wp2_with fail
  refine hO.mono ?_
  rintro e w2 ⟨vn, vd, rfl, hn, hd, hk2⟩
  obtain ⟨an, cn, ln, rfl, hcn, hrn, hmn, nn, hvn, hresn⟩ := hn.shape
  obtain ⟨ad, cd, ld, rfl, hcd, hrd, hmd, nd, hvd, hresd⟩ := hd.shape
  have hbox2 := hbox.keep hk2
  obtain ⟨c0, c1, c2⟩ := hbox2.cells
  have f0 := hbox2.free 0
  have f1 := hbox2.free 1
  have f2 := hbox2.free 2
  clear hO
  go_wp2_with fail
  have hs0 : w.heap.size < w2.heap.size := (Array.getElem?_eq_some_iff.1 hbox2).1
  have hsk := hk2.le
  have hsa : (w.alloc (Obj.cells #[Value.bool neg, Value.slice a la.length ca, Value.slice b lb.length cb] 47)).heap.size = w.heap.size + 1 := by simp
  rw [hsa] at hsk hresn hresd
  have hmu : Mut w.heap.size w2 (((w2.setCell { block := w.heap.size, off := 0 } (Value.bool neg)).setCell { block := w.heap.size, off := 1 } (Value.slice an ln.length cn)).setCell { block := w.heap.size, off := 2 } (Value.slice ad ld.length cd)) :=
    (((Mut.refl _ _).setCell _ _).setCell _ _).setCell _ _
  have hbx : Box (((w2.setCell { block := w.heap.size, off := 0 } (Value.bool neg)).setCell { block := w.heap.size, off := 1 } (Value.slice an ln.length cn)).setCell { block := w.heap.size, off := 2 } (Value.slice ad ld.length cd)) w.heap.size (Value.bool neg) (Value.slice an ln.length cn) (Value.slice ad ld.length cd) := by
    exact hbox2.set _ _ _
  generalize ((w2.setCell _ _).setCell _ _).setCell _ _ = w3 at hmu hbx ⊢
  have hk3 : Keep w w3 := (hk.trans hk2).mut hmu (Nat.le_refl _)
  have hrn3 := (hresn.mut hmu (by omega)).rd
  have hrd3 := (hresd.mut hmu (by omega)).rd
  clear c0 c1 c2 f0 f1 f2 hbox hbox2 hresn hresd hmu hrn hrd hn hd
  obtain ⟨c0, c1, c2⟩ := hbx.cells
  have hlb1 := lenB_le (l := ln) hma (by omega)
  have hlb2 := lenB_le (l := ld) hmb (by omega)
  have hll1 := len_le_of_val nn hma (by omega)
  have hll2 := len_le_of_val nd hmb (by omega)
  have hs1 := dec_lenB ln hmn
  have hs2 := dec_lenB ld hmd
  have p1 := hP an cn ln w3 hcn (by omega) hrn3 hmn (by omega)
  have p2 := fun w4 (hk4 : Keep w3 w4) => hP ad cd ld w4 hcd (by omega) (hrd3.keep hk4) hmd (by omega)
  rw [hvn] at p1 hs1
  rw [hvd] at hs2
  have z1 := S8_size (dec p)
  have z2 := S8_size (dec q)
  have hz1 : (S8 (dec p)).size ≤ 1125899906842625 := by omega
  have hz2 : (S8 (dec q)).size ≤ 1125899906842625 := by omega
  have hcmp : cmpL ld [1] = cmpN q 1 := by rw [cmpL_eq ld [1] hmd (by intro x hx; simp at hx; omega) nd (by simp [Nrm]), hvd]; simp [val]
  rw [hvd] at p2
  clear z1 z2 hs1 hs2 hvn hvd hp hq hlb1 hlb2
  refine p1.mono ?_
  rintro e w4 ⟨rfl, hk4⟩
  obtain ⟨d0, d1, d2⟩ := (hbx.keep hk4).cells
  clear c0 c1 c2 p1
  have hk04 := hk3.trans hk4
  have hrow5 : Row (w4.alloc (Obj.cells #[Value.int IntKind.u32 1] 62)) w4.heap.size [1] := by
    unfold Row; rw [heap_alloc_new]; simp [U]
  have hk5 : Keep w4 (w4.alloc (Obj.cells #[Value.int IntKind.u32 1] 62)) := (Keep.refl w4).alloc _
  have hc := compare_any ad (some ⟨w4.heap.size, 0, none⟩) cd 1 ld [1] _ (by omega) (by simp) ((hrd3.keep hk4).keep hk5) hrow5.rd0
  rw [hcmp] at hc
  clear hcmp
  have hbx5 := (hbx.keep hk4).keep hk5
  have hk35 := hk4.trans hk5
  by_cases hq1 : q = 1
  · have hc1 : cmpN q 1 = 0 := by rw [hq1]; rfl
    rw [hc1] at hc
    have HF : Hid (S8 (ratioS false p q) = S8 (dec p)) := by show _ = _; unfold ratioS; rw [if_pos hq1]; simp
    have HT : Hid (S8 (ratioS true p q) = (⟨#[45]⟩ : ByteArray) ++ S8 (dec p)) := by show _ = _; unfold ratioS; rw [if_pos hq1]; simp [S8_cons]
    clear hc1 hq1
    cases neg
    all_goals
      go_wp2_with fail
      refine hc.mono ?_
      rintro e w6 ⟨rfl, hd6⟩
      go_wp2_with fail
      go_ret2
      exact ⟨by first | (rw [HF.out]; rfl) | (rw [HT.out]; rfl), (hk04.trans hk5).trans hd6.keep⟩
  · have hc1 : cmpN q 1 = 1 := by unfold cmpN; rw [if_neg (by omega), if_pos (by omega)]
    rw [hc1] at hc
    have HF : Hid (S8 (ratioS false p q) = S8 (dec p) ++ ((⟨#[47]⟩ : ByteArray) ++ S8 (dec q))) := by show _ = _; unfold ratioS; rw [if_neg hq1]; simp [S8_append, S8_cons]
    have HT : Hid (S8 (ratioS true p q) = (⟨#[45]⟩ : ByteArray) ++ S8 (dec p) ++ ((⟨#[47]⟩ : ByteArray) ++ S8 (dec q))) := by show _ = _; unfold ratioS; rw [if_neg hq1]; simp [S8_append, S8_cons, ByteArray.append_assoc]
    clear hc1 hq1
    cases neg
    all_goals
      go_wp2_with fail
      refine hc.mono ?_
      rintro e w6 ⟨rfl, hd6⟩
      obtain ⟨d0', d1', d2'⟩ := (hbx5.keep hd6.keep).cells
      clear d0 d1 d2
      go_wp2_with fail
      refine (p2 w6 (hk35.trans hd6.keep)).mono ?_
      rintro e w7 ⟨rfl, hk7⟩
      clear d0' d1' d2'
      go_wp2_with fail
      go_ret2
      exact ⟨by first | (rw [HF.out]; rfl) | (rw [HT.out]; rfl), ((hk04.trans hk5).trans hd6.keep).trans hk7⟩
end Go.Proofs.YtbjidpooociamaaDoor
