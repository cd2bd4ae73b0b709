import Derived.Test.YtinjikoocegooaaGreatDoorProg
import Derived.Test.YtinjikoocegooaaGreatDoorLC10
import Derived.Test.YtinjikoocegooaaGreatDoorShelf
import Derived.Test.YtinjikoocegooaaGreatDoorZLC6
import Derived.WalkKit
import Derived.WalkSpells
import Derived.WalkLawsBesides
import Derived.Laws.CopyOwn
import Derived.Deep.Draws
import Derived.Deep.QuietTactic
import Derived.BigQuiet
import Derived.Laws.MathBits
import Derived.Shelf.Small.Bits
import Derived.Laws.BytesArg
import Derived.Lib.OthersKept
set_option linter.unusedVariables false
set_option linter.unusedSimpArgs false
namespace Go.Proofs.YtinjikoocegooaaGreatDoor.Li
open Go.RowKit Lb
theorem bitLen_aux : ∀ (f x : Nat), x < 2 ^ f → Lib.bitLenAux f x = bitLen x
  | 0, x, h => by simp at h; subst h; rfl
  | f + 1, x, h => by
    unfold Lib.bitLenAux
    by_cases h0 : x = 0
    · subst h0; rfl
    · rw [if_neg h0, bitLen_aux f (x / 2) (by rw [Nat.pow_succ] at h; omega), bitLen_half x (by omega)]; omega
theorem bitLen_lib (x : Nat) (h : x < 18446744073709551616) : Lib.bitLen x = bitLen x := bitLen_aux 64 x h
set_option maxRecDepth 100000 in
set_option maxHeartbeats 400000 in
theorem Len_any (a : Option Addr) (c : Nat) (l : List Nat) (w : World) (hnc : l.length ≤ c) (hl : l.length ≤ 70368744177664) (hr : Rd w a l) (hm : Lim l) :
    Calls Tryz.prog 99 #[.slice a l.length c] w fun e w' => e = .returned (.int .i64 (lenB l : Nat)) ∧ Dr w w' := by
  have h1 := nl_le l
  have t1 := trim_any a c l w hnc (by omega) hr
  by_cases h0 : nl l = 0
  · have hb : ((nl l : Int) == 0) = true := by simp; omega
    have he : Hid (lenB l = 0) := by show _ = _; unfold lenB; rw [if_pos h0]
    clear h0
    go_enter Tryz.func99, Tryz.ntmps99
    go_wp2_with fail
    refine t1.mono ?_
    rintro e w' ⟨rfl, rfl⟩
    go_wp2
    go_ret
    exact ⟨ret_int (by rw [he.out]; rfl), Dr.refl _⟩
  · obtain ⟨m, hm'⟩ : ∃ m, nl l = m + 1 := ⟨nl l - 1, by omega⟩
    obtain ⟨x, hx⟩ : ∃ x, l.getD m 0 = x := ⟨_, rfl⟩
    have hxl : x < 4294967296 := hx ▸ Lim_getD hm _
    have he : Hid (lenB l = 32 * m + bitLen x) := by show _ = _; unfold lenB; rw [if_neg h0, hm', Nat.add_sub_cancel, hx]
    have hbl := bitLen_le x hxl
    have hb2 : (((m : Int) + 1) == 0) = false := by simp; omega
    obtain ⟨b, o, rfl, hc⟩ := hr m (by omega)
    rw [hx] at hc
    rw [hm'] at t1
    have hml : m ≤ 70368744177664 := by omega
    clear hx h0 hr hm'
    have hL := Tryz.bits_Len32 (x : Nat) w (by omega) (by omega)
    rw [show ((x : Int)).toNat = x from rfl, bitLen_lib x (by omega)] at hL
    go_enter Tryz.func99, Tryz.ntmps99
    go_wp2_with fail
    refine t1.mono ?_
    rintro e w' ⟨rfl, rfl⟩
    go_wp2_with (go_at_call 101; refine hL.mono ?_; rintro e w'' ⟨rfl, rfl⟩)
    go_ret
    exact ⟨ret_int (by rw [he.out]; omega), Dr.refl _⟩
end Go.Proofs.YtinjikoocegooaaGreatDoor.Li
set_option linter.unusedVariables false
set_option linter.unusedSimpArgs false
namespace Go.Proofs.YtinjikoocegooaaGreatDoor.Li
open Go.RowKit Lb
theorem set_mid (r q : List Nat) (m y : Nat) (h : m < r.length) : (r.take (m + 1) ++ q).set m y = r.take m ++ (y :: q) := by
  rw [take_snoc r m h, List.append_assoc]
  have e : (r.take m).length = m := by simp; omega
  rw [List.set_append_right _ _ (by omega), e, Nat.sub_self]
  rfl
theorem get_mid (r q : List Nat) (m : Nat) (h : m < r.length) : (r.take (m + 1) ++ q).getD m 0 = r.getD m 0 := by
  have e : m < (r.take (m + 1)).length := by simp; omega
  simp only [List.getD]
  rw [List.getElem?_append_left e, List.getElem?_take_of_lt (by omega)]
theorem divStep (v q c by' x : Nat) (h0 : 0 < by') (hq : q = v / by') (hc : c = v % by') :
    ((c * 4294967296 + x) / by') + 4294967296 * q = (x + 4294967296 * v) / by' ∧ (c * 4294967296 + x) % by' = (x + 4294967296 * v) % by' := by
  have hv : v = by' * q + c := by rw [hq, hc]; exact (Nat.div_add_mod v by').symm
  have e : x + 4294967296 * v = (c * 4294967296 + x) + by' * (4294967296 * q) := by
    rw [hv, Nat.mul_add, Nat.mul_left_comm]; omega
  rw [e, Nat.add_mul_div_left _ _ h0, Nat.add_mul_mod_self_left]
  exact ⟨rfl, rfl⟩
set_option maxRecDepth 100000 in
set_option maxHeartbeats 400000 in
theorem divideSmall_any (g c n by' : Nat) (r : List Nat) (w : World) (hrl : r.length ≤ 70368744177664) (hn : n ≤ r.length) (hrow : Row w g r) (hm : Lim r) (h0 : 0 < by') (hby : by' < 4294967296) :
    Calls Tryz.prog 81 #[.slice (some ⟨g, 0, none⟩) n c, .int .u32 (by' : Nat)] w fun e w' => e = .returned (.int .u32 (val (r.take n) % by' : Nat)) ∧ ∃ q, Row w' g (q ++ r.drop n) ∧ q.length = n ∧ Lim q ∧ val q = val (r.take n) / by' ∧ Mut g w w' := by
  go_enter Tryz.func81, Tryz.ntmps81
  go_wp2
  go_loopw [5, 10] (fun t i wr => ∃ (k c : Nat) (q : List Nat), k ≤ n ∧ i = .int .i64 k ∧ t = .int .u64 c ∧ Row wr g (r.take (n - k) ++ (q ++ r.drop n)) ∧ q.length = k ∧ Lim q ∧ Hid (val q = val ((r.take n).drop (n - k)) / by') ∧ Hid (c = val ((r.take n).drop (n - k)) % by') ∧ Mut g w wr) (fun _ i _ => n - (intOf i).toNat)
  case atStart => exact ⟨0, 0, [], by omega, rfl, rfl, by simpa using hrow, rfl, by intro x hx; simp at hx, by show _ = _; rw [List.drop_eq_nil_of_le (by simp; omega)]; simp [val], by show _ = _; rw [List.drop_eq_nil_of_le (by simp; omega)]; simp [val], Mut.refl _ _⟩
  case round =>
    obtain ⟨k, c', q, hk, rfl, rfl, hrk, hql, hmq, hv, hcv, hmut⟩ := hrel
    by_cases hkl : k < n
    · obtain ⟨m, hm1⟩ : ∃ m, n - k = m + 1 := ⟨n - k - 1, by omega⟩
      have hmr : m < r.length := by omega
      rw [hm1] at hrk hv hcv
      have hc := hrk.cell m (by simp; omega)
      rw [get_mid r _ m hmr] at hc
      have hfz := hrk.frozen m
      obtain ⟨x, hx⟩ : ∃ x, r.getD m 0 = x := ⟨_, rfl⟩
      have hxl : x < 4294967296 := hx ▸ Lim_getD hm _
      rw [hx] at hc
      have hcl : c' < by' := by rw [hcv.out]; exact Nat.mod_lt _ h0
      have hcl2 : c' < 4294967296 := by omega
      have hor := or64' c' x hcl2 hxl
      have hdrop : Hid (val ((r.take n).drop m) = x + 4294967296 * val ((r.take n).drop (m + 1))) := by
        show _ = _
        have h1 := val_drop_pred (r.take n) (m + 1) (by omega) (by simp; omega)
        rw [Nat.add_sub_cancel] at h1
        rw [h1, ← hx]
        simp [List.getD, show m < n by omega]
      have hst := divStep _ _ _ by' x h0 hv.out hcv.out
      have Hst : Hid ((c' * 4294967296 + x) / by' + 4294967296 * val q = (x + 4294967296 * val ((r.take n).drop (m + 1))) / by' ∧ (c' * 4294967296 + x) % by' = (x + 4294967296 * val ((r.take n).drop (m + 1))) % by') := hst
      have hqb : (c' * 4294967296 + x) / by' < 4294967296 := by
        rw [Nat.div_lt_iff_lt_mul h0]
        have : c' * 4294967296 + 4294967296 ≤ by' * 4294967296 := by omega
        omega
      have e1 : n - 1 - k = m := by omega
      have e2 : Hid (n - (k + 1) = m) := by show _ = _; omega
      have Hx : Hid (r.getD m 0 = x) := hx
      have hidx : (n : Int) - 1 - (k : Int) = (m : Int) := by omega
      clear hx hst e1 hm1
      go_wp2
      go_roundw
      case rel =>
        refine ⟨k + 1, (c' * 4294967296 + x) % by', (c' * 4294967296 + x) / by' :: q, by omega, by go_num, by simp, ?_, by simp [hql], ?_, ?_, ?_, hmut.setCell _ _⟩
        · have h1 := hrk.set m ((c' * 4294967296 + x) / by')
          rw [set_mid r _ m _ hmr] at h1
          rw [e2.out]
          have ev : ((c' : Int) * 4294967296 + (x : Int)) / (by' : Int) % 4294967296 = (((c' * 4294967296 + x) / by' : Nat) : Int) := by
            rw [show ((c' : Int) * 4294967296 + (x : Int)) / (by' : Int) = (((c' * 4294967296 + x) / by' : Nat) : Int) from by simp]
            exact Int.emod_eq_of_lt (Int.natCast_nonneg _) (by generalize (c' * 4294967296 + x) / by' = Q at hqb ⊢; omega)
          rw [ev]
          exact h1
        · intro y hy
          simp at hy
          rcases hy with rfl | hy
          · exact hqb
          · exact hmq y hy
        · show _ = _
          rw [e2.out, hdrop.out, val, Hst.out.1]
        · show _ = _
          rw [e2.out, hdrop.out, Hst.out.2]
      case measure => simp [intOf]; omega
    · go_wp2
      go_ret
      have hke : k = n := by omega
      subst hke
      rw [Nat.sub_self] at hrk hv hcv
      rw [List.drop_zero] at hv hcv
      exact ⟨ret_int (by have hcl : c' < by' := (by rw [hcv.out]; exact Nat.mod_lt _ h0); rw [← hcv.out]; omega), q, by simpa using hrk, hql, hmq, hv.out, hmut⟩
end Go.Proofs.YtinjikoocegooaaGreatDoor.Li
set_option linter.unusedVariables false
set_option linter.unusedSimpArgs false
namespace Go.Proofs.YtinjikoocegooaaGreatDoor.Li
open Go.RowKit Lb
theorem NatR.of_trim {B : Nat} {w : World} {a : Option Addr} {n c : Nat} {l : List Nat} (h : Res B w (.slice a n c) l) (hm : Lim l) : NatR B w (.slice a (nl l) c) (val l) :=
  ⟨l.take (nl l), h.cut (nl_le l), Lim_take hm _, Nrm_take _, val_take_nl l⟩
theorem NatR.keep {B : Nat} {w w' : World} {v : Value} {n : Nat} (h : NatR B w v n) (k : Keep w w') : NatR B w' v n := by
  obtain ⟨l, h1, h2⟩ := h; exact ⟨l, h1.keep k, h2⟩
theorem NatR.mono {B B' : Nat} {w : World} {v : Value} {n : Nat} (h : NatR B w v n) (hB : B' ≤ B) : NatR B' w v n := by
  obtain ⟨l, h1, h2⟩ := h; exact ⟨l, h1.mono hB, h2⟩
theorem Row.res {w : World} {g : Nat} {l : List Nat} (h : Row w g l) {B : Nat} (hB : B ≤ g) : Res B w (.slice (some ⟨g, 0, none⟩) l.length l.length) l :=
  .inr ⟨g, l, rfl, hB, h, Nat.le_refl _, List.take_of_length_le (Nat.le_refl _)⟩
theorem Row.rd0 {w : World} {g : Nat} {l : List Nat} (h : Row w g l) : Rd w (some ⟨g, 0, none⟩) l := by
  have := h.rd 0 l.length (by omega); simpa using this
set_option maxRecDepth 100000 in
set_option maxHeartbeats 400000 in
theorem divide_less (a b : Option Addr) (ca cb : Nat) (la lb : List Nat) (w : World) (hla : la.length ≤ 70368744177664) (hlb : lb.length ≤ 70368744177664) (hra : Rd w a la) (hrb : Rd w b lb) (hma : Lim la) (hmb : Lim lb) (na : Nrm la) (nb : Nrm lb) (hlt : val la < val lb) :
    Calls Tryz.prog 50 #[.slice a la.length ca, .slice b lb.length cb] w fun e w' => ∃ vq vr, e = .returned (.tuple #[vq, vr]) ∧ NatR w.heap.size w' vq (val la / val lb) ∧ NatR w.heap.size w' vr (val la % val lb) ∧ Keep w w' := by
  have hcm := cmpL_lt hma hmb na nb hlt
  have hc := compare_any a b ca cb la lb w (by omega) (by omega) hra hrb
  rw [hcm] at hc
  have hf := fun w1 (hk : Keep w w1) => fresh_any a ca la w1 hla (hra.keep hk)
  clear hcm
  go_enter Tryz.func50, Tryz.ntmps50
  go_wp2_with fail
  refine hc.mono ?_
  rintro e w1 ⟨rfl, hd⟩
  go_wp2_with fail
  refine (hf w1 hd.keep).mono ?_
  rintro e w2 ⟨rfl, hrow, hk, -⟩
  go_wp2
  go_ret2
  refine ⟨_, _, rfl, ⟨[], .inl ⟨rfl, rfl⟩, by intro x hx; simp at hx, by simp [Nrm], by rw [Nat.div_eq_of_lt hlt]; rfl⟩, ⟨la, (hrow.res (Nat.le_refl _)).mono hd.keep.le, hma, na, (Nat.mod_eq_of_lt hlt).symm⟩, hd.keep.trans hk⟩
set_option maxRecDepth 100000 in
set_option maxHeartbeats 400000 in
theorem divide_one (a b : Option Addr) (ca cb : Nat) (la : List Nat) (y : Nat) (w : World) (hla : la.length ≤ 70368744177664) (hra : Rd w a la) (hrb : Rd w b [y]) (hma : Lim la) (na : Nrm la) (hy0 : 0 < y) (hy : y < 4294967296) (hge : ¬ val la < y) :
    Calls Tryz.prog 50 #[.slice a la.length ca, .slice b 1 cb] w fun e w' => ∃ vq vr, e = .returned (.tuple #[vq, vr]) ∧ NatR w.heap.size w' vq (val la / y) ∧ NatR w.heap.size w' vr (val la % y) ∧ Keep w w' := by
  have hmb : Lim [y] := by intro x hx; simp at hx; omega
  have nb : Nrm [y] := by simp [Nrm]; omega
  have hcm := cmpL_ge hma hmb na nb (by simpa [val] using hge)
  have hc := compare_any a b ca cb la [y] w (by omega) (by simp) hra hrb
  have hf := fun w1 (hk : Keep w w1) => fresh_any a ca la w1 hla (hra.keep hk)
  generalize cmpL la [y] = z at hcm hc
  have hz : decide (z < 0) = false := by simp; omega
  go_enter Tryz.func50, Tryz.ntmps50
  go_wp2_with fail
  refine hc.mono ?_
  rintro e w1 ⟨rfl, hd⟩
  go_wp2_with fail
  refine (hf w1 hd.keep).mono ?_
  rintro e w2 ⟨rfl, hrow, hk, hsz⟩
  obtain ⟨b1, o1, rfl, hcb⟩ := (hrb.keep (hd.keep.trans hk)) 0 (by simp)
  simp at hcb
  go_wp2_with fail
  have hD := divideSmall_any w1.heap.size la.length la.length y la w2 hla (Nat.le_refl _) hrow hma hy0 hy
  rw [List.take_of_length_le (Nat.le_refl _), List.drop_eq_nil_of_le (Nat.le_refl _)] at hD
  refine hD.mono ?_
  rintro e w3 ⟨rfl, q, hrq, hql, hmq, hvq, hmu⟩
  rw [List.append_nil] at hrq
  clear hD
  have hk3 : Keep w w3 := (hd.keep.trans hk).mut hmu hd.keep.le
  have hrm : val la % y < 4294967296 := Nat.lt_trans (Nat.mod_lt _ hy0) hy
  obtain ⟨t, ht⟩ : ∃ t, val la % y = t := ⟨_, rfl⟩
  rw [ht] at hrm ⊢
  have Ht : Hid (val la % y = t) := ht
  clear ht
  have hT := trim_any (some ⟨w1.heap.size, 0, none⟩) q.length q w3 (Nat.le_refl _) (by omega) hrq.rd0
  rw [hql] at hT
  clear hcb
  go_wp2_with fail
  refine hT.mono ?_
  rintro e w4 ⟨rfl, rfl⟩
  go_wp2_with fail
  have hrow5 : Row (w4.alloc (Obj.cells #[Value.int IntKind.u32 ↑t] 62)) w4.heap.size [t] := by
    unfold Row; rw [heap_alloc_new]; simp [U]
  have hk5 : Keep w4 (w4.alloc (Obj.cells #[Value.int IntKind.u32 ↑t] 62)) := (Keep.refl w4).alloc _
  generalize w4.alloc _ = w5 at hrow5 hk5 ⊢
  refine (trim_any (some ⟨w4.heap.size, 0, none⟩) 1 [t] w5 (by simp) (by simp) hrow5.rd0).mono ?_
  rintro e w6 ⟨rfl, rfl⟩
  go_wp2
  go_ret2
  refine ⟨_, _, rfl, ?_, ?_, hk3.trans hk5⟩
  · have h1 := NatR.of_trim (((hrq.keep hk5).res (B := w.heap.size) hd.keep.le)) hmq
    rw [hql, hvq] at h1
    exact h1
  · have h1 := NatR.of_trim (hrow5.res (B := w.heap.size) hk3.le) (by intro x hx; simp at hx; omega)
    rw [Ht.out]
    simpa [val] using h1
end Go.Proofs.YtinjikoocegooaaGreatDoor.Li
set_option linter.unusedVariables false
set_option linter.unusedSimpArgs false
namespace Go.Proofs.YtinjikoocegooaaGreatDoor.Li
open Go.RowKit Lb
set_option maxRecDepth 100000 in
set_option maxHeartbeats 400000 in
theorem divisor64_any (x y : Nat) (w : World) (hx : x < 18446744073709551616) (hy : y < 18446744073709551616) :
    Calls Tryz.prog 79 #[.int .u64 (x : Nat), .int .u64 (y : Nat)] w fun e w' => e = .returned (.int .u64 (Nat.gcd x y : Nat)) ∧ Dr w w' := by
  go_enter Tryz.func79, Tryz.ntmps79
  go_wp2
  go_loopw [0, 1] (fun s t wr => ∃ p q : Nat, p < 18446744073709551616 ∧ q < 18446744073709551616 ∧ s = .int .u64 (p : Nat) ∧ t = .int .u64 (q : Nat) ∧ Hid (Nat.gcd p q = Nat.gcd x y) ∧ Dr w wr) (fun _ t _ => (intOf t).toNat)
  case atStart => exact ⟨x, y, hx, hy, rfl, rfl, rfl, Dr.refl _⟩
  case round =>
    obtain ⟨p, q, hp, hq, rfl, rfl, hg, hd⟩ := hrel
    by_cases h0 : q = 0
    · subst h0
      go_wp2
      go_ret
      exact ⟨ret_int (by rw [← hg.out, Nat.gcd_zero_right]), hd⟩
    · have hne : ((q : Int) != 0) = true := by simp; omega
      have hne' : ¬ (q : Int) = 0 := by omega
      go_wp2
      go_region
      go_wp2
      go_roundw
      case rel => exact ⟨q, p % q, hq, Nat.lt_of_le_of_lt (Nat.mod_le _ _) hp, rfl, by simp, by show _ = _; rw [← hg.out, Nat.gcd_comm q, ← Nat.gcd_rec, Nat.gcd_comm], hd.drewN 1⟩
      case measure =>
        have := Nat.mod_lt p (show 0 < q by omega)
        rw [show intOf (.int .u64 ((p : Int) % (q : Int))) = ((p % q : Nat) : Int) from by simp [intOf]]
        simp [intOf]; omega
/-- Two limbs and fewer: a number. -/
theorem val_two {l : List Nat} (h : Lim l) (h2 : l.length ≤ 2) : val l < 18446744073709551616 := by
  have h1 := val_lt h
  have h3 : 4294967296 ^ l.length ≤ 4294967296 ^ 2 := Nat.pow_le_pow_right (by omega) h2
  omega
theorem NatR.shape {B : Nat} {w : World} {v : Value} {n : Nat} (h : NatR B w v n) : ∃ a c l, v = .slice a l.length c ∧ l.length ≤ c ∧ Rd w a l ∧ Lim l ∧ Nrm l ∧ val l = n ∧ Res B w v l := by
  obtain ⟨l, h1, h2, h3, h4⟩ := h
  obtain ⟨a, c, e, hc, hr⟩ := h1.shape
  exact ⟨a, c, l, e, hc, hr, h2, h3, h4, h1⟩
theorem len_two {l : List Nat} (n : Nrm l) (h : val l < 18446744073709551616) : l.length ≤ 2 := by
  rcases Nat.lt_or_ge 2 l.length with h2 | h2
  · have h1 := val_ge n (by intro h0; simp [h0] at h2)
    have h3 : 4294967296 ^ 2 ≤ 4294967296 ^ (l.length - 1) := Nat.pow_le_pow_right (by omega) (by omega)
    omega
  · exact h2
/-- What divide does, up to so many limbs of the divisor. -/
def DivideSaid (K : Nat) : Prop := ∀ (a b : Option Addr) (ca cb : Nat) (la lb : List Nat) (w : World), la.length ≤ 70368744177663 → lb.length ≤ K → Rd w a la → Rd w b lb → Lim la → Lim lb → Nrm la → Nrm lb → lb ≠ [] →
    Calls Tryz.prog 50 #[.slice a la.length ca, .slice b lb.length cb] w fun e w' => ∃ vq vr, e = .returned (.tuple #[vq, vr]) ∧ NatR w.heap.size w' vq (val la / val lb) ∧ NatR w.heap.size w' vr (val la % val lb) ∧ Keep w w'
theorem divide_K1 : DivideSaid 1 := by
  intro a b ca cb la lb w hla hlb hra hrb hma hmb na nb hb0
  by_cases hlt : val la < val lb
  · exact divide_less a b ca cb la lb w (by omega) (by omega) hra hrb hma hmb na nb hlt
  · have hl1 : 0 < lb.length := List.length_pos_iff.2 hb0
    obtain ⟨y, rfl⟩ : ∃ y, lb = [y] := List.length_eq_one_iff.1 (by omega)
    have hy : y < 4294967296 := hmb y (by simp)
    have hy0 : 0 < y := by simp [Nrm] at nb; omega
    have hv : val [y] = y := by simp [val]
    rw [hv] at hlt ⊢
    exact divide_one a b ca cb la y w (by omega) hra hrb hma na hy0 hy hlt
end Go.Proofs.YtinjikoocegooaaGreatDoor.Li
set_option linter.unusedVariables false
set_option linter.unusedSimpArgs false
namespace Go.Proofs.YtinjikoocegooaaGreatDoor.Li
open Go.RowKit Lb
/-- A quotient's variable. -/
def Box (w : World) (g : Nat) (x y z : Value) : Prop := w.heap[g]? = some (.cells #[x, y, z] 36 (0, 0))
theorem Box.keep {w w' : World} {g : Nat} {x y z : Value} (h : Box w g x y z) (k : Keep w w') : Box w' g x y z := by
  unfold Box; rw [k.block g (Array.getElem?_eq_some_iff.1 h).1]; exact h
theorem Box.cells {w : World} {g : Nat} {x y z : Value} (h : Box w g x y z) : w.cell? ⟨g, 0, none⟩ = some x ∧ w.cell? ⟨g, 1, none⟩ = some y ∧ w.cell? ⟨g, 2, none⟩ = some z := by
  refine ⟨?_, ?_, ?_⟩ <;> rw [cell_of_row w g _ _ 36 (0, 0) h] <;> rfl
theorem Box.free {w : World} {g : Nat} {x y z : Value} (h : Box w g x y z) (j : Nat) : w.frozen? ⟨g, j, none⟩ = false := frozen_of_row w g j _ 36 h
theorem Box.new (w : World) (x y z : Value) : Box (w.alloc (.cells #[x, y, z] 36)) w.heap.size x y z := heap_alloc_new w _
theorem Res.mut {B g : Nat} {w w' : World} {v : Value} {l : List Nat} (h : Res B w v l) (k : Mut g w w') (hg : g < B) : Res B w' v l := by
  rcases h with h | ⟨g', r, e, hb, hr, h1, h2⟩
  · exact .inl h
  · exact .inr ⟨g', r, e, hb, hr.mut k (by omega), h1, h2⟩
theorem NatR.mut {B g : Nat} {w w' : World} {v : Value} {n : Nat} (h : NatR B w v n) (k : Mut g w w') (hg : g < B) : NatR B w' v n := by
  obtain ⟨l, h1, h2⟩ := h; exact ⟨l, h1.mut k hg, h2⟩
set_option maxRecDepth 100000 in
set_option maxHeartbeats 800000 in
theorem Over_zero (neg : Bool) (a b : Option Addr) (ca cb : Nat) (la lb : List Nat) (w : World) (hca : la.length ≤ ca) (hcb : lb.length ≤ cb) (hla : la.length ≤ 70368744177663) (hlb : lb.length ≤ 70368744177663) (hra : Rd w a la) (hrb : Rd w b lb)
    (hb0 : nl lb = 0) :
    Calls Tryz.prog 33 #[.bool neg, .slice a la.length ca, .slice b lb.length cb] w fun e w' => e = .returned (.tuple #[.agg #[.bool false, .slice none 0 0, .slice none 0 0], .int .i64 11]) ∧ Keep w w' := by
  have hk : Keep w (w.alloc (Obj.cells #[Value.bool false, Value.slice none 0 0, Value.slice none 0 0] 36)) := (Keep.refl w).alloc _
  have t1 := trim_any a ca la _ hca (by omega) (hra.keep hk)
  have t2 := trim_any b cb lb _ hcb (by omega) (hrb.keep hk)
  have h0 : ((nl lb : Int) == 0) = true := by simp; omega
  clear hb0
  go_enter Tryz.func33, Tryz.ntmps33
  go_wp2_with fail
  refine t1.mono ?_
  rintro e w' ⟨rfl, rfl⟩
  go_wp2_with fail
  refine t2.mono ?_
  rintro e w' ⟨rfl, rfl⟩
  go_wp2
  exact bodyPost_ret (v := .tuple #[.agg #[.bool false, .slice none 0 0, .slice none 0 0], .int .i64 11]) (by simp [results, Tryz.results33, go_sem]) rfl ⟨rfl, hk⟩
end Go.Proofs.YtinjikoocegooaaGreatDoor.Li
set_option linter.unusedVariables false
set_option linter.unusedSimpArgs false
namespace Go.Proofs.YtinjikoocegooaaGreatDoor.Li
open Go.RowKit Lb
/-- Bytes as cells. -/
def V8 (l : List Nat) : List Value := l.map (fun x => Value.int .u8 (x : Nat))
def Row8 (w : World) (g : Nat) (l : List Nat) : Prop := w.heap[g]? = some (.cells (V8 l).toArray 5 (0, 0))
/-- Of what was there only block g has turned. -/
structure Gr (g : Nat) (w w' : World) : Prop where
  os : w'.os = w.os
  tape : w'.tape = w.tape
  output : w'.output = w.output
  size : w.heap.size ≤ w'.heap.size
  block : ∀ k, k < w.heap.size → k ≠ g → w'.heap[k]? = w.heap[k]?
theorem Gr.refl (g : Nat) (w : World) : Gr g w w := ⟨rfl, rfl, rfl, Nat.le_refl _, fun _ _ _ => rfl⟩
theorem Gr.trans {g : Nat} {a b c : World} (h : Gr g a b) (k : Gr g b c) : Gr g a c :=
  ⟨k.os.trans h.os, k.tape.trans h.tape, k.output.trans h.output, Nat.le_trans h.size k.size, fun i hi hg => (k.block i (Nat.lt_of_lt_of_le hi h.size) hg).trans (h.block i hi hg)⟩
theorem Keep.gr {w w' : World} (h : Keep w w') (g : Nat) : Gr g w w' := ⟨h.os, h.tape, h.output, h.size, fun k hk _ => h.block k hk⟩
theorem Mut.gr {w w' : World} {g : Nat} (h : Mut g w w') : Gr g w w' := ⟨h.os, h.tape, h.output, by rw [h.size]; exact Nat.le_refl _, fun k _ hg => h.block k hg⟩
theorem Gr.keep {g : Nat} {a b c : World} (h : Gr g a b) (k : Keep b c) : Gr g a c := h.trans (k.gr g)
theorem Gr.drewN {g : Nat} {a b : World} (h : Gr g a b) (q : Nat) : Gr g a (b.drewN q) := ⟨h.os, h.tape, h.output, h.size, h.block⟩
theorem Row8.lt {w : World} {g : Nat} {l : List Nat} (h : Row8 w g l) : g < w.heap.size := (Array.getElem?_eq_some_iff.1 h).1
theorem V8_get (l : List Nat) (j : Nat) (h : j < l.length) : (V8 l)[j]? = some (.int .u8 (l.getD j 0 : Nat)) := by simp [V8, List.getD, h]
theorem Row8.cell {w : World} {g : Nat} {l : List Nat} (h : Row8 w g l) (j : Nat) (hj : j < l.length) : w.cell? ⟨g, j, none⟩ = some (.int .u8 (l.getD j 0 : Nat)) := by
  rw [cell_of_row w g j _ 5 (0, 0) h]; simpa using V8_get l j hj
theorem Row8.frozen {w : World} {g : Nat} {l : List Nat} (h : Row8 w g l) (j : Nat) : w.frozen? ⟨g, j, none⟩ = false := frozen_of_row w g j _ 5 h
theorem Row8.set {w : World} {g : Nat} {l : List Nat} (h : Row8 w g l) (j x : Nat) : Row8 (w.setCell ⟨g, j, none⟩ (.int .u8 (x : Nat))) g (l.set j x) := by
  have := heap_setCell_same w g j _ 5 (.int .u8 (x : Nat)) h
  unfold Row8
  rw [this]
  simp [V8, List.map_set]
theorem Row8.keep {w w' : World} {g : Nat} {l : List Nat} (h : Row8 w g l) (k : Keep w w') : Row8 w' g l := by
  unfold Row8; rw [k.block g h.lt]; exact h
theorem Row8.mut {w w' : World} {g g' : Nat} {l : List Nat} (h : Row8 w g l) (k : Mut g' w w') (hne : g ≠ g') : Row8 w' g l := by
  unfold Row8; rw [k.block g hne]; exact h
end Go.Proofs.YtinjikoocegooaaGreatDoor.Li
set_option linter.unusedVariables false
set_option linter.unusedSimpArgs false
namespace Go.Proofs.YtinjikoocegooaaGreatDoor.Li
open Go.RowKit Lb
theorem i5 : (Tryz.prog.info? 5).map (fun i => (i.zero, i.size, i.bytes)) = some (some (.int .u8 0), 1, 1) := by kernel_rfl
end Go.Proofs.YtinjikoocegooaaGreatDoor.Li
set_option linter.unusedVariables false
set_option linter.unusedSimpArgs false
namespace Go.Proofs.YtinjikoocegooaaGreatDoor.Li
open Go.RowKit Lb
theorem set_at (q r : List Nat) (k y : Nat) (hq : q.length = k) (h : k < r.length) : (q ++ r.drop k).set k y = (q ++ [y]) ++ r.drop (k + 1) := by
  rw [List.set_append_right _ _ (by omega), hq, Nat.sub_self, List.drop_eq_getElem_cons h, List.set_cons_zero]
  simp
theorem get_at (q r : List Nat) (k : Nat) (hq : q.length = k) (_h : k < r.length) : (q ++ r.drop k).getD k 0 = r.getD k 0 := by
  simp only [List.getD]
  rw [List.getElem?_append_right (by omega), hq, Nat.sub_self, List.getElem?_drop, Nat.add_zero]
theorem val_snoc (q : List Nat) (y : Nat) : val (q ++ [y]) = val q + 4294967296 ^ q.length * y := by rw [val_append]; simp [val]
theorem prodB (y f : Nat) (hy : y < 4294967296) (hf : f < 4294967296) : y * f ≤ 18446744065119617025 := by
  have := Nat.mul_le_mul (show y ≤ 4294967295 by omega) (show f ≤ 4294967295 by omega)
  omega
end Go.Proofs.YtinjikoocegooaaGreatDoor.Li
set_option linter.unusedVariables false
set_option linter.unusedSimpArgs false
namespace Go.Proofs.YtinjikoocegooaaGreatDoor.Li
open Go.RowKit Lb
theorem val_lt_len (l : List Nat) (hm : Lim l) : val l < 2 ^ lenB l := by
  rw [← val_take_nl l]
  unfold lenB
  by_cases h : nl l = 0
  · rw [if_pos h, h]; simp [val]
  · rw [if_neg h]
    obtain ⟨m, hm'⟩ : ∃ m, nl l = m + 1 := ⟨nl l - 1, by omega⟩
    rw [hm', Nat.add_sub_cancel, val_take_succ, Nat.pow_add, Nat.pow_mul]
    have h1 := (bitLen_spec (l.getD m 0)).1
    have h2 := val_lt (Lim_take hm m)
    have h3 : (l.take m).length ≤ m := by simp; omega
    have h4 : 4294967296 ^ (l.take m).length ≤ 4294967296 ^ m := Nat.pow_le_pow_right (by omega) h3
    have h5 := Nat.mul_le_mul_left (4294967296 ^ m) (show l.getD m 0 + 1 ≤ 2 ^ bitLen (l.getD m 0) from h1)
    rw [show (2 : Nat) ^ 32 = 4294967296 from rfl]
    rw [Nat.mul_add, Nat.mul_comm (4294967296 ^ m) (l.getD m 0)] at h5
    omega
theorem NatR.res {B : Nat} {w : World} {v : Value} {n : Nat} (h : NatR B w v n) {l : List Nat} (hl : Lim l) (hn : Nrm l) (hv : val l = n) : Res B w v l := by
  obtain ⟨r, h1, h2, h3, h4⟩ := h
  have : r = l := val_inj h2 hl h3 hn (by omega)
  rw [← this]; exact h1
theorem Res.rd {B : Nat} {w : World} {a : Option Addr} {n c : Nat} {l : List Nat} (h : Res B w (.slice a n c) l) : Rd w a l := by
  obtain ⟨a', c', e, -, hr⟩ := h.shape
  simp at e
  rw [e.1]; exact hr
theorem Box.set {w : World} {g : Nat} {x y z : Value} (h : Box w g x y z) (x' y' z' : Value) : Box (((w.setCell ⟨g, 0, none⟩ x').setCell ⟨g, 1, none⟩ y').setCell ⟨g, 2, none⟩ z') g x' y' z' := by
  have h0 := heap_setCell_same w g 0 _ 36 x' h
  have h1 := heap_setCell_same _ g 1 _ 36 y' h0
  have h2 := heap_setCell_same _ g 2 _ 36 z' h1
  unfold Box
  rw [h2]
  simp
theorem val_ge_len (l : List Nat) (h : nl l ≠ 0) : 2 ^ (lenB l - 1) ≤ val l := by
  rw [← val_take_nl l]
  unfold lenB
  rw [if_neg h]
  obtain ⟨m, hm'⟩ : ∃ m, nl l = m + 1 := ⟨nl l - 1, by omega⟩
  have ht := nl_top l (by omega)
  rw [hm', Nat.add_sub_cancel] at ht ⊢
  rw [val_take_succ]
  have h1 := (bitLen_spec (l.getD m 0)).2 ht
  have hb : 1 ≤ bitLen (l.getD m 0) := by
    unfold bitLen; rw [if_neg ht]; omega
  rw [show 32 * m + bitLen (l.getD m 0) - 1 = 32 * m + (bitLen (l.getD m 0) - 1) from by omega, Nat.pow_add, Nat.pow_mul, show (2 : Nat) ^ 32 = 4294967296 from rfl]
  have := Nat.mul_le_mul_left (4294967296 ^ m) h1
  rw [Nat.mul_comm (4294967296 ^ m) (l.getD m 0)] at this
  omega
theorem len_le_of_val {l m : List Nat} (nl : Nrm l) (hm : Lim m) (h : val l ≤ val m) : l.length ≤ m.length := by
  rcases Nat.lt_or_ge m.length l.length with h1 | h1
  · have := len_lt_val hm nl h1; omega
  · exact h1
end Go.Proofs.YtinjikoocegooaaGreatDoor.Li
