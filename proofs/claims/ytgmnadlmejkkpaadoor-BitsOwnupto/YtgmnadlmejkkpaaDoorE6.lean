import Derived.Test.YtgmnadlmejkkpaaDoorE2
import Derived.Test.YtgmnadlmejkkpaaDoorE3
import Derived.Test.YtgmnadlmejkkpaaDoorE4
import Derived.Test.YtgmnadlmejkkpaaDoorE5
set_option linter.unusedVariables false
set_option linter.unusedSimpArgs false
namespace Go.Proofs.YtgmnadlmejkkpaaDoor
open Go.RowKit
/-- A list and an error's number. -/
def LstA (w w' : World) (e : Ending) (E : Int) (L : List Nat) : Prop := ∃ a c, e = .returned (.tuple #[.slice a L.length c, .int .i64 E]) ∧ L.length ≤ c ∧ Rd w' a L ∧ Keep w w'
def ansE (l m : List Nat) : Int := if l.length = m.length then 0 else 6
def ansL (f : Nat → Nat → Nat) (l m : List Nat) : List Nat := if l.length = m.length then zw f l m else []
set_option maxRecDepth 100000 in
theorem joined_and (ca cb : Nat) (a b : Option Addr) (l m : List Nat) (w : World) (hl : l.length ≤ 17592186044416) (hm : m.length ≤ 17592186044416) (ha : Rd w a l) (hb : Rd w b m) (hwl : W64 l) (hwm : W64 m) :
    Calls Tryd.prog 54 #[.slice a l.length ca, .slice b m.length cb, .func (.func 55) #[] #[]] w fun e w' => LstA w w' e (ansE l m) (ansL (fun x y => x &&& y) l m) := by
  by_cases hlm : l.length = m.length
  · have hJ := fun w1 (hrow : Row w1 w.heap.size (List.replicate l.length 0)) (k : Keep w w1) => join_and w.heap.size l.length ca cb a b (List.replicate l.length 0) l m w1 hrow (by simp) hlm hl (ha.keep k) (hb.keep k) hwl hwm (Off.of_lt ha (Nat.le_refl _)) (Off.of_lt hb (Nat.le_refl _))
    have HE : Hid (ansE l m = 0 ∧ ansL (fun x y => x &&& y) l m = zw (fun x y => x &&& y) l m) := by show _ ∧ _; unfold ansE ansL; rw [if_pos hlm, if_pos hlm]; exact ⟨rfl, rfl⟩
    have Hz : Hid ((zw (fun x y => x &&& y) l m).length = l.length) := zw_length _ hlm
    rw [← hlm]
    clear hlm
    go_enter Tryd.func54, Tryd.ntmps54
    go_wp2_with (at_make; refine wpList_make64 _ rfl _ _ rfl _ _ _ _ l.length rfl rfl rfl rfl (by omega) ?_; intro w1 hr1 k1 s1)
    refine (hJ w1 hr1 k1).mono ?_
    rintro e w2 ⟨rfl, hr2, m2⟩
    go_wp2_with fail
    go_ret2
    rw [HE.out.1, HE.out.2]
    refine ⟨some ⟨w.heap.size, 0, none⟩, l.length, by rw [Hz.out]; rfl, by rw [Hz.out]; exact Nat.le_refl _, ?_, k1.mut m2 (Nat.le_refl _)⟩
    have := hr2.rd 0 (zw (fun x y => x &&& y) l m).length (by omega)
    rw [List.drop_zero, List.take_of_length_le (Nat.le_refl _)] at this
    exact this
  · have HE : Hid (ansE l m = 6 ∧ ansL (fun x y => x &&& y) l m = []) := by show _ ∧ _; unfold ansE ansL; rw [if_neg hlm, if_neg hlm]; exact ⟨rfl, rfl⟩
    have hne : ((l.length : Int) == (m.length : Int)) = false := by rw [beq_eq_false_iff_ne]; omega
    have hne2 : ((l.length : Int) != (m.length : Int)) = true := by rw [bne_iff_ne]; omega
    go_enter Tryd.func54, Tryd.ntmps54
    go_wp2_with fail
    go_ret2
    rw [HE.out.1, HE.out.2]
    exact ⟨none, 0, rfl, Nat.le_refl _, Rd.nil _ _, Keep.refl _⟩
set_option maxRecDepth 100000 in
theorem joined_or (ca cb : Nat) (a b : Option Addr) (l m : List Nat) (w : World) (hl : l.length ≤ 17592186044416) (hm : m.length ≤ 17592186044416) (ha : Rd w a l) (hb : Rd w b m) (hwl : W64 l) (hwm : W64 m) :
    Calls Tryd.prog 54 #[.slice a l.length ca, .slice b m.length cb, .func (.func 56) #[] #[]] w fun e w' => LstA w w' e (ansE l m) (ansL (fun x y => x ||| y) l m) := by
  by_cases hlm : l.length = m.length
  · have hJ := fun w1 (hrow : Row w1 w.heap.size (List.replicate l.length 0)) (k : Keep w w1) => join_or w.heap.size l.length ca cb a b (List.replicate l.length 0) l m w1 hrow (by simp) hlm hl (ha.keep k) (hb.keep k) hwl hwm (Off.of_lt ha (Nat.le_refl _)) (Off.of_lt hb (Nat.le_refl _))
    have HE : Hid (ansE l m = 0 ∧ ansL (fun x y => x ||| y) l m = zw (fun x y => x ||| y) l m) := by show _ ∧ _; unfold ansE ansL; rw [if_pos hlm, if_pos hlm]; exact ⟨rfl, rfl⟩
    have Hz : Hid ((zw (fun x y => x ||| y) l m).length = l.length) := zw_length _ hlm
    rw [← hlm]
    clear hlm
    go_enter Tryd.func54, Tryd.ntmps54
    go_wp2_with (at_make; refine wpList_make64 _ rfl _ _ rfl _ _ _ _ l.length rfl rfl rfl rfl (by omega) ?_; intro w1 hr1 k1 s1)
    refine (hJ w1 hr1 k1).mono ?_
    rintro e w2 ⟨rfl, hr2, m2⟩
    go_wp2_with fail
    go_ret2
    rw [HE.out.1, HE.out.2]
    refine ⟨some ⟨w.heap.size, 0, none⟩, l.length, by rw [Hz.out]; rfl, by rw [Hz.out]; exact Nat.le_refl _, ?_, k1.mut m2 (Nat.le_refl _)⟩
    have := hr2.rd 0 (zw (fun x y => x ||| y) l m).length (by omega)
    rw [List.drop_zero, List.take_of_length_le (Nat.le_refl _)] at this
    exact this
  · have HE : Hid (ansE l m = 6 ∧ ansL (fun x y => x ||| y) l m = []) := by show _ ∧ _; unfold ansE ansL; rw [if_neg hlm, if_neg hlm]; exact ⟨rfl, rfl⟩
    have hne : ((l.length : Int) == (m.length : Int)) = false := by rw [beq_eq_false_iff_ne]; omega
    have hne2 : ((l.length : Int) != (m.length : Int)) = true := by rw [bne_iff_ne]; omega
    go_enter Tryd.func54, Tryd.ntmps54
    go_wp2_with fail
    go_ret2
    rw [HE.out.1, HE.out.2]
    exact ⟨none, 0, rfl, Nat.le_refl _, Rd.nil _ _, Keep.refl _⟩
set_option maxRecDepth 100000 in
theorem joined_xor (ca cb : Nat) (a b : Option Addr) (l m : List Nat) (w : World) (hl : l.length ≤ 17592186044416) (hm : m.length ≤ 17592186044416) (ha : Rd w a l) (hb : Rd w b m) (hwl : W64 l) (hwm : W64 m) :
    Calls Tryd.prog 54 #[.slice a l.length ca, .slice b m.length cb, .func (.func 57) #[] #[]] w fun e w' => LstA w w' e (ansE l m) (ansL (fun x y => x ^^^ y) l m) := by
  by_cases hlm : l.length = m.length
  · have hJ := fun w1 (hrow : Row w1 w.heap.size (List.replicate l.length 0)) (k : Keep w w1) => join_xor w.heap.size l.length ca cb a b (List.replicate l.length 0) l m w1 hrow (by simp) hlm hl (ha.keep k) (hb.keep k) hwl hwm (Off.of_lt ha (Nat.le_refl _)) (Off.of_lt hb (Nat.le_refl _))
    have HE : Hid (ansE l m = 0 ∧ ansL (fun x y => x ^^^ y) l m = zw (fun x y => x ^^^ y) l m) := by show _ ∧ _; unfold ansE ansL; rw [if_pos hlm, if_pos hlm]; exact ⟨rfl, rfl⟩
    have Hz : Hid ((zw (fun x y => x ^^^ y) l m).length = l.length) := zw_length _ hlm
    rw [← hlm]
    clear hlm
    go_enter Tryd.func54, Tryd.ntmps54
    go_wp2_with (at_make; refine wpList_make64 _ rfl _ _ rfl _ _ _ _ l.length rfl rfl rfl rfl (by omega) ?_; intro w1 hr1 k1 s1)
    refine (hJ w1 hr1 k1).mono ?_
    rintro e w2 ⟨rfl, hr2, m2⟩
    go_wp2_with fail
    go_ret2
    rw [HE.out.1, HE.out.2]
    refine ⟨some ⟨w.heap.size, 0, none⟩, l.length, by rw [Hz.out]; rfl, by rw [Hz.out]; exact Nat.le_refl _, ?_, k1.mut m2 (Nat.le_refl _)⟩
    have := hr2.rd 0 (zw (fun x y => x ^^^ y) l m).length (by omega)
    rw [List.drop_zero, List.take_of_length_le (Nat.le_refl _)] at this
    exact this
  · have HE : Hid (ansE l m = 6 ∧ ansL (fun x y => x ^^^ y) l m = []) := by show _ ∧ _; unfold ansE ansL; rw [if_neg hlm, if_neg hlm]; exact ⟨rfl, rfl⟩
    have hne : ((l.length : Int) == (m.length : Int)) = false := by rw [beq_eq_false_iff_ne]; omega
    have hne2 : ((l.length : Int) != (m.length : Int)) = true := by rw [bne_iff_ne]; omega
    go_enter Tryd.func54, Tryd.ntmps54
    go_wp2_with fail
    go_ret2
    rw [HE.out.1, HE.out.2]
    exact ⟨none, 0, rfl, Nat.le_refl _, Rd.nil _ _, Keep.refl _⟩
theorem And_any (ca cb : Nat) (a b : Option Addr) (l m : List Nat) (w : World) (hl : l.length ≤ 17592186044416) (hm : m.length ≤ 17592186044416) (ha : Rd w a l) (hb : Rd w b m) (hwl : W64 l) (hwm : W64 m) :
    Calls Tryd.prog 22 #[.slice a l.length ca, .slice b m.length cb] w fun e w' => LstA w w' e (ansE l m) (ansL (fun x y => x &&& y) l m) := by
  have h := joined_and ca cb a b l m w hl hm ha hb hwl hwm
  generalize ansE l m = E at h ⊢
  generalize ansL (fun x y => x &&& y) l m = L at h ⊢
  go_enter Tryd.func22, Tryd.ntmps22
  go_wp2_with fail
  refine h.mono ?_
  rintro e w1 ⟨a1, c1, rfl, h1, h2, h3⟩
  go_wp2_with fail
  go_ret2
  exact ⟨a1, c1, rfl, h1, h2, h3⟩
theorem Or_any (ca cb : Nat) (a b : Option Addr) (l m : List Nat) (w : World) (hl : l.length ≤ 17592186044416) (hm : m.length ≤ 17592186044416) (ha : Rd w a l) (hb : Rd w b m) (hwl : W64 l) (hwm : W64 m) :
    Calls Tryd.prog 23 #[.slice a l.length ca, .slice b m.length cb] w fun e w' => LstA w w' e (ansE l m) (ansL (fun x y => x ||| y) l m) := by
  have h := joined_or ca cb a b l m w hl hm ha hb hwl hwm
  generalize ansE l m = E at h ⊢
  generalize ansL (fun x y => x ||| y) l m = L at h ⊢
  go_enter Tryd.func23, Tryd.ntmps23
  go_wp2_with fail
  refine h.mono ?_
  rintro e w1 ⟨a1, c1, rfl, h1, h2, h3⟩
  go_wp2_with fail
  go_ret2
  exact ⟨a1, c1, rfl, h1, h2, h3⟩
theorem Xor_any (ca cb : Nat) (a b : Option Addr) (l m : List Nat) (w : World) (hl : l.length ≤ 17592186044416) (hm : m.length ≤ 17592186044416) (ha : Rd w a l) (hb : Rd w b m) (hwl : W64 l) (hwm : W64 m) :
    Calls Tryd.prog 24 #[.slice a l.length ca, .slice b m.length cb] w fun e w' => LstA w w' e (ansE l m) (ansL (fun x y => x ^^^ y) l m) := by
  have h := joined_xor ca cb a b l m w hl hm ha hb hwl hwm
  generalize ansE l m = E at h ⊢
  generalize ansL (fun x y => x ^^^ y) l m = L at h ⊢
  go_enter Tryd.func24, Tryd.ntmps24
  go_wp2_with fail
  refine h.mono ?_
  rintro e w1 ⟨a1, c1, rfl, h1, h2, h3⟩
  go_wp2_with fail
  go_ret2
  exact ⟨a1, c1, rfl, h1, h2, h3⟩
end Go.Proofs.YtgmnadlmejkkpaaDoor
