import Derived.Test.YtagfkmbljkglpaaProg
import Derived.Test.YtagfkmbljkglpaaLC9
import Derived.WalkKit
import Derived.WalkSpells
import Derived.WalkLawsBesides
import Derived.Laws.CopyOwn
import Derived.Deep.Draws
import Derived.Deep.QuietTactic
import Derived.BigQuiet
import Derived.Laws.MathBits
import Derived.Shelf.Small.Bits
import Derived.Shelf.Strconv.Itoa0
import Derived.Shelf.Bits.Mul64
set_option linter.unusedVariables false
set_option linter.unusedSimpArgs false
namespace Go.Proofs.Ytagfkmbljkglpaa
open Go.RowKit Lb
def cmpN (x y : Nat) : Int := if x < y then -1 else if y < x then 1 else 0
theorem cmpTop_eq (a b : List Nat) (ha : Lim a) (hb : Lim b) : ∀ k, k ≤ a.length → k ≤ b.length → cmpTop a b k = cmpN (val (a.take k)) (val (b.take k)) := by
  intro k
  induction k with
  | zero => intro _ _; simp [cmpTop, cmpN, val]
  | succ k ih =>
    intro h1 h2
    have e1 := val_take_succ a k
    have e2 := val_take_succ b k
    have l1 : val (a.take k) < 4294967296 ^ k := by
      have := val_lt (Lim_take ha k); rwa [show (a.take k).length = k by simp; omega] at this
    have l2 : val (b.take k) < 4294967296 ^ k := by
      have := val_lt (Lim_take hb k); rwa [show (b.take k).length = k by simp; omega] at this
    have ih' := ih (by omega) (by omega)
    rw [cmpTop]
    generalize 4294967296 ^ k = X at *
    rcases Nat.lt_trichotomy (a.getD k 0) (b.getD k 0) with h | h | h
    · have := Nat.mul_le_mul_right X (show a.getD k 0 + 1 ≤ b.getD k 0 from h)
      rw [Nat.add_mul] at this
      rw [if_pos h]; unfold cmpN; rw [if_pos (by omega)]
    · rw [if_neg (by omega), if_neg (by omega), ih', e1, e2, h]
      unfold cmpN
      simp only [Nat.add_lt_add_iff_right]
    · have := Nat.mul_le_mul_right X (show b.getD k 0 + 1 ≤ a.getD k 0 from h)
      rw [Nat.add_mul] at this
      rw [if_neg (by omega), if_pos h]; unfold cmpN; rw [if_neg (by omega), if_pos (by omega)]
theorem len_lt_val {a b : List Nat} (ha : Lim a) (nb : Nrm b) (h : a.length < b.length) : val a < val b := by
  have h1 := val_lt ha
  have h2 := val_ge nb (by intro h0; simp [h0] at h)
  have h3 : 4294967296 ^ a.length ≤ 4294967296 ^ (b.length - 1) := Nat.pow_le_pow_right (by omega) (by omega)
  omega
theorem cmpL_eq (a b : List Nat) (ha : Lim a) (hb : Lim b) (na : Nrm a) (nb : Nrm b) : cmpL a b = cmpN (val a) (val b) := by
  unfold cmpL
  split
  · rename_i h
    unfold cmpN; rw [if_pos (len_lt_val ha nb h)]
  · split
    · rename_i h
      have := len_lt_val hb na h
      unfold cmpN; rw [if_neg (by omega), if_pos this]
    · have hl : a.length = b.length := by omega
      rw [cmpTop_eq a b ha hb _ (Nat.le_refl _) (by omega), List.take_of_length_le (Nat.le_refl _), hl, List.take_of_length_le (Nat.le_refl _)]
theorem cmpL_lt {a b : List Nat} (ha : Lim a) (hb : Lim b) (na : Nrm a) (nb : Nrm b) (h : val a < val b) : cmpL a b = -1 := by rw [cmpL_eq a b ha hb na nb, cmpN, if_pos h]
theorem cmpL_ge {a b : List Nat} (ha : Lim a) (hb : Lim b) (na : Nrm a) (nb : Nrm b) (h : ¬ val a < val b) : 0 ≤ cmpL a b := by
  rw [cmpL_eq a b ha hb na nb, cmpN, if_neg h]; split <;> omega
theorem NatR.of_trim {B : Nat} {w : World} {a : Option Addr} {n c : Nat} {l : List Nat} (h : Res B w (.slice a n c) l) (hm : Lim l) : NatR B w (.slice a (nl l) c) (val l) :=
  ⟨l.take (nl l), h.cut (nl_le l), Lim_take hm _, Nrm_take _, val_take_nl l⟩
theorem NatR.keep {B : Nat} {w w' : World} {v : Value} {n : Nat} (h : NatR B w v n) (k : Keep w w') : NatR B w' v n := by
  obtain ⟨l, h1, h2⟩ := h; exact ⟨l, h1.keep k, h2⟩
theorem NatR.mono {B B' : Nat} {w : World} {v : Value} {n : Nat} (h : NatR B w v n) (hB : B' ≤ B) : NatR B' w v n := by
  obtain ⟨l, h1, h2⟩ := h; exact ⟨l, h1.mono hB, h2⟩
theorem Row.res {w : World} {g : Nat} {l : List Nat} (h : Row w g l) {B : Nat} (hB : B ≤ g) : Res B w (.slice (some ⟨g, 0, none⟩) l.length l.length) l :=
  .inr ⟨g, l, rfl, hB, h, Nat.le_refl _, List.take_of_length_le (Nat.le_refl _)⟩
theorem Row.rd0 {w : World} {g : Nat} {l : List Nat} (h : Row w g l) : Rd w (some ⟨g, 0, none⟩) l := by
  have := h.rd 0 l.length (by omega); simpa using this
set_option maxRecDepth 100000 in
set_option maxHeartbeats 400000 in
theorem divide_less (a b : Option Addr) (ca cb : Nat) (la lb : List Nat) (w : World) (hla : la.length ≤ 70368744177664) (hlb : lb.length ≤ 70368744177664) (hra : Rd w a la) (hrb : Rd w b lb) (hma : Lim la) (hmb : Lim lb) (na : Nrm la) (nb : Nrm lb) (hlt : val la < val lb) :
    Calls Try.prog 31 #[.slice a la.length ca, .slice b lb.length cb] w fun e w' => ∃ vq vr, e = .returned (.tuple #[vq, vr]) ∧ NatR w.heap.size w' vq (val la / val lb) ∧ NatR w.heap.size w' vr (val la % val lb) ∧ Keep w w' := by
  have hcm := cmpL_lt hma hmb na nb hlt
  have hc := compare_any a b ca cb la lb w (by omega) (by omega) hra hrb
  rw [hcm] at hc
  have hf := fun w1 (hk : Keep w w1) => fresh_any a ca la w1 hla (hra.keep hk)
  clear hcm
  go_enter Try.func31, Try.ntmps31
  go_wp2_with fail
  refine hc.mono ?_
  rintro e w1 ⟨rfl, hd⟩
  go_wp2_with fail
  refine (hf w1 hd.keep).mono ?_
  rintro e w2 ⟨rfl, hrow, hk, -⟩
  go_wp2
  go_ret2
  refine ⟨_, _, rfl, ⟨[], .inl ⟨rfl, rfl⟩, by intro x hx; simp at hx, by simp [Nrm], by rw [Nat.div_eq_of_lt hlt]; rfl⟩, ⟨la, (hrow.res (Nat.le_refl _)).mono hd.keep.le, hma, na, (Nat.mod_eq_of_lt hlt).symm⟩, hd.keep.trans hk⟩
set_option maxRecDepth 100000 in
set_option maxHeartbeats 400000 in
theorem divide_one (a b : Option Addr) (ca cb : Nat) (la : List Nat) (y : Nat) (w : World) (hla : la.length ≤ 70368744177664) (hra : Rd w a la) (hrb : Rd w b [y]) (hma : Lim la) (na : Nrm la) (hy0 : 0 < y) (hy : y < 4294967296) (hge : ¬ val la < y) :
    Calls Try.prog 31 #[.slice a la.length ca, .slice b 1 cb] w fun e w' => ∃ vq vr, e = .returned (.tuple #[vq, vr]) ∧ NatR w.heap.size w' vq (val la / y) ∧ NatR w.heap.size w' vr (val la % y) ∧ Keep w w' := by
  have hmb : Lim [y] := by intro x hx; simp at hx; omega
  have nb : Nrm [y] := by simp [Nrm]; omega
  have hcm := cmpL_ge hma hmb na nb (by simpa [val] using hge)
  have hc := compare_any a b ca cb la [y] w (by omega) (by simp) hra hrb
  have hf := fun w1 (hk : Keep w w1) => fresh_any a ca la w1 hla (hra.keep hk)
  generalize cmpL la [y] = z at hcm hc
  have hz : decide (z < 0) = false := by simp; omega
  go_enter Try.func31, Try.ntmps31
  go_wp2_with fail
  refine hc.mono ?_
  rintro e w1 ⟨rfl, hd⟩
  go_wp2_with fail
  refine (hf w1 hd.keep).mono ?_
  rintro e w2 ⟨rfl, hrow, hk, hsz⟩
  obtain ⟨b1, o1, rfl, hcb⟩ := (hrb.keep (hd.keep.trans hk)) 0 (by simp)
  simp at hcb
  go_wp2_with fail
  have hD := divideSmall_any w1.heap.size la.length la.length y la w2 hla (Nat.le_refl _) hrow hma hy0 hy
  rw [List.take_of_length_le (Nat.le_refl _), List.drop_eq_nil_of_le (Nat.le_refl _)] at hD
  refine hD.mono ?_
  rintro e w3 ⟨rfl, q, hrq, hql, hmq, hvq, hmu⟩
  rw [List.append_nil] at hrq
  clear hD
  have hk3 : Keep w w3 := (hd.keep.trans hk).mut hmu hd.keep.le
  have hrm : val la % y < 4294967296 := Nat.lt_trans (Nat.mod_lt _ hy0) hy
  obtain ⟨t, ht⟩ : ∃ t, val la % y = t := ⟨_, rfl⟩
  rw [ht] at hrm ⊢
  have Ht : Hid (val la % y = t) := ht
  clear ht
  have hT := trim_any (some ⟨w1.heap.size, 0, none⟩) q.length q w3 (Nat.le_refl _) (by omega) hrq.rd0
  rw [hql] at hT
  clear hcb
  go_wp2_with fail
  refine hT.mono ?_
  rintro e w4 ⟨rfl, rfl⟩
  go_wp2_with fail
  have hrow5 : Row (w4.alloc (Obj.cells #[Value.int IntKind.u32 ↑t] 51)) w4.heap.size [t] := by
    unfold Row; rw [heap_alloc_new]; simp [U]
  have hk5 : Keep w4 (w4.alloc (Obj.cells #[Value.int IntKind.u32 ↑t] 51)) := (Keep.refl w4).alloc _
  generalize w4.alloc _ = w5 at hrow5 hk5 ⊢
  refine (trim_any (some ⟨w4.heap.size, 0, none⟩) 1 [t] w5 (by simp) (by simp) hrow5.rd0).mono ?_
  rintro e w6 ⟨rfl, rfl⟩
  go_wp2
  go_ret2
  refine ⟨_, _, rfl, ?_, ?_, hk3.trans hk5⟩
  · have h1 := NatR.of_trim (((hrq.keep hk5).res (B := w.heap.size) hd.keep.le)) hmq
    rw [hql, hvq] at h1
    exact h1
  · have h1 := NatR.of_trim (hrow5.res (B := w.heap.size) hk3.le) (by intro x hx; simp at hx; omega)
    rw [Ht.out]
    simpa [val] using h1
end Go.Proofs.Ytagfkmbljkglpaa
