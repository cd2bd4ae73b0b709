import Derived.Test.YtbjidpooociamaaDoorN2
import Derived.Test.YtbjidpooociamaaDoorK7
import Derived.Test.YtbjidpooociamaaDoorG3
import Derived.Test.YtbjidpooociamaaDoorE6
import Derived.Test.YtbjidpooociamaaDoorShelf
import Derived.Test.YtbjidpooociamaaDoorJ4
import Derived.Test.YtbjidpooociamaaDoorI5
import Derived.Test.YtbjidpooociamaaDoorD7
import Derived.Test.YtbjidpooociamaaDoorC19
set_option linter.unusedVariables false
set_option linter.unusedSimpArgs false
namespace Go.Proofs.YtbjidpooociamaaDoor
open Go.RowKit Lb
def rndUp (a b : Nat) : Bool := decide (b < a % b + a % b) || (decide (a % b + a % b = b) && decide (a / b % 2 = 1))
def rnd (a b : Nat) : Nat := if rndUp a b then a / b + 1 else a / b
theorem bitV_zero (l : List Nat) (hm : Lim l) : bitV l 0 = decide (val l % 2 = 1) := by
  rcases l with _ | ⟨x, t⟩
  · rfl
  · have h := bitV_val (x :: t) 0 hm (by simp)
    simpa using h
theorem rnd_le (a b : Nat) (hb : b ≠ 0) : rnd a b ≤ a + 1 := by
  have := Nat.div_le_self a b
  unfold rnd; split <;> omega
set_option maxRecDepth 100000 in
set_option maxHeartbeats 1600000 in
theorem sum_one (a : Option Addr) (ca : Nat) (la : List Nat) (w : World) (hla : la.length ≤ 1050000) (hra : Rd w a la) (hma : Lim la) :
    Calls Tryd.prog 78 #[.slice a la.length ca, .slice (some ⟨w.heap.size, 0, none⟩) 1 1] (w.alloc (Obj.cells #[Value.int IntKind.u32 1] 62)) fun e w' => ∃ v, e = .returned v ∧ NatR w.heap.size w' v (val la + 1) ∧ Keep w w' := by
  have hrow5 : Row (w.alloc (Obj.cells #[Value.int IntKind.u32 1] 62)) w.heap.size [1] := by
    unfold Row; rw [heap_alloc_new]; simp [U]
  have hk5 : Keep w (w.alloc (Obj.cells #[Value.int IntKind.u32 1] 62)) := (Keep.refl w).alloc _
  have h := sum_any a (some ⟨w.heap.size, 0, none⟩) ca 1 la [1] _ (by omega) (by simp) (hra.keep hk5) hrow5.rd0 hma (by intro x hx; simp at hx; omega)
  refine h.mono ?_
  rintro e w2 ⟨v, rfl, h2, k2⟩
  refine ⟨v, rfl, ?_, hk5.trans k2⟩
  have := h2.mono (B' := w.heap.size) (by simp)
  simpa [val] using this
set_option maxRecDepth 100000 in
set_option maxHeartbeats 1600000 in
theorem rounded_any (a b : Option Addr) (ca cb : Nat) (la lb : List Nat) (w : World) (hla : la.length ≤ 1050000) (hlb : lb.length ≤ 1050000) (hra : Rd w a la) (hrb : Rd w b lb) (hma : Lim la) (hmb : Lim lb) (na : Nrm la) (nb : Nrm lb) (hb0 : lb ≠ []) :
    Calls Tryd.prog 90 #[.slice a la.length ca, .slice b lb.length cb] w fun e w' => ∃ v, e = .returned v ∧ NatR w.heap.size w' v (rnd (val la) (val lb)) ∧ Keep w w' := by
  have D := divide_any a b ca cb la lb w (by omega) (by omega) hra hrb hma hmb na nb hb0
  go_enter Tryd.func90, Tryd.ntmps90
  go_wp2_with fail
  refine D.mono ?_
  rintro e w1 ⟨vq, vr, rfl, hq, hr, k1⟩
  obtain ⟨aq, cq, lq, rfl, hcq, rq, mq, nq, eq, sq⟩ := hq.shape
  obtain ⟨ar, cr, lr, rfl, hcr, rr, mr, nr, er, sr⟩ := hr.shape
  go_wp2_with fail
  have hqv : val lq ≤ val la := by rw [eq]; exact Nat.div_le_self _ _
  have hll := len_le_of_val nq hma hqv
  have hlr : val lr ≤ val la := by rw [er]; exact Nat.mod_le _ _
  have hlr := len_le_of_val nr hma hlr
  refine (sum_any ar ar cr cr lr lr w1 (by omega) (by omega) rr rr mr mr).mono ?_
  rintro e w2 ⟨v2, rfl, h2, k2⟩
  obtain ⟨a2, c2, l2, rfl, hc2, r2, m2, n2, e2, s2⟩ := h2.shape
  have hl2 := sum_few mr mr n2 e2
  have C := compare_any a2 b c2 cb l2 lb w2 (by omega) (by omega) r2 ((hrb.keep k1).keep k2)
  rw [cmpL_eq l2 lb m2 hmb n2 nb, e2, er] at C
  have k12 := k1.trans k2
  have rq2 := rq.keep k2
  have hq2 := hq.keep k2
  go_wp2_with fail
  refine C.mono ?_
  clear C D
  rintro e w3 ⟨rfl, d3⟩
  have k3 := d3.keep
  have k13 := k12.trans k3
  have rq3 := rq2.keep k3
  have hq3 := hq2.keep k3
  have hB := Bit_any aq cq lq 0 w3 (by omega) rq3 mq (by omega) (by omega)
  rw [bitV_zero lq mq, eq] at hB
  have HD : Hid (rnd (val la) (val lb) = if rndUp (val la) (val lb) then val la / val lb + 1 else val la / val lb) := rfl
  rcases Nat.lt_trichotomy (val lb) (val la % val lb + val la % val lb) with hc | hc | hc
  · have h1 : cmpN (val la % val lb + val la % val lb) (val lb) = 1 := by unfold cmpN; rw [if_neg (by omega), if_pos hc]
    have h2 : Hid (rnd (val la) (val lb) = val la / val lb + 1) := by show _ = _; rw [HD.out]; unfold rndUp; simp [hc]
    rw [h1]
    clear hB HD h1 hc
    go_wp2_with fail
    refine (sum_one aq cq lq _ (by omega) rq3 mq).mono ?_
    rintro e w5 ⟨v5, rfl, h5, k5⟩
    go_wp2_with fail
    go_ret
    refine ⟨_, rfl, ?_, k13.trans k5⟩
    rw [h2.out, ← eq]; exact h5.mono k13.le
  · have h1 : cmpN (val la % val lb + val la % val lb) (val lb) = 0 := cmpN_self hc.symm
    rw [h1]
    by_cases hp : val la / val lb % 2 = 1
    · have h2 : Hid (rnd (val la) (val lb) = val la / val lb + 1) := by show _ = _; rw [HD.out]; unfold rndUp; simp [hc.symm, hp]
      rw [decide_eq_true hp] at hB
      clear HD h1 hc hp
      go_wp2_with fail
      refine hB.mono ?_
      rintro e w4 ⟨rfl, rfl⟩
      go_wp2_with fail
      refine (sum_one aq cq lq _ (by omega) rq3 mq).mono ?_
      rintro e w5 ⟨v5, rfl, h5, k5⟩
      go_wp2_with fail
      go_ret
      refine ⟨_, rfl, ?_, k13.trans k5⟩
      rw [h2.out, ← eq]; exact h5.mono k13.le
    · have h2 : Hid (rnd (val la) (val lb) = val la / val lb) := by show _ = _; rw [HD.out]; unfold rndUp; simp [hc.symm, hp]
      rw [decide_eq_false hp] at hB
      clear HD h1 hc hp
      go_wp2_with fail
      refine hB.mono ?_
      rintro e w4 ⟨rfl, rfl⟩
      go_wp2_with fail
      go_ret
      refine ⟨_, rfl, ?_, k13⟩
      rw [h2.out]; exact hq3
  · have h1 : cmpN (val la % val lb + val la % val lb) (val lb) = -1 := cmpN_less hc
    have h2 : Hid (rnd (val la) (val lb) = val la / val lb) := by show _ = _; rw [HD.out]; unfold rndUp; rw [decide_eq_false (show ¬ val lb < _ by omega), decide_eq_false (show ¬ val la % val lb + val la % val lb = val lb by omega)]; simp
    rw [h1]
    clear hB HD h1 hc
    go_wp2_with fail
    go_ret
    refine ⟨_, rfl, ?_, k13⟩
    rw [h2.out]; exact hq3
end Go.Proofs.YtbjidpooociamaaDoor
set_option linter.unusedVariables false
set_option linter.unusedSimpArgs false
namespace Go.Proofs.YtbjidpooociamaaDoor
open Go.RowKit Lb
def padS (n : Nat) (s : List Nat) : List Nat := List.replicate (n + 1 - s.length) 48 ++ s
def ptS (n : Nat) (s : List Nat) : List Nat := if n = 0 then s else s.take (s.length - n) ++ [46] ++ s.drop (s.length - n)
def decS (neg : Bool) (N n : Nat) : List Nat := if neg = true ∧ N ≠ 0 then 45 :: ptS n (padS n (dec N)) else ptS n (padS n (dec N))
theorem padS_len (n : Nat) (s : List Nat) : n < (padS n s).length ∧ (padS n s).length ≤ n + 1 + s.length := by
  unfold padS; simp; omega
theorem lenB_wide (l : List Nat) (h : l.length ≤ 1050000) (hm : Lim l) : lenB l ≤ 33600000 := by
  have h1 := nl_le l
  unfold lenB
  split
  · omega
  · have h2 := bitLen_le _ (Lim_getD hm (nl l - 1))
    omega
theorem rep_eq (c : Nat) : Lib.repeatL [(48 : UInt8)] c = (List.replicate c 48).map UInt8.ofNat := by
  induction c with
  | zero => rfl
  | succ c ih => simp [Lib.repeatL, ih, List.replicate_succ]
theorem Repeat_any (c : Nat) (w : World) (hc : c ≤ 140737488355328) :
    Calls Tryd.prog 91 #[.string ⟨#[48]⟩, .int .i64 (c : Nat)] w fun e w' => e = .returned (.string (S8 (List.replicate c 48))) ∧ Keep w w' := by
  match c, hc with
  | 0, _ => exact (Tryd.strings_Repeat_zero ⟨#[48]⟩ w).mono (by rintro e w2 ⟨rfl, rfl⟩; exact ⟨rfl, Keep.refl _⟩)
  | 1, _ => exact (Tryd.strings_Repeat_one ⟨#[48]⟩ w).mono (by rintro e w2 ⟨rfl, rfl⟩; exact ⟨rfl, Keep.refl _⟩)
  | c + 2, hc =>
    refine (Tryd.strings_Repeat_main ⟨#[48]⟩ (c + 2) w (by omega) (by omega) (by simp [ByteArray.size]; omega) (by simp [ByteArray.size])).mono ?_
    rintro e w2 ⟨rfl, k⟩
    refine ⟨?_, k⟩
    have := rep_eq (c + 2)
    simp only [S8]
    rw [← this]
set_option maxRecDepth 100000 in
set_option maxHeartbeats 1600000 in
theorem Decimal_zero (neg : Bool) (a b : Option Addr) (ca cb : Nat) (la lb : List Nat) (d : Int) (w : World) (hca : la.length ≤ ca) (hcb : lb.length ≤ cb) (hla : la.length ≤ 1048576) (hlb : lb.length ≤ 1048576) (hra : Rd w a la) (hrb : Rd w b lb) (hma : Lim la) (hmb : Lim lb) (hb : val lb = 0) (hd1 : -9223372036854775808 ≤ d) (hd2 : d ≤ 9223372036854775807) :
    Calls Tryd.prog 64 #[.agg #[.bool neg, .slice a la.length ca, .slice b lb.length cb], .int .i64 d] w fun e w' => e = .returned (.tuple #[.string ⟨#[]⟩, .int .i64 11]) ∧ Keep w w' := by
  have hk : Keep w (w.alloc (Obj.cells #[Value.bool neg, Value.slice a la.length ca, Value.slice b lb.length cb] 47)) := (Keep.refl w).alloc _
  have N := isNought_any b cb lb _ hcb (by omega) (hrb.keep hk)
  rw [decide_eq_true hb] at N
  go_enter Tryd.func64, Tryd.ntmps64
  go_wp2_with fail
  refine N.mono ?_
  rintro e w2 ⟨rfl, rfl⟩
  go_wp2_with fail
  go_ret2
  exact ⟨rfl, hk⟩
set_option maxRecDepth 100000 in
set_option maxHeartbeats 1600000 in
theorem Decimal_far (neg : Bool) (a b : Option Addr) (ca cb : Nat) (la lb : List Nat) (d : Int) (w : World) (hca : la.length ≤ ca) (hcb : lb.length ≤ cb) (hla : la.length ≤ 1048576) (hlb : lb.length ≤ 1048576) (hra : Rd w a la) (hrb : Rd w b lb) (hma : Lim la) (hmb : Lim lb) (hb : val lb ≠ 0) (hd1 : -9223372036854775808 ≤ d) (hd2 : d ≤ 9223372036854775807) (hd : d < 0 ∨ 1000 < d) :
    Calls Tryd.prog 64 #[.agg #[.bool neg, .slice a la.length ca, .slice b lb.length cb], .int .i64 d] w fun e w' => e = .returned (.tuple #[.string ⟨#[]⟩, .int .i64 2]) ∧ Keep w w' := by
  have hk : Keep w (w.alloc (Obj.cells #[Value.bool neg, Value.slice a la.length ca, Value.slice b lb.length cb] 47)) := (Keep.refl w).alloc _
  have N := isNought_any b cb lb _ hcb (by omega) (hrb.keep hk)
  rw [decide_eq_false hb] at N
  go_enter Tryd.func64, Tryd.ntmps64
  go_wp2_with fail
  refine N.mono ?_
  rintro e w2 ⟨rfl, rfl⟩
  rcases hd with h | h
  · have h1 : decide (d < 0) = true := decide_eq_true h
    go_wp2_with fail
    go_ret2
    exact ⟨rfl, hk⟩
  · have h1 : decide (d < 0) = false := decide_eq_false (by omega)
    have h2 : decide (1000 < d) = true := decide_eq_true h
    go_wp2_with fail
    go_ret2
    exact ⟨rfl, hk⟩
theorem val_trim (l : List Nat) : val (l.take (nl l)) = val l := val_take_nl l
theorem len_trim (l : List Nat) : (l.take (nl l)).length = nl l := by
  have := nl_le l
  simp; omega
theorem ten_few (n j K : Nat) (hn : n ≤ 1000) (hj : j ≤ n) (hK : 1000 < K) : 10 ^ j < 4294967296 ^ K :=
  Nat.lt_of_le_of_lt (Nat.pow_le_pow_left (show 10 ≤ 4294967296 by omega) j) (Nat.pow_lt_pow_right (by omega) (by omega))
theorem power_ten (n : Nat) (w : World) (hn : n ≤ 1000) :
    Calls Tryd.prog 83 #[.slice (some ⟨w.heap.size, 0, none⟩) 1 1, .int .i64 (n : Nat)] (w.alloc (Obj.cells #[Value.int IntKind.u32 10] 62)).drew fun e w' => ∃ v, e = .returned v ∧ NatS w.heap.size w' v (10 ^ n) ∧ Keep w w' := by
  have hrow5 : Row (w.alloc (Obj.cells #[Value.int IntKind.u32 10] 62)).drew w.heap.size [10] := by
    show Row (w.alloc (Obj.cells #[Value.int IntKind.u32 10] 62)) w.heap.size [10]
    unfold Row; rw [heap_alloc_new]; simp [U]
  have hk5 : Keep w (w.alloc (Obj.cells #[Value.int IntKind.u32 10] 62)).drew := ((Keep.refl w).alloc _).drew
  obtain ⟨K, hK1, hK2⟩ : ∃ K, 1000 < K ∧ K ≤ 1001 := ⟨1001, by omega, by omega⟩
  have h := power_any (some ⟨w.heap.size, 0, none⟩) 1 n K [10] _ (by simp) (by simp) (by omega) (by omega) (fun j hj => ten_few n j K hn hj hK1) hrow5.rd0 (by intro x hx; simp at hx; omega)
  refine h.mono ?_
  rintro e w2 ⟨v, rfl, h2, k2⟩
  refine ⟨v, rfl, ?_, hk5.trans k2⟩
  have := h2.mono (B' := w.heap.size) hk5.le
  simpa [val] using this
set_option maxRecDepth 100000 in
set_option maxHeartbeats 1600000 in
theorem Decimal_some (neg : Bool) (a b : Option Addr) (ca cb : Nat) (la lb : List Nat) (n : Nat) (w : World) (hca : la.length ≤ ca) (hcb : lb.length ≤ cb) (hla : la.length ≤ 1048576) (hlb : lb.length ≤ 1048576) (hra : Rd w a la) (hrb : Rd w b lb) (hma : Lim la) (hmb : Lim lb) (hb : val lb ≠ 0) (hn : n ≤ 1000) :
    Calls Tryd.prog 64 #[.agg #[.bool neg, .slice a la.length ca, .slice b lb.length cb], .int .i64 (n : Nat)] w fun e w' => e = .returned (.tuple #[.string (S8 (decS neg (rnd (val la * 10 ^ n) (val lb)) n)), .int .i64 0]) ∧ Keep w w' := by
  obtain ⟨K, hK1, hK2⟩ : ∃ K, 1000 < K ∧ K ≤ 1001 := ⟨1001, by omega, by omega⟩
  have hk : Keep w (w.alloc (Obj.cells #[Value.bool neg, Value.slice a la.length ca, Value.slice b lb.length cb] 47)) := (Keep.refl w).alloc _
  have hbx := Box.new w (Value.bool neg) (Value.slice a la.length ca) (Value.slice b lb.length cb)
  have N := isNought_any b cb lb _ hcb (by omega) (hrb.keep hk)
  have T1 := fun wx (k : Keep w wx) => trim_any a ca la wx hca (by omega) (hra.keep k)
  have T2 := fun wx (k : Keep w wx) => trim_any b cb lb wx hcb (by omega) (hrb.keep k)
  have M : ∀ (wx : World) (v : Value), Keep w wx → NatS w.heap.size wx v (10 ^ n) → Calls Tryd.prog 79 #[.slice a (nl la) ca, v] wx fun e w' => ∃ v, e = .returned v ∧ NatS wx.heap.size w' v (val la * 10 ^ n) ∧ Keep wx w' := by
    intro wx v k h
    obtain ⟨g, r, l, rfl, hg, hr, hle, htk, hc, hmr, hml, hnl, hv⟩ := h
    have hrl : Rd wx (some ⟨g, 0, none⟩) l := by have := hr.rd 0 l.length (by omega); simpa [htk] using this
    have hfw : l.length ≤ K := len_le_pow hnl K (by rw [hv]; exact ten_few n n K hn (Nat.le_refl _) hK1)
    have hp := product_any a (some ⟨g, 0, none⟩) ca r.length (la.take (nl la)) l wx (by have := nl_le la; simp; omega) (by omega) (by have := nl_le la; simp; omega) (by omega) (Rd.take (hra.keep k) _) hrl (Lim_take hma _) hml
    rw [val_trim, hv, len_trim] at hp
    exact hp
  have R : ∀ (wx : World) (v : Value), Keep w wx → NatS w.heap.size wx v (val la * 10 ^ n) → Calls Tryd.prog 90 #[v, .slice b (nl lb) cb] wx fun e w' => ∃ v, e = .returned v ∧ NatR wx.heap.size w' v (rnd (val la * 10 ^ n) (val lb)) ∧ Keep wx w' := by
    intro wx v k h
    obtain ⟨g, r, l, rfl, hg, hr, hle, htk, hc, hmr, hml, hnl, hv⟩ := h
    have hrl : Rd wx (some ⟨g, 0, none⟩) l := by have := hr.rd 0 l.length (by omega); simpa [htk] using this
    have hll : l.length ≤ la.length + K := len_le_pow hnl _ (by
      have h3 := ten_few n n K hn (Nat.le_refl _) hK1
      rw [hv, Nat.pow_add]
      exact Nat.mul_lt_mul_of_lt_of_le (val_lt hma) (Nat.le_of_lt h3) (Nat.pos_of_ne_zero (by simp)))
    have hp := rounded_any (some ⟨g, 0, none⟩) b r.length cb l (lb.take (nl lb)) wx (by omega) (by have := nl_le lb; simp; omega) hrl (Rd.take (hrb.keep k) _) hml (Lim_take hmb _) hnl (Nrm_take lb) (by intro h0; have := val_trim lb; rw [h0] at this; simp [val] at this; omega)
    rw [val_trim, hv, len_trim] at hp
    exact hp
  rw [decide_eq_false hb] at N
  go_enter Tryd.func64, Tryd.ntmps64
  go_wp2_with fail
  refine N.mono ?_
  rintro e w2 ⟨rfl, rfl⟩
  have h1 : decide ((n : Int) < 0) = false := decide_eq_false (by omega)
  have h2 : decide (1000 < (n : Int)) = false := decide_eq_false (by omega)
  go_wp2_with fail
  clear N
  generalize w.alloc _ = W at hk hbx ⊢
  generalize w.heap.size = g at hbx ⊢
  obtain ⟨d0, d1, d2⟩ := hbx.cells
  have kd : Keep w W.drew := hk.drew
  have kd2 : Keep w (W.alloc (Obj.cells #[Value.int IntKind.u32 10] 62)).drew := (hk.alloc _).drew
  have P := power_ten n W hn
  go_region_held3 (fun w' => w'.cell? ⟨g, 0, none⟩ = some (Value.bool neg) ∧ w'.cell? ⟨g, 1, none⟩ = some (Value.slice a la.length ca) ∧ w'.cell? ⟨g, 2, none⟩ = some (Value.slice b lb.length cb)) (go_keep) (first
    | (go_at_call_of 68 (Value.slice a la.length ca); refine (T1 _ ?_).mono ?_; (first | exact kd | exact kd2); rintro e wA ⟨rfl, rfl⟩)
    | (go_at_call 83; refine P.mono ?_; rintro e wB ⟨vB, rfl, hB, kB⟩; have kB2 := hk.trans kB; have hB2 := hB.mono hk.le; have x0 := Keep.cell kB d0; have x1 := Keep.cell kB d1; have x2 := Keep.cell kB d2)
    | (go_at_call 79; refine (M _ _ kB2 hB2).mono ?_; rintro e wC ⟨vC, rfl, hC, kC⟩; have kC2 := kB2.trans kC; have hC2 := hC.mono kB2.le; have y0 := Keep.cell kC x0; have y1 := Keep.cell kC x1; have y2 := Keep.cell kC x2)
    | (go_at_call 68; refine (T2 _ kC2).mono ?_; rintro e wD ⟨rfl, rfl⟩)
    | (go_at_call 90; refine (R _ _ kC2 hC2).mono ?_; rintro e wE ⟨vE, rfl, hE, kE⟩; have kE2 := kC2.trans kE; have hE2 := hE.mono kC2.le; have z0 := Keep.cell kE y0; have z1 := Keep.cell kE y1; have z2 := Keep.cell kE y2))
  all_goals
    go_simp
    have hNv : rnd (val la * 10 ^ n) (val lb) ≤ val la * 10 ^ n + 1 := rnd_le _ _ hb
    have hNl : rnd (val la * 10 ^ n) (val lb) < 4294967296 ^ (la.length + K + 1) := by
      have h3 := ten_few n n K hn (Nat.le_refl _) hK1
      have h4 : val la * 10 ^ n < 4294967296 ^ (la.length + K) := by
        rw [Nat.pow_add]
        exact Nat.mul_lt_mul_of_lt_of_le (val_lt hma) (Nat.le_of_lt h3) (Nat.pos_of_ne_zero (by simp))
      have h5 : 4294967296 ^ (la.length + K + 1) = 4294967296 ^ (la.length + K) * 4294967296 := Nat.pow_succ _ _
      rw [h5]
      generalize 4294967296 ^ (la.length + K) = Z at h4 ⊢
      clear h5 h3
      omega
    clear hNv
    obtain ⟨N, hNN⟩ : ∃ N, rnd (val la * 10 ^ n) (val lb) = N := ⟨_, rfl⟩
    have HNN : Hid (rnd (val la * 10 ^ n) (val lb) = N) := hNN
    rw [hNN] at hNl hE hE2
    clear hNN
    obtain ⟨aE, cE, lE, rfl, hcE, rE, mE, nE, eE, sE⟩ := hE2.shape
    have hlE := len_le_pow nE _ (by rw [eE]; exact hNl)
    have hBE := lenB_wide lE (by omega) mE
    have hsl := dec_lenB lE mE
    have PR := Print_any aE cE lE wE hcE (by omega) rE mE (by omega)
    rw [eE] at PR hsl
    clear hNl P R M T1 T2 kd kd2
    go_wp2_with fail
    refine PR.mono ?_
    rintro e wF ⟨rfl, kF⟩
    clear PR
    have HN0 : Hid ((lE.length = 0) ↔ N = 0) := by
      show _ ↔ _
      rw [← eE]
      constructor
      · intro h; rw [List.length_eq_zero_iff.1 h]; rfl
      · intro h
        rcases Nat.eq_zero_or_pos lE.length with h0 | h0
        · exact h0
        · have := val_pos nE (List.length_pos_iff.1 h0); omega
    have HG : Hid (decS neg N n = if neg = true ∧ N ≠ 0 then 45 :: ptS n (padS n (dec N)) else ptS n (padS n (dec N))) := rfl
    have HP : Hid (padS n (dec N) = List.replicate (n + 1 - (dec N).length) 48 ++ dec N) := rfl
    obtain ⟨hp1, hp2⟩ := padS_len n (dec N)
    have hsz : (S8 (dec N)).size = (dec N).length := S8_size _
    have hsl2 : (dec N).length ≤ 33600001 := by omega
    clear hsl hBE
    generalize dec N = s at *
    have z0' := Keep.cell kF z0
    go_wp2_with fail
    rw [show (max 0 ((n : Int) + 1 - (s.length : Int))) = ((n + 1 - s.length : Nat) : Int) by omega]
    refine (Repeat_any (n + 1 - s.length) wF (by omega)).mono ?_
    rintro e wG ⟨rfl, kG⟩
    have y0' := Keep.cell kG z0'
    have HC : S8 (List.replicate (n + 1 - s.length) 48) ++ S8 s = S8 (padS n s) := by rw [HP.out, S8_append]
    have hq : (S8 (padS n s)).size = (padS n s).length := S8_size _
    have hq1 : (S8 (List.replicate (n + 1 - s.length) 48)).size ≤ 1001 := by rw [S8_size]; simp; omega
    have HT : Hid (ptS n (padS n s) = if n = 0 then padS n s else (padS n s).take ((padS n s).length - n) ++ [46] ++ (padS n s).drop ((padS n s).length - n)) := rfl
    clear HP
    have hcase : (neg = false) ∨ (neg = true ∧ lE.length = 0) ∨ (neg = true ∧ 0 < lE.length) := by
      cases neg
      · exact .inl rfl
      · rcases Nat.eq_zero_or_pos lE.length with h | h
        · exact .inr (.inl ⟨rfl, h⟩)
        · exact .inr (.inr ⟨rfl, h⟩)
    have HE : Hid (decS neg N n = if neg = true ∧ 0 < lE.length then 45 :: ptS n (padS n s) else ptS n (padS n s)) := by
      show _ = _
      rw [HG.out]
      have h9 := HN0.out
      by_cases hz : N = 0
      · rw [if_neg (by simp [hz]), if_neg (by simp [h9.2 hz])]
      · have : 0 < lE.length := Nat.pos_of_ne_zero (fun h => hz (h9.1 h))
        by_cases hg : neg = true
        · rw [if_pos ⟨hg, hz⟩, if_pos ⟨hg, this⟩]
        · rw [if_neg (by simp [hg]), if_neg (by simp [hg])]
    clear HG HN0
    have kall := (kE2.trans kF).trans kG
    by_cases h0 : n = 0
    · have h3 : ¬ (0 < n) := by omega
      have HT0 : Hid (ptS n (padS n s) = padS n s) := by show _ = _; rw [HT.out, if_pos h0]
      clear HT h0
      rcases hcase with rfl | ⟨rfl, hz⟩ | ⟨rfl, hz⟩
      · go_wp2_with fail
        go_ret2
        exact ⟨by rw [HNN.out, HE.out, if_neg (by simp), HT0.out]; rfl, kall⟩
      · have hz2 : ¬ (0 < lE.length) := by omega
        go_wp2_with fail
        go_ret2
        exact ⟨by rw [HNN.out, HE.out, if_neg (by simp [hz]), HT0.out]; rfl, kall⟩
      · go_wp2_with fail
        go_ret2
        exact ⟨by rw [HNN.out, HE.out, if_pos (by simp [hz]), HT0.out, S8_cons]; rfl, kall⟩
    · have h3 : 0 < n := by omega
      go_wp2_with fail
      clear HC h0
      generalize padS n s = p at *
      obtain ⟨m, hm⟩ : ∃ m, p.length = m + n := ⟨p.length - n, by omega⟩
      have HT0 : Hid (ptS n p = p.take m ++ [46] ++ p.drop m) := by show _ = _; rw [HT.out, if_neg (by omega), show p.length - n = m by omega]
      have hm1 : (p.length : Int) - (n : Int) = (m : Int) := by omega
      have hs1 := str_to p m (by omega)
      have hs2 := str_from p m (by omega)
      have hA : (S8 (p.take m)).size ≤ 33700000 := by rw [S8_size]; simp; omega
      have hB : (S8 (p.drop m)).size ≤ 33700000 := by rw [S8_size]; simp; omega
      have hAB : (S8 (p.take m) ++ (⟨#[46]⟩ : ByteArray)).size ≤ 33700001 := by rw [ByteArray.size_append, show (⟨#[46]⟩ : ByteArray).size = 1 from rfl]; omega
      have hABC : (S8 (p.take m) ++ (⟨#[46]⟩ : ByteArray) ++ S8 (p.drop m)).size ≤ 67400001 := by rw [ByteArray.size_append]; omega
      have hpl : p.length ≤ 33700000 := by omega
      have hmw : IntKind.i64.wrap (m : Int) = (m : Int) := by rw [IntKind.wrap_i64]; omega
      have hml : m ≤ 33700000 := by omega
      clear hm HT hp1 hp2
      generalize p.take m = pA at *
      generalize p.drop m = pB at *
      go_region_with (fail)
      have HQ : Hid (S8 (ptS n p) = S8 pA ++ (⟨#[46]⟩ : ByteArray) ++ S8 pB) := by show _ = _; rw [HT0.out, S8_append, S8_append]; rfl
      clear HT0 hs1 hs2
      go_simp
      rcases hcase with rfl | ⟨rfl, hz⟩ | ⟨rfl, hz⟩
      · go_wp2_with fail
        go_ret2
        exact ⟨by rw [HNN.out, HE.out, if_neg (by simp), HQ.out]; rfl, kall.drew⟩
      · have hz2 : ¬ (0 < lE.length) := by omega
        go_wp2_with fail
        go_ret2
        exact ⟨by rw [HNN.out, HE.out, if_neg (by simp [hz]), HQ.out]; rfl, kall.drew⟩
      · go_wp2_with fail
        go_ret2
        exact ⟨by rw [HNN.out, HE.out, if_pos (by simp [hz]), S8_cons, HQ.out]; rfl, kall.drew⟩
end Go.Proofs.YtbjidpooociamaaDoor
namespace Go.Proofs.YtbjidpooociamaaDoor
open Go.RowKit Lb
set_option maxRecDepth 100000 in
set_option maxHeartbeats 1600000 in
theorem rPrint_wide (a : Option Addr) (ca : Nat) (la : List Nat) (w : World) (hca : la.length ≤ ca) (hla : la.length ≤ 1050000) (hra : Rd w a la) (hma : Lim la) :
    Calls Tryd.prog 30 #[.slice a la.length ca] w fun e w' => e = .returned (.string (S8 (dec (val la)))) ∧ Keep w w' := by
  have l1 := nl_le la
  have e1 : (la.take (nl la)).length ≤ 1050000 := by simp; omega
  have mx := Lim_take hma (nl la)
  have nx := Nrm_take la
  have vx := val_take_nl la
  have hN1 := rNorm_any a ca la w hca (by omega) hra
  rw [← vx]
  generalize la.take (nl la) = x at *
  clear vx l1 hra hma hca hla
  have hz1 : (fun (wx : World) => True) w := trivial
  clear hz1
  by_cases hx0 : x = []
  · subst hx0
    go_enter Tryd.func30, Tryd.ntmps30
    go_wp2_with fail
    refine hN1.mono ?_
    rintro e w1 ⟨v1, rfl, o1, k1⟩
    obtain ⟨a1, c1, rfl, hc1, r1⟩ := o1.shape
    go_wp2_with fail
    go_ret
    exact ⟨rfl, k1⟩
  · have hl0 : 0 < x.length := List.length_pos_iff.2 hx0
    have hV0 : 0 < val x := val_pos nx hx0
    have hVl : (rdig (val x)).length ≤ 10500000 := Nat.le_trans (rdig_len (10 * x.length) _ (Nat.lt_of_lt_of_le (val_lt mx) (B_ten x.length))) (by omega)
    have hdec := rdig_dec hV0
    obtain ⟨V, hV⟩ : ∃ V, val x = V := ⟨_, rfl⟩
    rw [hV] at hV0 hVl hdec ⊢
    have HD : Hid ((rdig V).reverse = dec V) := hdec
    have HV : Hid (val x = V) := hV
    have hg0 : ((x.length : Int) == 0) = false := by simp; omega
    have HV0 : Hid (0 < V) := hV0
    clear hdec hV hV0
    go_enter Tryd.func30, Tryd.ntmps30
    go_wp2_with fail
    refine hN1.mono ?_
    rintro e w1 ⟨v1, rfl, o1, k1⟩
    have o1' := o1
    obtain ⟨a1, c1, rfl, hc1, r1⟩ := o1.shape
    clear hN1
    go_wp2_with fail
    go_loopw [3, 4] (fun xv bv wr => ∃ (lx bk : List Nat), Own w.heap.size wr xv lx ∧ Lim lx ∧ Nrm lx ∧ lx.length ≤ 1050000 ∧ Own8 w.heap.size wr bv bk ∧ Hid (bk ++ rdig (val lx) = rdig V) ∧ Keep w wr) (fun xv _ wr => limbsAt wr xv)
    case atStart => exact ⟨x, [], o1', mx, nx, e1, World.ownsRow_nil _ _ _ _, by show _ = _; rw [HV.out]; rfl, k1⟩
    case round =>
      clear mx nx e1 hx0 hl0 o1 o1' r1 hc1
      obtain ⟨lx, bk, ox, mx, nx, hlx, ob, hbk, hkp⟩ := hrel
      obtain ⟨wo, hwo⟩ : ∃ wo, wo = wr := ⟨_, rfl⟩
      subst hwo
      have ox' := ox
      have ob' := ob
      obtain ⟨ax, cx, rfl, hcx, rx⟩ := ox.shape
      obtain ⟨ab, cb, rfl, hcb, rb⟩ := ob.shape
      have hms := limbsAt_eq (c := cx) rx
      by_cases h0 : lx = []
      · subst h0
        have hb : bk = rdig V := by
          have := hbk.out
          rw [show val [] = 0 from rfl, rdig_zero, List.append_nil] at this
          exact this
        subst hb
        have hbl : (rdig V).length ≤ 10500000 := hVl
        generalize hbe : rdig V = bs at *
        clear hbk hms hVl
        simp only [List.length_nil] at *
        go_wp2_with fail
        go_loopw [11, 12] (fun ov iv wr => ∃ (k : Nat) (os : List Nat), k ≤ bs.length ∧ iv = .int .i64 ((k : Int) - 1) ∧ Own8 wo.heap.size wr ov os ∧ Hid (os = (bs.drop k).reverse) ∧ Keep wo wr) (fun _ iv _ => (intOf iv + 1).toNat)
        case atStart => exact ⟨bs.length, [], by omega, by simp, World.ownsRow_nil _ _ _ _, by show _ = _; simp, Keep.refl _⟩
        case round =>
          obtain ⟨k, os, hk, rfl, oo, hos, hkx⟩ := hrel
          have oo' := oo
          obtain ⟨ao, co, rfl, hco, ro⟩ := oo.shape
          by_cases hk0 : k = 0
          · subst hk0
            have hg : decide ((0 : Int) ≤ ((0 : Nat) : Int) - 1) = false := by simp
            have ho1 : os = bs.reverse := by have := hos.out; simpa using this
            have Hos : Hid (os = dec V) := by show _ = _; rw [ho1]; exact HD.out
            have hpos : 0 < os.length := by rw [ho1, ← hbe, rdig_pos HV0.out]; simp
            obtain ⟨g, rfl, -⟩ := ro 0 hpos
            have hcv : (convert 72 9 (.slice (some ⟨g, 0, none⟩) os.length co)).run Tryd.prog wr = .ok (.string (S8 os)) wr := by
              have := run_convert_bytes_arg (P := Tryd.prog) wr 72 5 Tryd.underlying72 Tryd.underlying5 g 0 os.length co (os.map (fun x : Nat => (x : Int))) (by simp) (fun i hi => by
                obtain ⟨g', e, hc⟩ := ro i hi
                simp only [Option.some.injEq, Addr.mk.injEq, and_true] at e
                rw [e, Nat.zero_add, hc]; simp [List.getD, hi]) 9 Tryd.underlying9
              rw [this]
              simp [strOfNums, S8]
            clear ho1 hos hbe
            go_wp2_with fail
            go_ret
            exact ⟨by rw [← Hos.out]; rfl, hkp.trans hkx⟩
          · obtain ⟨j, rfl⟩ : ∃ j, k = j + 1 := ⟨k - 1, by omega⟩
            have hji : ((j + 1 : Nat) : Int) - 1 = (j : Int) := by omega
            rw [hji]
            obtain ⟨gb, rfl, hcj⟩ := rb j (by omega)
            have hcj := hkx.cell hcj
            obtain ⟨z, hz⟩ : ∃ z, bs.getD j 0 = z := ⟨_, rfl⟩
            rw [hz] at hcj
            have Hn : Hid (os ++ [z] = (bs.drop j).reverse) := by
              show _ = _
              rw [drop_cons_getD bs j (by omega), List.reverse_cons, hz, hos.out]
            have hol : os.length < 35184372088832 := by rw [hos.out]; simp; omega
            clear hz hos
            go_wp2_with (at_builtin; refine wpList_app8 rfl _ _ rfl os _ rfl _ z ?_ rfl oo' hkx hol ?_; rotate_left; intro v' w1' hown' hk' _)
            go_roundw
            case rel => exact ⟨j, _, by omega, by go_num, hown', Hn, hk'⟩
            case measure => simp [intOf]
            all_goals (first | rfl | simp)
      · have hl0 : 0 < lx.length := List.length_pos_iff.2 h0
        have hx0 : 0 < val lx := val_pos nx h0
        have hkA : Keep wo (wo.alloc (Obj.cells #[Value.int IntKind.u32 1000000000] 62)) := (Keep.refl wo).alloc _
        have hcA : (wo.alloc (Obj.cells #[Value.int IntKind.u32 1000000000] 62)).cell? ⟨wo.heap.size, 0, none⟩ = some (.int .u32 1000000000) := by
          have h1 : (wo.alloc (Obj.cells #[Value.int IntKind.u32 1000000000] 62)).heap[wo.heap.size]? = some (Obj.cells #[Value.int IntKind.u32 1000000000] 62 (0, 0)) := heap_alloc_new wo _
          rw [cell_of_row _ _ 0 _ 62 (0, 0) h1]; rfl
        go_wp2_with fail
        generalize wo.alloc _ = w2 at hkA hcA ⊢
        have hrA : Rd w2 (some ⟨wo.heap.size, 0, none⟩) [1000000000] := by
          intro j hj
          obtain rfl : j = 0 := by simp at hj; omega
          exact ⟨_, _, rfl, hcA⟩
        have hD := rDivMod_any ax (some ⟨wo.heap.size, 0, none⟩) cx 1 lx [1000000000] w2 hcx (by simp) (by omega) (by simp) (rx.keep hkA) hrA mx (by intro z hz; simp at hz; omega) (by decide)
        rw [show val [1000000000] = 1000000000 from rfl] at hD
        refine hD.mono ?_
        rintro e w3 ⟨vq, vr, lq, lr, rfl, oq, or3, mq, nq, eq, mr, nr, er, k3⟩
        clear hD
        have oq' := oq
        obtain ⟨aq, cq, rfl, hcq, rq⟩ := oq.shape
        obtain ⟨ar, cr, rfl, hcr, rr⟩ := or3.shape
        have hr9 : val lr < 1000000000 := by rw [er]; exact Nat.mod_lt _ (by omega)
        have hlr : lr.length ≤ 1 := len_le_pow nr 1 (by omega)
        have hS := rSmall_any ar cr lr w3 hcr (by omega) rr mr
        have hsv : smallV lr = val lr := by
          unfold smallV
          rw [if_pos (by have := nl_le lr; omega)]
        rw [hsv] at hS
        have kA3 := hkA.trans k3
        have hqlt : val lq < val lx := by rw [eq]; omega
        have hlq : lq.length ≤ lx.length := val_len mx nq (by omega)
        have hsplit : val lx = val lq * 10 ^ 9 + val lr := by
          rw [eq, er, show (10 : Nat) ^ 9 = 1000000000 from rfl]; omega
        have Hsp : Hid (bk ++ rdig (val lq * 10 ^ 9 + val lr) = rdig V) := by show _ = _; rw [← hsplit]; exact hbk.out
        have hbkl : bk.length ≤ 10500000 := by
          have := congrArg List.length hbk.out
          rw [List.length_append] at this
          omega
        have HQ : Hid (val lq < val lx) := hqlt
        clear hsplit hsv er eq hbk
        go_wp2_with fail
        refine hS.mono ?_
        rintro e w4 ⟨rfl, k4⟩
        clear hS
        have k14 := kA3.trans k4
        have hk4 := hkp.trans k14
        have ob4 := ob'.keep k14
        have oq4 : Own w.heap.size w4 (.slice aq lq.length cq) lq := (oq'.keep k4).mono (hkp.trans hkA).le
        generalize smallB lr = sb
        generalize val lr = n0 at hr9 Hsp ⊢
        go_wp2_with fail
        go_loopw [4, 8, 10] (fun bv nv iv wr => ∃ (i n : Nat) (bj : List Nat), i ≤ 9 ∧ iv = .int .i64 i ∧ nv = .int .u64 n ∧ n ≤ 1000000000 ∧ Hid (n < 10 ^ (9 - i)) ∧ Own8 w.heap.size wr bv bj ∧ Hid (bj ++ rdig (val lq * 10 ^ (9 - i) + n) = rdig V) ∧ Own w.heap.size wr (.slice aq lq.length cq) lq ∧ Keep w wr) (fun _ _ iv _ => 9 - (intOf iv).toNat)
        case atStart => exact ⟨0, n0, bk, by omega, rfl, rfl, by omega, by show _ < _; exact hr9, ob4, Hsp, oq4, hk4⟩
        case round =>
          obtain ⟨i, n, bj, hi, rfl, rfl, hn9, hnl, obj, hbj, oqx, hkx⟩ := hrel
          have obj' := obj
          obtain ⟨abj, cbj, rfl, hcbj, rbj⟩ := obj.shape
          have hbjl : bj.length < 35184372088832 := by
            have := congrArg List.length hbj.out
            rw [List.length_append] at this
            omega
          by_cases hgo : i < 9 ∧ (0 < n ∨ 0 < lq.length)
          · obtain ⟨h9, hor⟩ := hgo
            obtain ⟨e, he⟩ : ∃ e, 9 - i = e + 1 := ⟨8 - i, by omega⟩
            have hpos : 0 < val lq * 10 ^ (9 - i) + n := by
              rcases hor with h | h
              · omega
              · have h1 := val_pos nq (List.length_pos_iff.1 h)
                have h2 : 0 < 10 ^ (9 - i) := Nat.pos_of_ne_zero (by simp)
                have := Nat.mul_pos h1 h2
                omega
            have Hb : Hid ((bj ++ [48 + n % 10]) ++ rdig (val lq * 10 ^ (9 - (i + 1)) + n / 10) = rdig V) := by
              show _ = _
              have h1 := hbj.out
              rw [he] at h1 hpos
              rw [rdig_step _ _ _ hpos] at h1
              rw [show 9 - (i + 1) = e by omega, List.append_assoc]
              exact h1
            have Hl : Hid (n / 10 < 10 ^ (9 - (i + 1))) := by
              show _ < _
              have h1 : n < 10 ^ (9 - i) := hnl
              rw [he, Nat.pow_succ] at h1
              rw [show 9 - (i + 1) = e by omega]
              omega
            have hg1 : decide ((i : Int) < 9) = true := by simp; omega
            have hwv : (48 + (n : Int) % 10) % 256 = ((48 + n % 10 : Nat) : Int) := by omega
            clear hbj hnl hpos he
            by_cases hn0 : 0 < n
            · have hg2 : decide ((0 : Int) < (n : Int)) = true := by simp; omega
              clear hor
              go_wp2_with (at_builtin; refine wpList_app8 rfl _ _ rfl bj _ rfl _ (48 + n % 10) ?_ rfl obj' hkx hbjl ?_; rotate_left; intro v' w1' hown' hk' hb62)
              go_roundw
              case rel => exact ⟨i + 1, n / 10, _, by omega, by go_num, by simp, by omega, Hl, hown', Hb, oqx.blocks hb62, hk'⟩
              case measure => simp [intOf]; omega
              all_goals (first | rfl | (simp; omega) | simp)
            · have hg2 : decide ((0 : Int) < (n : Int)) = false := by simp; omega
              have hg4 : 0 < lq.length := by omega
              have hg3 : decide ((0 : Int) < (lq.length : Int)) = true := decide_eq_true (by omega)
              clear hor
              go_wp2_with (at_builtin; refine wpList_app8 rfl _ _ rfl bj _ rfl _ (48 + n % 10) ?_ rfl obj' hkx hbjl ?_; rotate_left; intro v' w1' hown' hk' hb62)
              go_roundw
              case rel => exact ⟨i + 1, n / 10, _, by omega, by go_num, by simp, by omega, Hl, hown', Hb, oqx.blocks hb62, hk'⟩
              case measure => simp [intOf]; omega
              all_goals (first | rfl | (simp; omega) | simp)
          · have hend : val lq * 10 ^ (9 - i) + n = val lq := by
              by_cases h9 : i = 9
              · subst h9
                have : n < 10 ^ (9 - 9) := hnl
                simp at this
                simp; omega
              · have hn0 : n = 0 := by omega
                have hq0 : lq = [] := List.eq_nil_of_length_eq_zero (by omega)
                subst hq0
                rw [hn0]; simp [val]
            have Hb : Hid (bj ++ rdig (val lq) = rdig V) := by show _ = _; rw [← hend]; exact hbj.out
            obtain ⟨aq2, cq2, eq2, hcq2, rq2⟩ := oqx.shape
            simp only [Value.slice.injEq, true_and] at eq2
            obtain ⟨rfl, rfl⟩ := eq2
            have hms2 := limbsAt_eq (c := cq) rq2
            have HM : Hid (limbsAt wr (.slice aq lq.length cq) < limbsAt wo (.slice ax lx.length cx)) := by show _ < _; rw [hms2, hms]; exact HQ.out
            clear hend hbj hnl hms hms2
            by_cases h9 : i < 9
            · have hg1 : decide ((i : Int) < 9) = true := by simp; omega
              have hg2 : decide ((0 : Int) < (n : Int)) = false := by simp; omega
              have hg4 : lq.length = 0 := by omega
              have hg3 : decide ((0 : Int) < (lq.length : Int)) = false := decide_eq_false (by omega)
              have oq0 : Own w.heap.size wr (.slice aq 0 cq) lq := by have := oqx; rw [hg4] at this; exact this
              have HM0 : Hid (limbsAt wr (.slice aq 0 cq) < limbsAt wo (.slice ax lx.length cx)) := by have := HM.out; rw [hg4] at this; exact this
              go_wp2_with fail
              go_roundw
              case rel => exact ⟨lq, bj, oq0, mq, nq, by omega, obj', Hb, hkx⟩
              case measure => exact HM0.out
            · have hg1 : decide ((i : Int) < 9) = false := by simp; omega
              go_wp2_with fail
              go_roundw
              case rel => exact ⟨lq, bj, oqx, mq, nq, by omega, obj', Hb, hkx⟩
              case measure => exact HM.out
end Go.Proofs.YtbjidpooociamaaDoor
set_option linter.unusedVariables false
set_option linter.unusedSimpArgs false
namespace Go.Proofs.YtbjidpooociamaaDoor
open Go.RowKit Lb
theorem lenB_nil (l : List Nat) (h : val l = 0) : lenB l = 0 := by
  unfold lenB; rw [if_pos (nl_val.2 h)]
theorem lenB_pos (l : List Nat) (hm : Lim l) (h : val l ≠ 0) : 0 < lenB l := by
  rcases Nat.eq_zero_or_pos (lenB l) with h0 | h0
  · have := val_lt_len l hm
    rw [h0] at this
    omega
  · exact h0
set_option maxRecDepth 100000 in
set_option maxHeartbeats 1600000 in
theorem rDecimal_zero (neg : Bool) (a b : Option Addr) (ca cb : Nat) (la lb : List Nat) (d : Int) (w : World) (hca : la.length ≤ ca) (hcb : lb.length ≤ cb) (hla : la.length ≤ 1048576) (hlb : lb.length ≤ 1048576) (hra : Rd w a la) (hrb : Rd w b lb) (hma : Lim la) (hmb : Lim lb) (hb : val lb = 0) (hd1 : -9223372036854775808 ≤ d) (hd2 : d ≤ 9223372036854775807) :
    Calls Tryd.prog 65 #[.agg #[.bool neg, .slice a la.length ca, .slice b lb.length cb], .int .i64 d] w fun e w' => e = .returned (.tuple #[.string ⟨#[]⟩, .int .i64 11]) ∧ Keep w w' := by
  have hk : Keep w (w.alloc (Obj.cells #[Value.bool neg, Value.slice a la.length ca, Value.slice b lb.length cb] 47)) := (Keep.refl w).alloc _
  have N := rLen_any b cb lb _ hcb (by omega) (hrb.keep hk) hmb
  rw [lenB_nil lb hb] at N
  go_enter Tryd.func65, Tryd.ntmps65
  go_wp2_with fail
  refine N.mono ?_
  rintro e w2 ⟨rfl, k2⟩
  go_wp2_with fail
  go_ret2
  exact ⟨rfl, hk.trans k2⟩
set_option maxRecDepth 100000 in
set_option maxHeartbeats 1600000 in
theorem rDecimal_far (neg : Bool) (a b : Option Addr) (ca cb : Nat) (la lb : List Nat) (d : Int) (w : World) (hca : la.length ≤ ca) (hcb : lb.length ≤ cb) (hla : la.length ≤ 1048576) (hlb : lb.length ≤ 1048576) (hra : Rd w a la) (hrb : Rd w b lb) (hma : Lim la) (hmb : Lim lb) (hb : val lb ≠ 0) (hd1 : -9223372036854775808 ≤ d) (hd2 : d ≤ 9223372036854775807) (hd : d < 0 ∨ 1000 < d) :
    Calls Tryd.prog 65 #[.agg #[.bool neg, .slice a la.length ca, .slice b lb.length cb], .int .i64 d] w fun e w' => e = .returned (.tuple #[.string ⟨#[]⟩, .int .i64 2]) ∧ Keep w w' := by
  have hk : Keep w (w.alloc (Obj.cells #[Value.bool neg, Value.slice a la.length ca, Value.slice b lb.length cb] 47)) := (Keep.refl w).alloc _
  have N := rLen_any b cb lb _ hcb (by omega) (hrb.keep hk) hmb
  have hp := lenB_pos lb hmb hb
  have hp2 : ((lenB lb : Int) == 0) = false := by simp; omega
  go_enter Tryd.func65, Tryd.ntmps65
  go_wp2_with fail
  refine N.mono ?_
  rintro e w2 ⟨rfl, k2⟩
  rcases hd with h | h
  · have h1 : decide (d < 0) = true := decide_eq_true h
    go_wp2_with fail
    go_ret2
    exact ⟨rfl, hk.trans k2⟩
  · have h1 : decide (d < 0) = false := decide_eq_false (by omega)
    have h2 : decide (1000 < d) = true := decide_eq_true h
    go_wp2_with fail
    go_ret2
    exact ⟨rfl, hk.trans k2⟩
def padM (n : Nat) : Value → Nat
  | .string x => n + 1 - x.size
  | _ => 0
theorem cmpL_take (x y : List Nat) (hx : Lim x) (hy : Lim y) : cmpL (x.take (nl x)) (y.take (nl y)) = cmpN (val x) (val y) := by
  rw [cmpL_eq _ _ (Lim_take hx _) (Lim_take hy _) (Nrm_take x) (Nrm_take y), val_trim, val_trim]
set_option maxRecDepth 100000 in
set_option maxHeartbeats 8000000 in
theorem rDecimal_some (neg : Bool) (a b : Option Addr) (ca cb : Nat) (la lb : List Nat) (n : Nat) (w : World) (hca : la.length ≤ ca) (hcb : lb.length ≤ cb) (hla : la.length ≤ 1048576) (hlb : lb.length ≤ 1048576) (hra : Rd w a la) (hrb : Rd w b lb) (hma : Lim la) (hmb : Lim lb) (hb : val lb ≠ 0) (hn : n ≤ 1000) :
    Calls Tryd.prog 65 #[.agg #[.bool neg, .slice a la.length ca, .slice b lb.length cb], .int .i64 (n : Nat)] w fun e w' => e = .returned (.tuple #[.string (S8 (decS neg (rnd (val la * 10 ^ n) (val lb)) n)), .int .i64 0]) ∧ Keep w w' := by
  obtain ⟨K, hK1, hK2⟩ : ∃ K, 1000 < K ∧ K ≤ 1001 := ⟨1001, by omega, by omega⟩
  have hk : Keep w (w.alloc (Obj.cells #[Value.bool neg, Value.slice a la.length ca, Value.slice b lb.length cb] 47)) := (Keep.refl w).alloc _
  have hbx := Box.new w (Value.bool neg) (Value.slice a la.length ca) (Value.slice b lb.length cb)
  have N := rLen_any b cb lb _ hcb (by omega) (hrb.keep hk) hmb
  have hp := lenB_pos lb hmb hb
  have hp2 : ((lenB lb : Int) == 0) = false := by simp; omega
  go_enter Tryd.func65, Tryd.ntmps65
  go_wp2_with fail
  refine N.mono ?_
  rintro e w2 ⟨rfl, k2⟩
  have h1 : decide ((n : Int) < 0) = false := decide_eq_false (by omega)
  have h2 : decide (1000 < (n : Int)) = false := decide_eq_false (by omega)
  have k02 := hk.trans k2
  have hbx2 := hbx.keep k2
  clear N hp hbx
  generalize w.heap.size = g at hbx2 ⊢
  go_wp2_with fail
  refine (rFrom_any 1 _ (by omega)).mono ?_
  rintro e w3 ⟨v3, l3, rfl, o3, m3, n3, e3, k3⟩
  have HR : Hid (∀ j, j ≤ n → 10 ^ j < 4294967296 ^ K) := fun j hj => ten_few n j K hn hj hK1
  go_wp2_with fail
  go_loopw [6, 7] (fun v i wr => ∃ (k : Nat) (l : List Nat), k ≤ n ∧ i = .int .i64 k ∧ Own w2.heap.size wr v l ∧ Lim l ∧ Nrm l ∧ Hid (val l = 10 ^ k) ∧ Keep w2 wr) (fun _ i _ => n - (intOf i).toNat)
  case atStart => exact ⟨0, l3, by omega, rfl, o3, m3, n3, by show _ = _; rw [e3, Nat.pow_zero], k3⟩
  case round =>
    clear o3 m3 n3 e3 k3
    obtain ⟨k, l, hkm, rfl, hown, hml, hnl, hvl, hkp⟩ := hrel
    obtain ⟨a5, c5, rfl, hc5, r5⟩ := hown.shape
    have hl5 : l.length ≤ K := len_le_pow hnl K (by rw [hvl.out]; exact HR.out _ (by omega))
    by_cases hkl : k < n
    · go_wp2_with fail
      refine (rFrom_any 10 _ (by omega)).mono ?_
      rintro e w6 ⟨v6, l6, rfl, o6, m6, p6, e6, k6⟩
      obtain ⟨a6, c6, rfl, hc6, r6⟩ := o6.shape
      have hl6 : l6.length ≤ 1 := len_le_pow p6 1 (by rw [e6]; omega)
      have M := rMul_any a5 a6 c5 c6 l l6 w6 (by omega) (by omega) (by omega) (r5.keep k6) r6 hml m6
      go_wp2_with fail
      refine M.mono ?_
      rintro e w7 ⟨v7, l7, rfl, o7, m7, p7, e7, k7⟩
      have E7 : Hid (val l7 = 10 ^ (k + 1)) := by show _ = _; rw [e7, hvl.out, e6, Nat.pow_succ]
      clear e7 M
      obtain ⟨a7, c7, rfl, hc7, r7⟩ := o7.shape
      go_wp2_with fail
      go_roundw
      case rel => exact ⟨k + 1, l7, by omega, by go_num, o7.mono (hkp.trans k6).le, m7, p7, E7, (hkp.trans k6).trans k7⟩
      case measure => simp [intOf]; omega
    · have hke : k = n := by omega
      have hvn : val l = 10 ^ n := by rw [hvl.out, hke]
      go_wp2_with fail
      clear hvl hke hkm hkl hown
      have k0r := k02.trans hkp
      have hbr := hbx2.keep hkp
      clear hbx2
      obtain ⟨d0, d1, d2⟩ := hbr.cells
      have kd : Keep w wr.drew := k0r.drew
      have M := rMul_any a a5 ca c5 la l wr.drew (by omega) (by omega) (by omega) (hra.keep kd) (show Rd wr a5 l from r5) hma hml
      have D : ∀ (wx : World) (ax : Option Addr) (cx : Nat) (lx : List Nat), Keep w wx → lx.length ≤ cx → lx.length ≤ 1050000 → Rd wx ax lx → Lim lx → Calls Tryd.prog 38 #[.slice ax lx.length cx, .slice b lb.length cb] wx _ := fun wx ax cx lx kx h1 h2 h3 h4 => rDivMod_any ax b cx cb lx lb wx h1 hcb (by omega) (by omega) h3 (hrb.keep kx) h4 hmb (fun h => hb (nl_val.1 h))
      go_region_held3 (fun w' => w'.cell? ⟨g, 0, none⟩ = some (Value.bool neg) ∧ w'.cell? ⟨g, 1, none⟩ = some (Value.slice a la.length ca) ∧ w'.cell? ⟨g, 2, none⟩ = some (Value.slice b lb.length cb)) (go_keep) (first
        | (go_at_call 36; refine M.mono ?_; rintro e wA ⟨vA, lA, rfl, oA, mA, nA, eA, kA⟩; obtain ⟨aA, cA, rfl, hcA, rA⟩ := oA.shape; have hlA := mul_few hma hml nA eA; have kA0 := kd.trans kA; have x0 := Keep.cell kA d0; have x1 := Keep.cell kA d1; have x2 := Keep.cell kA d2)
        | (go_at_call 38; refine (D _ _ _ _ kA0 hcA (by omega) rA mA).mono ?_; rintro e wB ⟨vq, vr, lq, lr, rfl, oq, or, mq, nq, eq, mr, nr, er, kB⟩; obtain ⟨aq, cq, rfl, hcq, rq⟩ := oq.shape; obtain ⟨ar, cr, rfl, hcr, rr⟩ := or.shape; have kB0 := kA0.trans kB; have y0 := Keep.cell kB x0; have y1 := Keep.cell kB x1; have y2 := Keep.cell kB x2))
      go_simp
      rw [eA, hvn] at eq er
      clear M D d0 d1 d2 x0 x1 x2 hvn r5 hml hnl hl5 hc5 HR oA mA nA eA rA hcA kA hbr
      obtain ⟨X, hX⟩ : ∃ X, val la * 10 ^ n = X := ⟨_, rfl⟩
      have hXb : X < 4294967296 ^ (la.length + K) := by
        have h3 := ten_few n n K hn (Nat.le_refl _) hK1
        rw [← hX, Nat.pow_add]
        exact Nat.mul_lt_mul_of_lt_of_le (val_lt hma) (Nat.le_of_lt h3) (Nat.pos_of_ne_zero (by simp))
      have hlq : lq.length ≤ la.length + K := len_le_pow nq _ (by rw [eq, hX]; exact Nat.lt_of_le_of_lt (Nat.div_le_self _ _) hXb)
      have hlr : lr.length ≤ la.length + K := len_le_pow nr _ (by rw [er, hX]; exact Nat.lt_of_le_of_lt (Nat.mod_le _ _) hXb)
      rw [hX] at eq er
      have HX : Hid (val la * 10 ^ n = X) := hX
      have HXb : Hid (X < 4294967296 ^ (la.length + K)) := hXb
      clear hX hXb
      have y0' : wB.drew.cell? ⟨g, 0, none⟩ = some (Value.bool neg) := y0
      have A := rAdd_any ar ar cr cr lr lr wB.drew (by omega) (by omega) (show Rd wB ar lr from rr) (show Rd wB ar lr from rr) mr mr
      have C : ∀ (wx : World) (ax : Option Addr) (cx : Nat) (lx : List Nat), Keep w wx → lx.length ≤ cx → lx.length ≤ 35184372088000 → Rd wx ax lx → Lim lx → Calls Tryd.prog 22 #[.slice ax lx.length cx, .slice b lb.length cb] wx fun e w' => e = .returned (.int .i64 (cmpN (val lx) (val lb))) ∧ Keep wx w' := fun wx ax cx lx kx h1 h2 h3 h4 => by
        have h := rCmp_any ax b cx cb lx lb wx h1 hcb h2 (by omega) h3 (hrb.keep kx)
        rw [cmpL_take lx lb h4 hmb] at h
        exact h
      have kBd : Keep w wB.drew := kB0.drew
      go_wp2_with fail
      go_region_held3 (fun w' => w'.cell? ⟨g, 0, none⟩ = some (Value.bool neg) ∧ w'.cell? ⟨g, 1, none⟩ = some (Value.slice a la.length ca) ∧ w'.cell? ⟨g, 2, none⟩ = some (Value.slice b lb.length cb)) (go_keep) (first
        | (go_at_call 34; refine A.mono ?_; rintro e wC ⟨vC, lC, rfl, oC, mC, nC, eC, kC⟩; obtain ⟨aC, cC, rfl, hcC, rC⟩ := oC.shape; have hlC := sum_few mr mr nC eC; have kC0 := kBd.trans kC; have z0 := Keep.cell kC y0; have z1 := Keep.cell kC y1; have z2 := Keep.cell kC y2)
        | (go_at_call 22; refine (C _ _ _ _ kC0 hcC (by omega) rC mC).mono ?_; rintro e wD ⟨rfl, kD⟩; have kD0 := kC0.trans kD; have u0 := Keep.cell kD z0; have u1 := Keep.cell kD z1; have u2 := Keep.cell kD z2))
      go_simp
      have kBC : Keep wB wC := ((Keep.refl wB).drew).trans kC
      have hB := rBit_any aq cq lq 0 wD (by omega) ((rq.keep kBC).keep kD) mq (by omega) (by omega)
      rw [bitV_zero lq mq, eq] at hB
      have rqD := (rq.keep kBC).keep kD
      have HD : Hid (rnd X (val lb) = if rndUp X (val lb) then X / val lb + 1 else X / val lb) := rfl
      obtain ⟨cc, hcc⟩ : ∃ cc, cmpN (X % val lb + X % val lb) (val lb) = cc := ⟨_, rfl⟩
      have hcase : (cc = 1 ∧ rnd X (val lb) = X / val lb + 1) ∨ (cc = 0 ∧ decide (X / val lb % 2 = 1) = true ∧ rnd X (val lb) = X / val lb + 1) ∨ (cc = 0 ∧ decide (X / val lb % 2 = 1) = false ∧ rnd X (val lb) = X / val lb) ∨ (cc = -1 ∧ rnd X (val lb) = X / val lb) := by
        rw [← hcc, HD.out]
        unfold rndUp
        rcases Nat.lt_trichotomy (val lb) (X % val lb + X % val lb) with hc | hc | hc
        · left; exact ⟨by unfold cmpN; rw [if_neg (by omega), if_pos hc], by simp [hc]⟩
        · by_cases hp : X / val lb % 2 = 1
          · right; left; exact ⟨cmpN_self hc.symm, by simp [hp], by simp [hc.symm, hp]⟩
          · right; right; left; exact ⟨cmpN_self hc.symm, by simp [hp], by simp [hc.symm, hp]⟩
        · right; right; right; exact ⟨cmpN_less hc, by rw [decide_eq_false (show ¬ val lb < X % val lb + X % val lb by omega), decide_eq_false (show ¬ X % val lb + X % val lb = val lb by omega)]; simp⟩
      rw [hcc]
      clear hcc HD C A
      have hPl := rFrom_any 1 wD (by omega)
      have hAd : ∀ (wx : World) (ax : Option Addr) (cx : Nat) (lx : List Nat), Keep wD wx → lx.length ≤ 1 → Rd wx ax lx → Lim lx → val lx = 1 → Calls Tryd.prog 34 #[.slice aq lq.length cq, .slice ax lx.length cx] wx fun e w' => ∃ v l, e = .returned v ∧ Own wx.heap.size w' v l ∧ Lim l ∧ Nrm l ∧ val l = X / val lb + 1 ∧ Keep wx w' := fun wx ax cx lx kx h1 h2 h3 h4 => by
        have h := rAdd_any aq ax cq cx lq lx wx (by omega) (by omega) (rqD.keep kx) h2 mq h3
        rw [eq, h4] at h
        exact h
      have HT : ∀ (j : Nat) (x : List Nat), Hid (ptS j x = if j = 0 then x else x.take (x.length - j) ++ [46] ++ x.drop (x.length - j)) := fun _ _ => rfl
      have HNb : Hid (rnd X (val lb) < 4294967296 ^ (la.length + K + 1)) := by
        show _ < _
        have h4 := HXb.out
        have h6 := rnd_le X (val lb) hb
        rw [show 4294967296 ^ (la.length + K + 1) = 4294967296 ^ (la.length + K) * 4294967296 from Nat.pow_succ _ _]
        generalize 4294967296 ^ (la.length + K) = Z at h4 ⊢
        omega
      obtain ⟨N, hNN⟩ : ∃ N, rnd X (val lb) = N := ⟨_, rfl⟩
      have HNN : Hid (rnd (val la * 10 ^ n) (val lb) = N) := by show _ = _; rw [HX.out, hNN]
      rw [hNN] at hcase HNb
      clear hNN
      rcases hcase with ⟨rfl, hN⟩ | ⟨rfl, h2, hN⟩ | ⟨rfl, h2, hN⟩ | ⟨rfl, hN⟩
      · clear hB
        go_wp2_with fail
        refine hPl.mono ?_
        rintro e wE ⟨vE, lE, rfl, oE, mE, nE, eE, kE⟩
        obtain ⟨aE, cE, rfl, hcE, rE⟩ := oE.shape
        go_wp2_with fail
        refine (hAd _ _ _ _ kE (len_le_pow nE 1 (by rw [eE]; omega)) rE mE eE).mono ?_
        rintro e wF ⟨vF, lF, rfl, oF, mF, nF, eF, kF⟩
        obtain ⟨aF, cF, rfl, hcF, rF⟩ := oF.shape
        have kQ := (kD0.trans kE).trans kF
        have cQ := Keep.cell kF (Keep.cell kE u0)
        rw [← hN] at eF
        clear oF oE rE mE nE eE kE kF hcE
        go_wp2_with fail
        have hlF : lF.length ≤ la.length + K + 1 := len_le_pow nF _ (by rw [eF]; exact HNb.out)
        have hBE := lenB_wide lF (by omega) mF
        have hsl := dec_lenB lF mF
        have PR := rPrint_wide aF cF lF wF hcF (by omega) rF mF
        rw [eF] at PR hsl
        have hsl2 : (dec N).length ≤ 33600001 := by omega
        have HE : Hid (decS neg N n = if neg = true ∧ 0 < lF.length then 45 :: ptS n (padS n (dec N)) else ptS n (padS n (dec N))) := by
          show _ = _
          have h8 : lF.length = 0 ↔ N = 0 := by
            rw [← eF]
            constructor
            · intro h; rw [List.length_eq_zero_iff.1 h]; rfl
            · intro h
              rcases Nat.eq_zero_or_pos lF.length with h0 | h0
              · exact h0
              · have := val_pos nF (List.length_pos_iff.1 h0); omega
          unfold decS
          by_cases hz : N = 0
          · rw [if_neg (by simp [hz]), if_neg (by simp [h8.2 hz])]
          · have : 0 < lF.length := Nat.pos_of_ne_zero (fun h => hz (h8.1 h))
            by_cases hg : neg = true
            · rw [if_pos ⟨hg, hz⟩, if_pos ⟨hg, this⟩]
            · rw [if_neg (by simp [hg]), if_neg (by simp [hg])]
        clear hBE hsl HNb HXb
        refine PR.mono ?_
        rintro e wG ⟨rfl, kG⟩
        have kall := kQ.trans kG
        have cG := Keep.cell kG cQ
        clear PR
        generalize dec N = s at *
        clear hAd hPl
        go_wp2_with fail
        go_loopw [12] (fun v wr => ∃ (j : Nat), j ≤ n + 1 - s.length ∧ v = .string (S8 (List.replicate j 48 ++ s)) ∧ wr = wG) (fun v _ => padM n v)
        case atStart => exact ⟨0, by omega, rfl, rfl⟩
        case round =>
          obtain ⟨j, hj, rfl, rfl⟩ := hrel
          have hsz := S8_size (List.replicate j 48 ++ s)
          have hln : (List.replicate j 48 ++ s).length = j + s.length := by simp
          rw [hln] at hsz
          by_cases hlt : j + s.length ≤ n
          · have hc : (⟨#[48]⟩ : ByteArray) ++ S8 (List.replicate j 48 ++ s) = S8 (List.replicate (j + 1) 48 ++ s) := by rw [List.replicate_succ, List.cons_append, S8_cons]; rfl
            have hsz2 := S8_size (List.replicate (j + 1) 48 ++ s)
            have hln2 : (List.replicate (j + 1) 48 ++ s).length = j + 1 + s.length := by simp
            rw [hln2] at hsz2
            obtain ⟨P, hP⟩ : ∃ P, S8 (List.replicate j 48 ++ s) = P := ⟨_, rfl⟩
            obtain ⟨P2, hP2⟩ : ∃ P2, S8 (List.replicate (j + 1) 48 ++ s) = P2 := ⟨_, rfl⟩
            have HP2 : Hid (S8 (List.replicate (j + 1) 48 ++ s) = P2) := hP2
            rw [hP, hP2] at hc
            rw [hP] at hsz ⊢
            rw [hP2] at hsz2
            have hj2 : Hid (j + 1 ≤ n + 1 - s.length) := by show _ ≤ _; omega
            obtain ⟨q, hq⟩ : ∃ q, j + s.length = q := ⟨_, rfl⟩
            rw [hq] at hsz hlt
            rw [show j + 1 + s.length = q + 1 by omega] at hsz2
            clear hln hln2 hP hP2 hj hq
            go_wp2_with fail
            go_roundw
            case rel => exact ⟨j + 1, hj2, by rw [HP2.out], by first | trivial | rfl⟩
            case measure => simp only [padM, hsz, hsz2]; omega
          · have hp : List.replicate j 48 ++ s = padS n s := by unfold padS; rw [show j = n + 1 - s.length by omega]
            rw [hp] at hsz hln ⊢
            rw [← hln] at hsz
            obtain ⟨hp1, hp2⟩ := padS_len n s
            have hlt' : ¬ ((padS n s).length ≤ n) := by omega
            clear hp hj hlt hln
            generalize padS n s = p at *
            have hcase : (neg = false) ∨ (neg = true ∧ lF.length = 0) ∨ (neg = true ∧ 0 < lF.length) := by
              cases neg
              · exact .inl rfl
              · rcases Nat.eq_zero_or_pos lF.length with h | h
                · exact .inr (.inl ⟨rfl, h⟩)
                · exact .inr (.inr ⟨rfl, h⟩)
            have HT' := HT n p
            clear HT
            by_cases h0 : n = 0
            · have h3 : ¬ (0 < n) := by omega
              have HT0 : Hid (ptS n p = p) := by show _ = _; rw [HT'.out, if_pos h0]
              clear HT' h0
              rcases hcase with rfl | ⟨rfl, hz⟩ | ⟨rfl, hz⟩
              · go_wp2_with fail
                go_ret2
                exact ⟨by rw [HNN.out, HE.out, if_neg (by simp), HT0.out]; rfl, kall⟩
              · have hz2 : ¬ (0 < lF.length) := by omega
                go_wp2_with fail
                go_ret2
                exact ⟨by rw [HNN.out, HE.out, if_neg (by simp [hz]), HT0.out]; rfl, kall⟩
              · go_wp2_with fail
                go_ret2
                exact ⟨by rw [HNN.out, HE.out, if_pos (by simp [hz]), HT0.out, S8_cons]; rfl, kall⟩
            · have h3 : 0 < n := by omega
              go_wp2_with fail
              clear h0
              obtain ⟨m, hm⟩ : ∃ m, p.length = m + n := ⟨p.length - n, by omega⟩
              have HT0 : Hid (ptS n p = p.take m ++ [46] ++ p.drop m) := by show _ = _; rw [HT'.out, if_neg (by omega), show p.length - n = m by omega]
              have hm1 : (p.length : Int) - (n : Int) = (m : Int) := by omega
              have hs1 := str_to p m (by omega)
              have hs2 := str_from p m (by omega)
              have hA : (S8 (p.take m)).size ≤ 33700000 := by rw [S8_size]; simp; omega
              have hBb : (S8 (p.drop m)).size ≤ 33700000 := by rw [S8_size]; simp; omega
              have hAB : (S8 (p.take m) ++ (⟨#[46]⟩ : ByteArray)).size ≤ 33700001 := by rw [ByteArray.size_append, show (⟨#[46]⟩ : ByteArray).size = 1 from rfl]; omega
              have hABC : (S8 (p.take m) ++ (⟨#[46]⟩ : ByteArray) ++ S8 (p.drop m)).size ≤ 67400001 := by rw [ByteArray.size_append]; omega
              have hpl : p.length ≤ 33700000 := by omega
              have hmw : IntKind.i64.wrap (m : Int) = (m : Int) := by rw [IntKind.wrap_i64]; omega
              have hml : m ≤ 33700000 := by omega
              clear hm HT' hp1 hp2 hlt'
              generalize p.take m = pA at *
              generalize p.drop m = pB at *
              go_region_with (fail)
              have HQ : Hid (S8 (ptS n p) = S8 pA ++ (⟨#[46]⟩ : ByteArray) ++ S8 pB) := by show _ = _; rw [HT0.out, S8_append, S8_append]; rfl
              clear HT0 hs1 hs2
              go_simp
              rcases hcase with rfl | ⟨rfl, hz⟩ | ⟨rfl, hz⟩
              · go_wp2_with fail
                go_ret2
                exact ⟨by rw [HNN.out, HE.out, if_neg (by simp), HQ.out]; rfl, kall.drew⟩
              · have hz2 : ¬ (0 < lF.length) := by omega
                go_wp2_with fail
                go_ret2
                exact ⟨by rw [HNN.out, HE.out, if_neg (by simp [hz]), HQ.out]; rfl, kall.drew⟩
              · go_wp2_with fail
                go_ret2
                exact ⟨by rw [HNN.out, HE.out, if_pos (by simp [hz]), S8_cons, HQ.out]; rfl, kall.drew⟩
      · rw [h2] at hB
        go_wp2_with fail
        refine hB.mono ?_
        rintro e w4 ⟨rfl, rfl⟩
        go_wp2_with fail
        refine hPl.mono ?_
        rintro e wE ⟨vE, lE, rfl, oE, mE, nE, eE, kE⟩
        obtain ⟨aE, cE, rfl, hcE, rE⟩ := oE.shape
        go_wp2_with fail
        refine (hAd _ _ _ _ kE (len_le_pow nE 1 (by rw [eE]; omega)) rE mE eE).mono ?_
        rintro e wF ⟨vF, lF, rfl, oF, mF, nF, eF, kF⟩
        obtain ⟨aF, cF, rfl, hcF, rF⟩ := oF.shape
        have kQ := (kD0.trans kE).trans kF
        have cQ := Keep.cell kF (Keep.cell kE u0)
        rw [← hN] at eF
        clear oF oE rE mE nE eE kE kF hcE
        go_wp2_with fail
        have hlF : lF.length ≤ la.length + K + 1 := len_le_pow nF _ (by rw [eF]; exact HNb.out)
        have hBE := lenB_wide lF (by omega) mF
        have hsl := dec_lenB lF mF
        have PR := rPrint_wide aF cF lF wF hcF (by omega) rF mF
        rw [eF] at PR hsl
        have hsl2 : (dec N).length ≤ 33600001 := by omega
        have HE : Hid (decS neg N n = if neg = true ∧ 0 < lF.length then 45 :: ptS n (padS n (dec N)) else ptS n (padS n (dec N))) := by
          show _ = _
          have h8 : lF.length = 0 ↔ N = 0 := by
            rw [← eF]
            constructor
            · intro h; rw [List.length_eq_zero_iff.1 h]; rfl
            · intro h
              rcases Nat.eq_zero_or_pos lF.length with h0 | h0
              · exact h0
              · have := val_pos nF (List.length_pos_iff.1 h0); omega
          unfold decS
          by_cases hz : N = 0
          · rw [if_neg (by simp [hz]), if_neg (by simp [h8.2 hz])]
          · have : 0 < lF.length := Nat.pos_of_ne_zero (fun h => hz (h8.1 h))
            by_cases hg : neg = true
            · rw [if_pos ⟨hg, hz⟩, if_pos ⟨hg, this⟩]
            · rw [if_neg (by simp [hg]), if_neg (by simp [hg])]
        clear hBE hsl HNb HXb
        refine PR.mono ?_
        rintro e wG ⟨rfl, kG⟩
        have kall := kQ.trans kG
        have cG := Keep.cell kG cQ
        clear PR
        generalize dec N = s at *
        clear hB hAd hPl
        go_wp2_with fail
        go_loopw [12] (fun v wr => ∃ (j : Nat), j ≤ n + 1 - s.length ∧ v = .string (S8 (List.replicate j 48 ++ s)) ∧ wr = wG) (fun v _ => padM n v)
        case atStart => exact ⟨0, by omega, rfl, rfl⟩
        case round =>
          obtain ⟨j, hj, rfl, rfl⟩ := hrel
          have hsz := S8_size (List.replicate j 48 ++ s)
          have hln : (List.replicate j 48 ++ s).length = j + s.length := by simp
          rw [hln] at hsz
          by_cases hlt : j + s.length ≤ n
          · have hc : (⟨#[48]⟩ : ByteArray) ++ S8 (List.replicate j 48 ++ s) = S8 (List.replicate (j + 1) 48 ++ s) := by rw [List.replicate_succ, List.cons_append, S8_cons]; rfl
            have hsz2 := S8_size (List.replicate (j + 1) 48 ++ s)
            have hln2 : (List.replicate (j + 1) 48 ++ s).length = j + 1 + s.length := by simp
            rw [hln2] at hsz2
            obtain ⟨P, hP⟩ : ∃ P, S8 (List.replicate j 48 ++ s) = P := ⟨_, rfl⟩
            obtain ⟨P2, hP2⟩ : ∃ P2, S8 (List.replicate (j + 1) 48 ++ s) = P2 := ⟨_, rfl⟩
            have HP2 : Hid (S8 (List.replicate (j + 1) 48 ++ s) = P2) := hP2
            rw [hP, hP2] at hc
            rw [hP] at hsz ⊢
            rw [hP2] at hsz2
            have hj2 : Hid (j + 1 ≤ n + 1 - s.length) := by show _ ≤ _; omega
            obtain ⟨q, hq⟩ : ∃ q, j + s.length = q := ⟨_, rfl⟩
            rw [hq] at hsz hlt
            rw [show j + 1 + s.length = q + 1 by omega] at hsz2
            clear hln hln2 hP hP2 hj hq
            go_wp2_with fail
            go_roundw
            case rel => exact ⟨j + 1, hj2, by rw [HP2.out], by first | trivial | rfl⟩
            case measure => simp only [padM, hsz, hsz2]; omega
          · have hp : List.replicate j 48 ++ s = padS n s := by unfold padS; rw [show j = n + 1 - s.length by omega]
            rw [hp] at hsz hln ⊢
            rw [← hln] at hsz
            obtain ⟨hp1, hp2⟩ := padS_len n s
            have hlt' : ¬ ((padS n s).length ≤ n) := by omega
            clear hp hj hlt hln
            generalize padS n s = p at *
            have hcase : (neg = false) ∨ (neg = true ∧ lF.length = 0) ∨ (neg = true ∧ 0 < lF.length) := by
              cases neg
              · exact .inl rfl
              · rcases Nat.eq_zero_or_pos lF.length with h | h
                · exact .inr (.inl ⟨rfl, h⟩)
                · exact .inr (.inr ⟨rfl, h⟩)
            have HT' := HT n p
            clear HT
            by_cases h0 : n = 0
            · have h3 : ¬ (0 < n) := by omega
              have HT0 : Hid (ptS n p = p) := by show _ = _; rw [HT'.out, if_pos h0]
              clear HT' h0
              rcases hcase with rfl | ⟨rfl, hz⟩ | ⟨rfl, hz⟩
              · go_wp2_with fail
                go_ret2
                exact ⟨by rw [HNN.out, HE.out, if_neg (by simp), HT0.out]; rfl, kall⟩
              · have hz2 : ¬ (0 < lF.length) := by omega
                go_wp2_with fail
                go_ret2
                exact ⟨by rw [HNN.out, HE.out, if_neg (by simp [hz]), HT0.out]; rfl, kall⟩
              · go_wp2_with fail
                go_ret2
                exact ⟨by rw [HNN.out, HE.out, if_pos (by simp [hz]), HT0.out, S8_cons]; rfl, kall⟩
            · have h3 : 0 < n := by omega
              go_wp2_with fail
              clear h0
              obtain ⟨m, hm⟩ : ∃ m, p.length = m + n := ⟨p.length - n, by omega⟩
              have HT0 : Hid (ptS n p = p.take m ++ [46] ++ p.drop m) := by show _ = _; rw [HT'.out, if_neg (by omega), show p.length - n = m by omega]
              have hm1 : (p.length : Int) - (n : Int) = (m : Int) := by omega
              have hs1 := str_to p m (by omega)
              have hs2 := str_from p m (by omega)
              have hA : (S8 (p.take m)).size ≤ 33700000 := by rw [S8_size]; simp; omega
              have hBb : (S8 (p.drop m)).size ≤ 33700000 := by rw [S8_size]; simp; omega
              have hAB : (S8 (p.take m) ++ (⟨#[46]⟩ : ByteArray)).size ≤ 33700001 := by rw [ByteArray.size_append, show (⟨#[46]⟩ : ByteArray).size = 1 from rfl]; omega
              have hABC : (S8 (p.take m) ++ (⟨#[46]⟩ : ByteArray) ++ S8 (p.drop m)).size ≤ 67400001 := by rw [ByteArray.size_append]; omega
              have hpl : p.length ≤ 33700000 := by omega
              have hmw : IntKind.i64.wrap (m : Int) = (m : Int) := by rw [IntKind.wrap_i64]; omega
              have hml : m ≤ 33700000 := by omega
              clear hm HT' hp1 hp2 hlt'
              generalize p.take m = pA at *
              generalize p.drop m = pB at *
              go_region_with (fail)
              have HQ : Hid (S8 (ptS n p) = S8 pA ++ (⟨#[46]⟩ : ByteArray) ++ S8 pB) := by show _ = _; rw [HT0.out, S8_append, S8_append]; rfl
              clear HT0 hs1 hs2
              go_simp
              rcases hcase with rfl | ⟨rfl, hz⟩ | ⟨rfl, hz⟩
              · go_wp2_with fail
                go_ret2
                exact ⟨by rw [HNN.out, HE.out, if_neg (by simp), HQ.out]; rfl, kall.drew⟩
              · have hz2 : ¬ (0 < lF.length) := by omega
                go_wp2_with fail
                go_ret2
                exact ⟨by rw [HNN.out, HE.out, if_neg (by simp [hz]), HQ.out]; rfl, kall.drew⟩
              · go_wp2_with fail
                go_ret2
                exact ⟨by rw [HNN.out, HE.out, if_pos (by simp [hz]), S8_cons, HQ.out]; rfl, kall.drew⟩
      · rw [h2] at hB
        go_wp2_with fail
        refine hB.mono ?_
        rintro e wF ⟨rfl, rfl⟩
        rw [← hN] at eq
        have eF := eq
        go_wp2_with fail
        have hlF : lq.length ≤ la.length + K + 1 := len_le_pow nq _ (by rw [eq]; exact HNb.out)
        have hBE := lenB_wide lq (by omega) mq
        have hsl := dec_lenB lq mq
        have PR := rPrint_wide aq cq lq wF hcq (by omega) rqD mq
        rw [eq] at PR hsl
        have hsl2 : (dec N).length ≤ 33600001 := by omega
        have HE : Hid (decS neg N n = if neg = true ∧ 0 < lq.length then 45 :: ptS n (padS n (dec N)) else ptS n (padS n (dec N))) := by
          show _ = _
          have h8 : lq.length = 0 ↔ N = 0 := by
            rw [← eq]
            constructor
            · intro h; rw [List.length_eq_zero_iff.1 h]; rfl
            · intro h
              rcases Nat.eq_zero_or_pos lq.length with h0 | h0
              · exact h0
              · have := val_pos nq (List.length_pos_iff.1 h0); omega
          unfold decS
          by_cases hz : N = 0
          · rw [if_neg (by simp [hz]), if_neg (by simp [h8.2 hz])]
          · have : 0 < lq.length := Nat.pos_of_ne_zero (fun h => hz (h8.1 h))
            by_cases hg : neg = true
            · rw [if_pos ⟨hg, hz⟩, if_pos ⟨hg, this⟩]
            · rw [if_neg (by simp [hg]), if_neg (by simp [hg])]
        clear hBE hsl HNb HXb
        refine PR.mono ?_
        rintro e wG ⟨rfl, kG⟩
        have kall := kD0.trans kG
        have cG := Keep.cell kG u0
        clear PR
        generalize dec N = s at *
        clear hB hAd hPl
        go_wp2_with fail
        go_loopw [12] (fun v wr => ∃ (j : Nat), j ≤ n + 1 - s.length ∧ v = .string (S8 (List.replicate j 48 ++ s)) ∧ wr = wG) (fun v _ => padM n v)
        case atStart => exact ⟨0, by omega, rfl, rfl⟩
        case round =>
          obtain ⟨j, hj, rfl, rfl⟩ := hrel
          have hsz := S8_size (List.replicate j 48 ++ s)
          have hln : (List.replicate j 48 ++ s).length = j + s.length := by simp
          rw [hln] at hsz
          by_cases hlt : j + s.length ≤ n
          · have hc : (⟨#[48]⟩ : ByteArray) ++ S8 (List.replicate j 48 ++ s) = S8 (List.replicate (j + 1) 48 ++ s) := by rw [List.replicate_succ, List.cons_append, S8_cons]; rfl
            have hsz2 := S8_size (List.replicate (j + 1) 48 ++ s)
            have hln2 : (List.replicate (j + 1) 48 ++ s).length = j + 1 + s.length := by simp
            rw [hln2] at hsz2
            obtain ⟨P, hP⟩ : ∃ P, S8 (List.replicate j 48 ++ s) = P := ⟨_, rfl⟩
            obtain ⟨P2, hP2⟩ : ∃ P2, S8 (List.replicate (j + 1) 48 ++ s) = P2 := ⟨_, rfl⟩
            have HP2 : Hid (S8 (List.replicate (j + 1) 48 ++ s) = P2) := hP2
            rw [hP, hP2] at hc
            rw [hP] at hsz ⊢
            rw [hP2] at hsz2
            have hj2 : Hid (j + 1 ≤ n + 1 - s.length) := by show _ ≤ _; omega
            obtain ⟨q, hq⟩ : ∃ q, j + s.length = q := ⟨_, rfl⟩
            rw [hq] at hsz hlt
            rw [show j + 1 + s.length = q + 1 by omega] at hsz2
            clear hln hln2 hP hP2 hj hq
            go_wp2_with fail
            go_roundw
            case rel => exact ⟨j + 1, hj2, by rw [HP2.out], by first | trivial | rfl⟩
            case measure => simp only [padM, hsz, hsz2]; omega
          · have hp : List.replicate j 48 ++ s = padS n s := by unfold padS; rw [show j = n + 1 - s.length by omega]
            rw [hp] at hsz hln ⊢
            rw [← hln] at hsz
            obtain ⟨hp1, hp2⟩ := padS_len n s
            have hlt' : ¬ ((padS n s).length ≤ n) := by omega
            clear hp hj hlt hln
            generalize padS n s = p at *
            have hcase : (neg = false) ∨ (neg = true ∧ lq.length = 0) ∨ (neg = true ∧ 0 < lq.length) := by
              cases neg
              · exact .inl rfl
              · rcases Nat.eq_zero_or_pos lq.length with h | h
                · exact .inr (.inl ⟨rfl, h⟩)
                · exact .inr (.inr ⟨rfl, h⟩)
            have HT' := HT n p
            clear HT
            by_cases h0 : n = 0
            · have h3 : ¬ (0 < n) := by omega
              have HT0 : Hid (ptS n p = p) := by show _ = _; rw [HT'.out, if_pos h0]
              clear HT' h0
              rcases hcase with rfl | ⟨rfl, hz⟩ | ⟨rfl, hz⟩
              · go_wp2_with fail
                go_ret2
                exact ⟨by rw [HNN.out, HE.out, if_neg (by simp), HT0.out]; rfl, kall⟩
              · have hz2 : ¬ (0 < lq.length) := by omega
                go_wp2_with fail
                go_ret2
                exact ⟨by rw [HNN.out, HE.out, if_neg (by simp [hz]), HT0.out]; rfl, kall⟩
              · go_wp2_with fail
                go_ret2
                exact ⟨by rw [HNN.out, HE.out, if_pos (by simp [hz]), HT0.out, S8_cons]; rfl, kall⟩
            · have h3 : 0 < n := by omega
              go_wp2_with fail
              clear h0
              obtain ⟨m, hm⟩ : ∃ m, p.length = m + n := ⟨p.length - n, by omega⟩
              have HT0 : Hid (ptS n p = p.take m ++ [46] ++ p.drop m) := by show _ = _; rw [HT'.out, if_neg (by omega), show p.length - n = m by omega]
              have hm1 : (p.length : Int) - (n : Int) = (m : Int) := by omega
              have hs1 := str_to p m (by omega)
              have hs2 := str_from p m (by omega)
              have hA : (S8 (p.take m)).size ≤ 33700000 := by rw [S8_size]; simp; omega
              have hBb : (S8 (p.drop m)).size ≤ 33700000 := by rw [S8_size]; simp; omega
              have hAB : (S8 (p.take m) ++ (⟨#[46]⟩ : ByteArray)).size ≤ 33700001 := by rw [ByteArray.size_append, show (⟨#[46]⟩ : ByteArray).size = 1 from rfl]; omega
              have hABC : (S8 (p.take m) ++ (⟨#[46]⟩ : ByteArray) ++ S8 (p.drop m)).size ≤ 67400001 := by rw [ByteArray.size_append]; omega
              have hpl : p.length ≤ 33700000 := by omega
              have hmw : IntKind.i64.wrap (m : Int) = (m : Int) := by rw [IntKind.wrap_i64]; omega
              have hml : m ≤ 33700000 := by omega
              clear hm HT' hp1 hp2 hlt'
              generalize p.take m = pA at *
              generalize p.drop m = pB at *
              go_region_with (fail)
              have HQ : Hid (S8 (ptS n p) = S8 pA ++ (⟨#[46]⟩ : ByteArray) ++ S8 pB) := by show _ = _; rw [HT0.out, S8_append, S8_append]; rfl
              clear HT0 hs1 hs2
              go_simp
              rcases hcase with rfl | ⟨rfl, hz⟩ | ⟨rfl, hz⟩
              · go_wp2_with fail
                go_ret2
                exact ⟨by rw [HNN.out, HE.out, if_neg (by simp), HQ.out]; rfl, kall.drew⟩
              · have hz2 : ¬ (0 < lq.length) := by omega
                go_wp2_with fail
                go_ret2
                exact ⟨by rw [HNN.out, HE.out, if_neg (by simp [hz]), HQ.out]; rfl, kall.drew⟩
              · go_wp2_with fail
                go_ret2
                exact ⟨by rw [HNN.out, HE.out, if_pos (by simp [hz]), S8_cons, HQ.out]; rfl, kall.drew⟩
      · rw [← hN] at eq
        have eF := eq
        go_wp2_with fail
        have hlF : lq.length ≤ la.length + K + 1 := len_le_pow nq _ (by rw [eq]; exact HNb.out)
        have hBE := lenB_wide lq (by omega) mq
        have hsl := dec_lenB lq mq
        have PR := rPrint_wide aq cq lq wD hcq (by omega) rqD mq
        rw [eq] at PR hsl
        have hsl2 : (dec N).length ≤ 33600001 := by omega
        have HE : Hid (decS neg N n = if neg = true ∧ 0 < lq.length then 45 :: ptS n (padS n (dec N)) else ptS n (padS n (dec N))) := by
          show _ = _
          have h8 : lq.length = 0 ↔ N = 0 := by
            rw [← eq]
            constructor
            · intro h; rw [List.length_eq_zero_iff.1 h]; rfl
            · intro h
              rcases Nat.eq_zero_or_pos lq.length with h0 | h0
              · exact h0
              · have := val_pos nq (List.length_pos_iff.1 h0); omega
          unfold decS
          by_cases hz : N = 0
          · rw [if_neg (by simp [hz]), if_neg (by simp [h8.2 hz])]
          · have : 0 < lq.length := Nat.pos_of_ne_zero (fun h => hz (h8.1 h))
            by_cases hg : neg = true
            · rw [if_pos ⟨hg, hz⟩, if_pos ⟨hg, this⟩]
            · rw [if_neg (by simp [hg]), if_neg (by simp [hg])]
        clear hBE hsl HNb HXb
        refine PR.mono ?_
        rintro e wG ⟨rfl, kG⟩
        have kall := kD0.trans kG
        have cG := Keep.cell kG u0
        clear PR
        generalize dec N = s at *
        clear hB hAd hPl
        go_wp2_with fail
        go_loopw [12] (fun v wr => ∃ (j : Nat), j ≤ n + 1 - s.length ∧ v = .string (S8 (List.replicate j 48 ++ s)) ∧ wr = wG) (fun v _ => padM n v)
        case atStart => exact ⟨0, by omega, rfl, rfl⟩
        case round =>
          obtain ⟨j, hj, rfl, rfl⟩ := hrel
          have hsz := S8_size (List.replicate j 48 ++ s)
          have hln : (List.replicate j 48 ++ s).length = j + s.length := by simp
          rw [hln] at hsz
          by_cases hlt : j + s.length ≤ n
          · have hc : (⟨#[48]⟩ : ByteArray) ++ S8 (List.replicate j 48 ++ s) = S8 (List.replicate (j + 1) 48 ++ s) := by rw [List.replicate_succ, List.cons_append, S8_cons]; rfl
            have hsz2 := S8_size (List.replicate (j + 1) 48 ++ s)
            have hln2 : (List.replicate (j + 1) 48 ++ s).length = j + 1 + s.length := by simp
            rw [hln2] at hsz2
            obtain ⟨P, hP⟩ : ∃ P, S8 (List.replicate j 48 ++ s) = P := ⟨_, rfl⟩
            obtain ⟨P2, hP2⟩ : ∃ P2, S8 (List.replicate (j + 1) 48 ++ s) = P2 := ⟨_, rfl⟩
            have HP2 : Hid (S8 (List.replicate (j + 1) 48 ++ s) = P2) := hP2
            rw [hP, hP2] at hc
            rw [hP] at hsz ⊢
            rw [hP2] at hsz2
            have hj2 : Hid (j + 1 ≤ n + 1 - s.length) := by show _ ≤ _; omega
            obtain ⟨q, hq⟩ : ∃ q, j + s.length = q := ⟨_, rfl⟩
            rw [hq] at hsz hlt
            rw [show j + 1 + s.length = q + 1 by omega] at hsz2
            clear hln hln2 hP hP2 hj hq
            go_wp2_with fail
            go_roundw
            case rel => exact ⟨j + 1, hj2, by rw [HP2.out], by first | trivial | rfl⟩
            case measure => simp only [padM, hsz, hsz2]; omega
          · have hp : List.replicate j 48 ++ s = padS n s := by unfold padS; rw [show j = n + 1 - s.length by omega]
            rw [hp] at hsz hln ⊢
            rw [← hln] at hsz
            obtain ⟨hp1, hp2⟩ := padS_len n s
            have hlt' : ¬ ((padS n s).length ≤ n) := by omega
            clear hp hj hlt hln
            generalize padS n s = p at *
            have hcase : (neg = false) ∨ (neg = true ∧ lq.length = 0) ∨ (neg = true ∧ 0 < lq.length) := by
              cases neg
              · exact .inl rfl
              · rcases Nat.eq_zero_or_pos lq.length with h | h
                · exact .inr (.inl ⟨rfl, h⟩)
                · exact .inr (.inr ⟨rfl, h⟩)
            have HT' := HT n p
            clear HT
            by_cases h0 : n = 0
            · have h3 : ¬ (0 < n) := by omega
              have HT0 : Hid (ptS n p = p) := by show _ = _; rw [HT'.out, if_pos h0]
              clear HT' h0
              rcases hcase with rfl | ⟨rfl, hz⟩ | ⟨rfl, hz⟩
              · go_wp2_with fail
                go_ret2
                exact ⟨by rw [HNN.out, HE.out, if_neg (by simp), HT0.out]; rfl, kall⟩
              · have hz2 : ¬ (0 < lq.length) := by omega
                go_wp2_with fail
                go_ret2
                exact ⟨by rw [HNN.out, HE.out, if_neg (by simp [hz]), HT0.out]; rfl, kall⟩
              · go_wp2_with fail
                go_ret2
                exact ⟨by rw [HNN.out, HE.out, if_pos (by simp [hz]), HT0.out, S8_cons]; rfl, kall⟩
            · have h3 : 0 < n := by omega
              go_wp2_with fail
              clear h0
              obtain ⟨m, hm⟩ : ∃ m, p.length = m + n := ⟨p.length - n, by omega⟩
              have HT0 : Hid (ptS n p = p.take m ++ [46] ++ p.drop m) := by show _ = _; rw [HT'.out, if_neg (by omega), show p.length - n = m by omega]
              have hm1 : (p.length : Int) - (n : Int) = (m : Int) := by omega
              have hs1 := str_to p m (by omega)
              have hs2 := str_from p m (by omega)
              have hA : (S8 (p.take m)).size ≤ 33700000 := by rw [S8_size]; simp; omega
              have hBb : (S8 (p.drop m)).size ≤ 33700000 := by rw [S8_size]; simp; omega
              have hAB : (S8 (p.take m) ++ (⟨#[46]⟩ : ByteArray)).size ≤ 33700001 := by rw [ByteArray.size_append, show (⟨#[46]⟩ : ByteArray).size = 1 from rfl]; omega
              have hABC : (S8 (p.take m) ++ (⟨#[46]⟩ : ByteArray) ++ S8 (p.drop m)).size ≤ 67400001 := by rw [ByteArray.size_append]; omega
              have hpl : p.length ≤ 33700000 := by omega
              have hmw : IntKind.i64.wrap (m : Int) = (m : Int) := by rw [IntKind.wrap_i64]; omega
              have hml : m ≤ 33700000 := by omega
              clear hm HT' hp1 hp2 hlt'
              generalize p.take m = pA at *
              generalize p.drop m = pB at *
              go_region_with (fail)
              have HQ : Hid (S8 (ptS n p) = S8 pA ++ (⟨#[46]⟩ : ByteArray) ++ S8 pB) := by show _ = _; rw [HT0.out, S8_append, S8_append]; rfl
              clear HT0 hs1 hs2
              go_simp
              rcases hcase with rfl | ⟨rfl, hz⟩ | ⟨rfl, hz⟩
              · go_wp2_with fail
                go_ret2
                exact ⟨by rw [HNN.out, HE.out, if_neg (by simp), HQ.out]; rfl, kall.drew⟩
              · have hz2 : ¬ (0 < lq.length) := by omega
                go_wp2_with fail
                go_ret2
                exact ⟨by rw [HNN.out, HE.out, if_neg (by simp [hz]), HQ.out]; rfl, kall.drew⟩
              · go_wp2_with fail
                go_ret2
                exact ⟨by rw [HNN.out, HE.out, if_pos (by simp [hz]), S8_cons, HQ.out]; rfl, kall.drew⟩
end Go.Proofs.YtbjidpooociamaaDoor
set_option linter.unusedVariables false
set_option linter.unusedSimpArgs false
namespace Go.Proofs.YtbjidpooociamaaDoor
open Go.RowKit Lb
theorem both_Write (neg : Bool) (a b : Option Addr) (ca cb : Nat) (la lb : List Nat) (w : World) (hca : la.length ≤ ca) (hcb : lb.length ≤ cb) (hla : la.length ≤ 1048576) (hlb : lb.length ≤ 1048576) (hra : Rd w a la) (hrb : Rd w b lb) (hma : Lim la) (hmb : Lim lb) :
    ∃ (S : ByteArray) (E : Int), ∀ wx, Keep w wx →
      (Calls Tryd.prog 62 #[.agg #[.bool neg, .slice a la.length ca, .slice b lb.length cb]] wx fun e w' => e = .returned (.tuple #[.string S, .int .i64 E]) ∧ Keep wx w') ∧
      (Calls Tryd.prog 63 #[.agg #[.bool neg, .slice a la.length ca, .slice b lb.length cb]] wx fun e w' => e = .returned (.tuple #[.string S, .int .i64 E]) ∧ Keep wx w') := by
  by_cases hb : val lb = 0
  · exact ⟨_, _, fun wx k => ⟨Write_zero neg a b ca cb la lb wx hca hcb (by omega) (by omega) (hra.keep k) (hrb.keep k) hma hmb hb, rWrite_zero neg a b ca cb la lb wx hca hcb hla hlb (hra.keep k) (hrb.keep k) hma hmb hb⟩⟩
  · exact ⟨_, _, fun wx k => ⟨Write_some neg a b ca cb la lb wx hca hcb hla hlb (hra.keep k) (hrb.keep k) hma hmb hb, rWrite_some neg a b ca cb la lb wx hca hcb hla hlb (hra.keep k) (hrb.keep k) hma hmb hb⟩⟩
theorem both_Decimal (neg : Bool) (a b : Option Addr) (ca cb : Nat) (la lb : List Nat) (d : Int) (w : World) (hca : la.length ≤ ca) (hcb : lb.length ≤ cb) (hla : la.length ≤ 1048576) (hlb : lb.length ≤ 1048576) (hra : Rd w a la) (hrb : Rd w b lb) (hma : Lim la) (hmb : Lim lb) (hd1 : -9223372036854775808 ≤ d) (hd2 : d ≤ 9223372036854775807) :
    ∃ (S : ByteArray) (E : Int), ∀ wx, Keep w wx →
      (Calls Tryd.prog 64 #[.agg #[.bool neg, .slice a la.length ca, .slice b lb.length cb], .int .i64 d] wx fun e w' => e = .returned (.tuple #[.string S, .int .i64 E]) ∧ Keep wx w') ∧
      (Calls Tryd.prog 65 #[.agg #[.bool neg, .slice a la.length ca, .slice b lb.length cb], .int .i64 d] wx fun e w' => e = .returned (.tuple #[.string S, .int .i64 E]) ∧ Keep wx w') := by
  by_cases hb : val lb = 0
  · exact ⟨_, _, fun wx k => ⟨Decimal_zero neg a b ca cb la lb d wx hca hcb hla hlb (hra.keep k) (hrb.keep k) hma hmb hb hd1 hd2, rDecimal_zero neg a b ca cb la lb d wx hca hcb hla hlb (hra.keep k) (hrb.keep k) hma hmb hb hd1 hd2⟩⟩
  · by_cases hd : d < 0 ∨ 1000 < d
    · exact ⟨_, _, fun wx k => ⟨Decimal_far neg a b ca cb la lb d wx hca hcb hla hlb (hra.keep k) (hrb.keep k) hma hmb hb hd1 hd2 hd, rDecimal_far neg a b ca cb la lb d wx hca hcb hla hlb (hra.keep k) (hrb.keep k) hma hmb hb hd1 hd2 hd⟩⟩
    · obtain ⟨n, rfl⟩ := Int.eq_ofNat_of_zero_le (show 0 ≤ d by omega)
      exact ⟨_, _, fun wx k => ⟨Decimal_some neg a b ca cb la lb n wx hca hcb hla hlb (hra.keep k) (hrb.keep k) hma hmb hb (by omega), rDecimal_some neg a b ca cb la lb n wx hca hcb hla hlb (hra.keep k) (hrb.keep k) hma hmb hb (by omega)⟩⟩
set_option maxRecDepth 100000 in
set_option maxHeartbeats 1600000 in
theorem law_writes (neg : Bool) (a b : Option Addr) (ca cb : Nat) (la lb : List Nat) (d : Int) (w : World) (hca : la.length ≤ ca) (hcb : lb.length ≤ cb) (hla : la.length ≤ 1048576) (hlb : lb.length ≤ 1048576) (hra : Rd w a la) (hrb : Rd w b lb) (hma : Lim la) (hmb : Lim lb) (hd1 : -9223372036854775808 ≤ d) (hd2 : d ≤ 9223372036854775807) :
    Calls Tryd.prog 9 #[.agg #[.bool neg, .slice a la.length ca, .slice b lb.length cb], .int .i64 d] w fun e w' => e = .returned (.bool true) ∧ Keep w w' := by
  obtain ⟨S, E, hW⟩ := both_Write neg a b ca cb la lb w hca hcb hla hlb hra hrb hma hmb
  obtain ⟨T, F, hD⟩ := both_Decimal neg a b ca cb la lb d w hca hcb hla hlb hra hrb hma hmb hd1 hd2
  have hk : Keep w (w.alloc (Obj.cells #[Value.bool neg, Value.slice a la.length ca, Value.slice b lb.length cb] 47)) := (Keep.refl w).alloc _
  have hbx := Box.new w (Value.bool neg) (Value.slice a la.length ca) (Value.slice b lb.length cb)
  go_enter Tryd.func9, Tryd.ntmps9
  go_wp2_with fail
  generalize w.alloc _ = W at hk hbx ⊢
  generalize w.heap.size = g at hbx ⊢
  refine (hW _ hk).1.mono ?_
  rintro e w1 ⟨rfl, k1⟩
  have q1 := hk.trans k1
  obtain ⟨c10, c11, c12⟩ := (hbx.keep k1).cells
  go_wp2_with fail
  refine (hW _ q1).2.mono ?_
  rintro e w2 ⟨rfl, k2⟩
  have q2 := q1.trans k2
  obtain ⟨c20, c21, c22⟩ := ((hbx.keep k1).keep k2).cells
  go_wp2_with fail
  refine (hD _ q2).1.mono ?_
  rintro e w3 ⟨rfl, k3⟩
  have q3 := q2.trans k3
  obtain ⟨c30, c31, c32⟩ := (((hbx.keep k1).keep k2).keep k3).cells
  go_wp2_with fail
  refine (hD _ q3).2.mono ?_
  rintro e w4 ⟨rfl, k4⟩
  have q4 := q3.trans k4
  go_wp2_with fail
  refine (lives_any w4).mono ?_
  rintro e w5 ⟨rfl, k5⟩
  go_wp2_with fail
  go_ret
  exact ⟨rfl, q4.trans k5⟩
end Go.Proofs.YtbjidpooociamaaDoor
