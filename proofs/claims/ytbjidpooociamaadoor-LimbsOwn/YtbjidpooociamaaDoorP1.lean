import Derived.Test.YtbjidpooociamaaDoorK9
import Derived.Test.YtbjidpooociamaaDoorE7
import Derived.Test.YtbjidpooociamaaDoorF5
set_option linter.unusedVariables false
set_option linter.unusedSimpArgs false
namespace Go.Proofs.YtbjidpooociamaaDoor
open Go.RowKit Lb
/-- A natural in a block of a run of blocks. -/
def NatQ (B C : Nat) (w : World) (v : Value) (n : Nat) : Prop := ∃ l, ((v = .slice none 0 0 ∧ l = []) ∨ ∃ g r, v = .slice (some ⟨g, 0, none⟩) l.length r.length ∧ B ≤ g ∧ g < C ∧ Row w g r ∧ l.length ≤ r.length ∧ r.take l.length = l) ∧ Lim l ∧ Nrm l ∧ val l = n
theorem NatQ.nil (B C : Nat) (w : World) : NatQ B C w (.slice none 0 0) 0 := ⟨[], .inl ⟨rfl, rfl⟩, by intro x hx; simp at hx, by simp [Nrm], rfl⟩
theorem NatQ.shape {B C : Nat} {w : World} {v : Value} {n : Nat} (h : NatQ B C w v n) : ∃ a l c, v = .slice a l c := by
  obtain ⟨l, (h | ⟨g, r, e, _⟩), _⟩ := h
  · exact ⟨none, 0, 0, h.1⟩
  · exact ⟨_, _, _, e⟩
theorem NatQ.of_trim {B C : Nat} {w : World} {g : Nat} {l : List Nat} (h : Row w g l) (hB : B ≤ g) (hC : g < C) (hm : Lim l) : NatQ B C w (.slice (some ⟨g, 0, none⟩) (nl l) l.length) (val l) := by
  have h1 := nl_le l
  have e1 : (l.take (nl l)).length = nl l := by simp; omega
  exact ⟨l.take (nl l), .inr ⟨g, l, by rw [e1], hB, hC, h, by omega, by rw [e1]⟩, Lim_take hm _, Nrm_take _, val_take_nl l⟩
theorem NatR.natQ {B : Nat} {w : World} {v : Value} {n : Nat} (h : NatR B w v n) : NatQ B w.heap.size w v n := by
  obtain ⟨l, h1, h2⟩ := h
  refine ⟨l, ?_, h2⟩
  rcases h1 with h | ⟨g, r, e, hb, hr, q⟩
  · exact .inl h
  · exact .inr ⟨g, r, e, hb, hr.lt, hr, q⟩
set_option maxRecDepth 100000 in
set_option maxHeartbeats 1600000 in
theorem divide_less_own (a b : Option Addr) (ca cb : Nat) (la lb : List Nat) (w : World) (hla : la.length ≤ 70368744177664) (hlb : lb.length ≤ 70368744177664) (hra : Rd w a la) (hrb : Rd w b lb) (hma : Lim la) (hmb : Lim lb) (na : Nrm la) (nb : Nrm lb) (hlt : val la < val lb) :
    Calls Tryd.prog 80 #[.slice a la.length ca, .slice b lb.length cb] w fun e w' => ∃ M vq vr, e = .returned (.tuple #[vq, vr]) ∧ w.heap.size ≤ M ∧ M ≤ w'.heap.size ∧ NatQ w.heap.size M w' vq (val la / val lb) ∧ NatQ M w'.heap.size w' vr (val la % val lb) ∧ Keep w w' := by
  have hcm := cmpL_lt hma hmb na nb hlt
  have hc := compare_any a b ca cb la lb w (by omega) (by omega) hra hrb
  rw [hcm] at hc
  have hf := fun w1 (hk : Keep w w1) => fresh_any a ca la w1 hla (hra.keep hk)
  clear hcm
  go_enter Tryd.func80, Tryd.ntmps80
  go_wp2_with fail
  refine hc.mono ?_
  rintro e w1 ⟨rfl, hd⟩
  go_wp2_with fail
  refine (hf w1 hd.keep).mono ?_
  rintro e w2 ⟨rfl, hrow, hk, -⟩
  go_wp2
  go_ret2
  refine ⟨w.heap.size, _, _, rfl, Nat.le_refl _, (hd.keep.trans hk).le, by rw [Nat.div_eq_of_lt hlt]; exact NatQ.nil _ _ _, ⟨la, .inr ⟨_, la, rfl, hd.keep.le, hrow.lt, hrow, Nat.le_refl _, List.take_of_length_le (Nat.le_refl _)⟩, hma, na, (Nat.mod_eq_of_lt hlt).symm⟩, hd.keep.trans hk⟩
set_option maxRecDepth 100000 in
set_option maxHeartbeats 1600000 in
theorem divide_one_own (a b : Option Addr) (ca cb : Nat) (la : List Nat) (y : Nat) (w : World) (hla : la.length ≤ 70368744177664) (hra : Rd w a la) (hrb : Rd w b [y]) (hma : Lim la) (na : Nrm la) (hy0 : 0 < y) (hy : y < 4294967296) (hge : ¬ val la < y) :
    Calls Tryd.prog 80 #[.slice a la.length ca, .slice b 1 cb] w fun e w' => ∃ M vq vr, e = .returned (.tuple #[vq, vr]) ∧ w.heap.size ≤ M ∧ M ≤ w'.heap.size ∧ NatQ w.heap.size M w' vq (val la / y) ∧ NatQ M w'.heap.size w' vr (val la % y) ∧ Keep w w' := by
  have hmb : Lim [y] := by intro x hx; simp at hx; omega
  have nb : Nrm [y] := by simp [Nrm]; omega
  have hcm := cmpL_ge hma hmb na nb (by simpa [val] using hge)
  have hc := compare_any a b ca cb la [y] w (by omega) (by simp) hra hrb
  have hf := fun w1 (hk : Keep w w1) => fresh_any a ca la w1 hla (hra.keep hk)
  generalize cmpL la [y] = z at hcm hc
  have hz : decide (z < 0) = false := by simp; omega
  go_enter Tryd.func80, Tryd.ntmps80
  go_wp2_with fail
  refine hc.mono ?_
  rintro e w1 ⟨rfl, hd⟩
  go_wp2_with fail
  refine (hf w1 hd.keep).mono ?_
  rintro e w2 ⟨rfl, hrow, hk, hsz⟩
  obtain ⟨b1, o1, rfl, hcb⟩ := (hrb.keep (hd.keep.trans hk)) 0 (by simp)
  simp at hcb
  go_wp2_with fail
  have hD := divideSmall_any w1.heap.size la.length la.length y la w2 hla (Nat.le_refl _) hrow hma hy0 hy
  rw [List.take_of_length_le (Nat.le_refl _), List.drop_eq_nil_of_le (Nat.le_refl _)] at hD
  refine hD.mono ?_
  rintro e w3 ⟨rfl, q, hrq, hql, hmq, hvq, hmu⟩
  rw [List.append_nil] at hrq
  clear hD
  have hk3 : Keep w w3 := (hd.keep.trans hk).mut hmu hd.keep.le
  have hrm : val la % y < 4294967296 := Nat.lt_trans (Nat.mod_lt _ hy0) hy
  obtain ⟨t, ht⟩ : ∃ t, val la % y = t := ⟨_, rfl⟩
  rw [ht] at hrm ⊢
  have Ht : Hid (val la % y = t) := ht
  clear ht
  have hT := trim_any (some ⟨w1.heap.size, 0, none⟩) q.length q w3 (Nat.le_refl _) (by omega) hrq.rd0
  rw [hql] at hT
  clear hcb
  go_wp2_with fail
  refine hT.mono ?_
  rintro e w4 ⟨rfl, rfl⟩
  go_wp2_with fail
  have hrow5 : Row (w4.alloc (Obj.cells #[Value.int IntKind.u32 ↑t] 62)) w4.heap.size [t] := by
    unfold Row; rw [heap_alloc_new]; simp [U]
  have hk5 : Keep w4 (w4.alloc (Obj.cells #[Value.int IntKind.u32 ↑t] 62)) := (Keep.refl w4).alloc _
  generalize w4.alloc _ = w5 at hrow5 hk5 ⊢
  refine (trim_any (some ⟨w4.heap.size, 0, none⟩) 1 [t] w5 (by simp) (by simp) hrow5.rd0).mono ?_
  rintro e w6 ⟨rfl, rfl⟩
  go_wp2
  go_ret2
  refine ⟨w4.heap.size, _, _, rfl, hk3.le, hk5.le, ?_, ?_, hk3.trans hk5⟩
  · have h1 := NatQ.of_trim (B := w.heap.size) (C := w4.heap.size) (hrq.keep hk5) hd.keep.le hrq.lt hmq
    rw [hql, hvq] at h1
    exact h1
  · have h1 := NatQ.of_trim (B := w4.heap.size) (C := w6.heap.size) hrow5 (Nat.le_refl _) hrow5.lt (by intro x hx; simp at hx; omega)
    rw [Ht.out]
    simpa [val] using h1
set_option maxRecDepth 100000 in
set_option maxHeartbeats 1600000 in
theorem divide_many_own (a b : Option Addr) (ca cb m : Nat) (la lb : List Nat) (w : World) (hla : la.length ≤ 70368744177663) (hra : Rd w a la) (hrb : Rd w b lb) (hma : Lim la) (hmb : Lim lb) (na : Nrm la) (nb : Nrm lb) (hn : lb.length = m + 2) (hge : ¬ val la < val lb) :
    Calls Tryd.prog 80 #[.slice a la.length ca, .slice b lb.length cb] w fun e w' => ∃ M vq vr, e = .returned (.tuple #[vq, vr]) ∧ w.heap.size ≤ M ∧ M ≤ w'.heap.size ∧ NatQ w.heap.size M w' vq (val la / val lb) ∧ NatQ M w'.heap.size w' vr (val la % val lb) ∧ Keep w w' := by
  have hcm := cmpL_ge hma hmb na nb hge
  have hle : lb.length ≤ la.length := len_le_of_val nb hma (by omega)
  have hc := compare_any a b ca cb la lb w (by omega) (by omega) hra hrb
  generalize cmpL la lb = z at hcm hc
  have hz : decide (z < 0) = false := by simp; omega
  rw [hn] at hc ⊢
  go_enter Tryd.func80, Tryd.ntmps80
  go_wp2_with fail
  refine hc.mono ?_
  rintro e w1 ⟨rfl, hd⟩
  obtain ⟨b1, o1, rfl, hcd1⟩ := (hrb.keep hd.keep) (m + 1) (by omega)
  obtain ⟨d1, hd1⟩ : ∃ x, lb.getD (m + 1) 0 = x := ⟨_, rfl⟩
  rw [hd1] at hcd1
  have hdl : d1 < 4294967296 := hd1 ▸ Lim_getD hmb _
  have hd0 : 0 < d1 := by
    rcases Nat.eq_zero_or_pos d1 with h | h
    · exfalso
      have h2 := val_ge nb (by intro h0; simp [h0] at hn)
      have h3 := val_take_succ lb (m + 1)
      rw [List.take_of_length_le (by omega), hd1, h, Nat.zero_mul, Nat.add_zero] at h3
      have h4 := take_bound lb hmb (m + 1)
      rw [hn, show m + 2 - 1 = m + 1 from rfl] at h2
      omega
    · exact h
  have hZ := Tryd.bits_LeadingZeros32 (d1 : Int) w1 (by omega) (by omega)
  rw [show ((d1 : Int)).toNat = d1 from rfl, bitLen_lib d1 (by omega)] at hZ
  have hbl := bitLen_le d1 hdl
  obtain ⟨s, hs⟩ : ∃ s, s + bitLen d1 = 32 := ⟨32 - bitLen d1, by omega⟩
  rw [show (32 - (bitLen d1 : Int)) = (s : Int) by omega] at hZ
  obtain ⟨hs31, hroomb, hleadb⟩ := lead_norm lb m d1 s _ hmb hn hd1 hd0 rfl hs
  have HLB : Hid (2147483648 * 4294967296 ^ (m + 1) ≤ val lb * 2 ^ s) := hleadb
  clear hs hbl hd1
  go_wp2_with fail
  refine hZ.mono ?_
  rintro e w2 ⟨rfl, rfl⟩
  have hMa := moved_any a ca s (la.length + 1) la w2 (by omega) (by omega) (by omega) (by
    have h1 := val_lt hma
    have h2 : 2 ^ s ≤ 4294967296 := Nat.le_trans (Nat.pow_le_pow_right (by omega) (show s ≤ 32 by omega)) (by decide)
    rw [Nat.pow_succ]
    exact Nat.mul_lt_mul_of_lt_of_le h1 h2 (by omega)) (hra.keep hd.keep) hma
  go_wp2_with fail
  refine hMa.mono ?_
  rintro e w3 ⟨ra, rfl, hrowA, hlA, hmA, hvA, hkA⟩
  have HG1 : Hid (w2.heap.size < w3.heap.size) := hrowA.lt
  have hMb := moved_any (some ⟨b1, o1, none⟩) cb s (m + 2) lb w3 (by omega) (by omega) (by omega) hroomb ((hrb.keep hd.keep).keep hkA) hmb
  rw [hn] at hMb
  go_wp2_with fail
  refine hMb.mono ?_
  rintro e w4 ⟨rb, rfl, hrowB, hlB, hmB, hvB, hkB⟩
  have HG2 : Hid (w3.heap.size < w4.heap.size) := hrowB.lt
  have hlead := lead_of rb m hmB hlB (by rw [hvB]; exact hleadb)
  have hrowA := hrowA.keep hkB
  obtain ⟨N, hN⟩ : ∃ N, la.length - lb.length + 1 = N := ⟨_, rfl⟩
  have hNi : (la.length : Int) - ((m : Int) + 2) + 1 = (N : Int) := by omega
  have hNb : N ≤ 70368744177664 := by omega
  have hNl : N + (m + 2) = la.length + 1 := by omega
  clear hMa hMb hZ hcd1 hc hroomb hleadb hN
  go_wp2_with (at_make; refine wpList_make32 _ rfl _ _ rfl _ _ _ _ N rfl rfl rfl rfl hNb ?_; intro w5 hrowQ hkQ hszQ)
  have hg0 : w.heap.size ≤ w2.heap.size := hd.keep.le
  have hg1 : w2.heap.size < w3.heap.size := HG1
  have hg2 : w3.heap.size < w4.heap.size := HG2
  have hk5 : Keep w w5 := ((hd.keep.trans hkA).trans hkB).trans hkQ
  have hrA5 := hrowA.keep hkQ
  have hrB5 := hrowB.keep hkQ
  have HD : Hid (val rb = val lb * 2 ^ s) := hvB
  have HA : Hid (val ra = val la * 2 ^ s) := hvA
  have H0 : Hid (val ra < 4294967296 ^ N * val rb) := by
    show _ < _
    have h1 := val_lt hma
    have h2 : 2 ^ s ≤ 2147483648 := Nat.le_trans (Nat.pow_le_pow_right (by omega) hs31) (by decide)
    have h3 : 2147483648 * 4294967296 ^ (m + 1) ≤ val rb := by rw [hvB]; exact HLB.out
    have h4 : val la * 2 ^ s < 4294967296 ^ la.length * 2147483648 := Nat.mul_lt_mul_of_lt_of_le h1 h2 (by omega)
    have h5 := Nat.mul_le_mul_left (4294967296 ^ N) h3
    have h6 : 4294967296 ^ N * (2147483648 * 4294967296 ^ (m + 1)) = 4294967296 ^ la.length * 2147483648 := by
      rw [show la.length = N + (m + 1) by omega, Nat.pow_add 4294967296 N (m + 1), Nat.mul_left_comm, Nat.mul_comm]
    rw [hvA]
    omega
  generalize w2.heap.size = g1 at *
  generalize w3.heap.size = g2 at *
  generalize w4.heap.size = g3 at *
  clear hkA hkB hkQ hvA hvB hrowA hrowB HLB HG1 HG2 hszQ hNi
  go_loopw [64] (fun i wr => ∃ (k : Nat) (rk qk : List Nat), k ≤ N ∧ i = .int .i64 k ∧ Row wr g1 rk ∧ Hid (rk.length = la.length + 1) ∧ Lim rk ∧ Row wr g2 rb ∧ Row wr g3 qk ∧ Hid (qk.length = N) ∧ Lim qk ∧ Hid (∀ j, j < N - k → qk.getD j 0 = 0) ∧ Hid (val qk * val rb + val rk = val ra) ∧ Hid (val rk < 4294967296 ^ (N - k) * val rb) ∧ Keep w wr) (fun i _ => N - (intOf i).toNat)
  case atStart => exact ⟨0, ra, _, by omega, rfl, hrA5, hlA, hmA, hrB5, hrowQ, by show _ = _; simp, by intro x hx; simp at hx; omega, by intro j _; simp [List.getD, List.getElem?_replicate]; split <;> rfl, by show _ = _; rw [val_rep]; simp, H0, hk5⟩
  case round =>
    obtain ⟨k, rk, qk, hkN, rfl, hrk, hlk, hmk, hrB, hrQ, hlq, hmq, hzq, hvk, hltk, hkp⟩ := hrel
    by_cases hkl : k < N
    · obtain ⟨p, hp⟩ : ∃ p, N - k = p + 1 := ⟨N - k - 1, by omega⟩
      rw [hp] at hzq hltk
      have hpi : (N : Int) - 1 - (k : Int) = (p : Int) := by omega
      have hrB' : Rd wr (some ⟨g2, 0, none⟩) rb := hrB.rd0
      have hoff : Off g1 (some ⟨g2, 0, none⟩) rb := by
        intro b' o' s' e _
        simp only [Option.some.injEq, Addr.mk.injEq] at e
        omega
      have hpN : p < N := by omega
      have hDL := divideLimb_any g1 p m (some ⟨g2, 0, none⟩) (m + 2) (la.length + 1 - p) rk rb wr (by have := hlk.out; omega) hrk hrB' hoff hmk hmB hlB (by omega) (by have := hlk.out; omega) hlead hltk.out
      have hsl : ∀ wx, (Instr.slice 22 (.slice (some ⟨g1, 0, none⟩) (la.length + 1) (la.length + 1)) (some (.int .i64 (p : Int))) (some (.int .i64 ((p : Int) + ((m : Int) + 2) + 1))) none).run Tryd.prog wx = .ok (.slice (some ⟨g1, p, none⟩) (m + 3) (la.length + 1 - p)) wx := by
        intro wx
        have h1 := slice32 wx g1 0 (la.length + 1) (la.length + 1) p (m + 3) (by omega) (by omega)
        rw [show ((p : Int) + ((m + 3 : Nat) : Int)) = (p : Int) + ((m : Int) + 2) + 1 by omega, Nat.zero_add] at h1
        exact h1
      clear hp
      go_wp2_with fail
      refine hDL.mono ?_
      rintro e w6 ⟨q0, r6, rfl, hq0, hr6, hl6, hm6, hv6, hlt6, hmu6⟩
      have hrB6 := hrB.mut hmu6 (by omega)
      have hrQ6 := hrQ.mut hmu6 (by omega)
      have hk6 := hkp.mut hmu6 hg0
      have hcq := hrQ6.cell p (by rw [hlq.out]; omega)
      have hfq := hrQ6.frozen p
      have H6 : Hid (val r6 + q0 * (4294967296 ^ p * val rb) = val rk) := hv6
      have H6l : Hid (val r6 < 4294967296 ^ p * val rb) := hlt6
      clear hv6 hlt6 hDL hsl hrk hrQ hrB hrB'
      go_wp2_with fail
      go_roundw
      case rel =>
        have hmS := (Mut.refl g3 w6).setCell p (.int .u32 (q0 : Nat))
        have hz0 := hzq.out p (by omega)
        have hset := val_set qk p q0 (by rw [hlq.out]; omega)
        rw [hz0, Nat.zero_mul, Nat.add_zero] at hset
        refine ⟨k + 1, r6, qk.set p q0, by omega, by go_num, hr6.mut hmS (by omega), by show _ = _; rw [hl6]; exact hlk.out, hm6, hrB6.mut hmS (by omega), hrQ6.set p q0, by show _ = _; rw [List.length_set]; exact hlq.out, Lim_set hmq _ _ hq0, ?_, ?_, ?_, hk6.setCell (p := ⟨g3, p, none⟩) (show w.heap.size ≤ g3 by omega) _⟩
        · intro j hj
          have := hzq.out j (by omega)
          simp only [List.getD] at this ⊢
          rw [List.getElem?_set_ne (by omega)]
          exact this
        · show _ = _
          have h1 := H6.out
          have h2 := hvk.out
          rw [hset, Nat.add_mul, Nat.mul_assoc]
          omega
        · show _ < _
          rw [show N - (k + 1) = p by omega]
          exact H6l.out
      case measure => simp [intOf]; omega
    · have hke : k = N := by omega
      subst hke
      rw [Nat.sub_self, Nat.pow_zero, Nat.one_mul] at hltk
      obtain ⟨hf1, hf2⟩ := div_end (val qk) (val rb) (val ra) (val rk) (val la) (val lb) (2 ^ s) (Nat.pos_of_ne_zero (by simp)) HA.out HD.out hvk.out hltk.out
      have HF1 : Hid (val qk = val la / val lb) := hf1
      have HF2 : Hid (val rk / 2 ^ s = val la % val lb) := hf2
      clear hf1 hf2
      have T1 := fun wx (h : Row wx g3 qk) => trim_any (some ⟨g3, 0, none⟩) k qk wx (by have := hlq.out; omega) (by have := hlq.out; omega) h.rd0
      have T2 := fun wx (h : Row wx g1 rk) => trim_any (some ⟨g1, 0, none⟩) (la.length + 1) rk wx (by have := hlk.out; omega) (by have := hlk.out; omega) h.rd0
      simp only [hlq.out] at T1
      simp only [hlk.out] at T2
      have e1 : (rk.take (nl rk)).length = nl rk := by have := nl_le rk; simp; omega
      have hL := fun wx (h : Row wx g1 rk) => lowered_any (some ⟨g1, 0, none⟩) (la.length + 1) s (rk.take (nl rk)) wx (by rw [e1]; have := nl_le rk; have := hlk.out; omega) (by rw [e1]; have := nl_le rk; have := hlk.out; omega) (by omega) (h.rd0.take _) (Lim_take hmk _)
      simp only [e1, val_take_nl] at hL
      go_wp2_with fail
      refine (T1 _ hrQ).mono ?_
      rintro e w6 ⟨rfl, rfl⟩
      go_wp2_with fail
      refine (T2 _ hrk).mono ?_
      rintro e w7 ⟨rfl, rfl⟩
      go_wp2_with fail
      refine (hL _ hrk).mono ?_
      rintro e w8 ⟨v8, rfl, n8, k8⟩
      go_wp2_with fail
      go_ret2
      refine ⟨_, _, _, rfl, hkp.le, k8.le, ?_, by rw [← HF2.out]; exact n8.natQ, hkp.trans k8⟩
      have h3 := NatQ.of_trim (B := w.heap.size) (hrQ.keep k8) (by omega) hrQ.lt hmq
      rw [hlq.out, HF1.out] at h3
      exact h3
theorem divide_own (a b : Option Addr) (ca cb : Nat) (la lb : List Nat) (w : World) (hla : la.length ≤ 70368744177663) (hlb : lb.length ≤ 70368744177664) (hra : Rd w a la) (hrb : Rd w b lb) (hma : Lim la) (hmb : Lim lb) (na : Nrm la) (nb : Nrm lb) (hb0 : lb ≠ []) :
    Calls Tryd.prog 80 #[.slice a la.length ca, .slice b lb.length cb] w fun e w' => ∃ M vq vr, e = .returned (.tuple #[vq, vr]) ∧ w.heap.size ≤ M ∧ M ≤ w'.heap.size ∧ NatQ w.heap.size M w' vq (val la / val lb) ∧ NatQ M w'.heap.size w' vr (val la % val lb) ∧ Keep w w' := by
  by_cases hlt : val la < val lb
  · exact divide_less_own a b ca cb la lb w (by omega) hlb hra hrb hma hmb na nb hlt
  · have h0 : 0 < lb.length := List.length_pos_iff.2 hb0
    by_cases h1 : lb.length ≤ 1
    · match lb, h0, h1 with
      | [y], _, _ =>
        have hy0 : 0 < y := by have := nb; simp [Nrm] at this; omega
        have hy : y < 4294967296 := hmb y (by simp)
        have h := divide_one_own a b ca cb la y w (by omega) hra hrb hma na hy0 hy (by simpa [val] using hlt)
        simpa [val] using h
    · obtain ⟨m, hm⟩ : ∃ m, lb.length = m + 2 := ⟨lb.length - 2, by omega⟩
      exact divide_many_own a b ca cb m la lb w hla hra hrb hma hmb na nb hm hlt
set_option maxRecDepth 100000 in
set_option maxHeartbeats 1600000 in
theorem DivMod_of_own (a b : Option Addr) (ca cb : Nat) (la lb : List Nat) (w : World) (hca : la.length ≤ ca) (hcb : lb.length ≤ cb) (hla : la.length ≤ 70368744177664) (hlb : lb.length ≤ 70368744177664) (hra : Rd w a la) (hrb : Rd w b lb)
    (hb0 : nl lb ≠ 0)
    (hdiv : Calls Tryd.prog 80 #[.slice a (nl la) ca, .slice b (nl lb) cb] w fun e w' => ∃ M vq vr, e = .returned (.tuple #[vq, vr]) ∧ w.heap.size ≤ M ∧ M ≤ w'.heap.size ∧ NatQ w.heap.size M w' vq (val la / val lb) ∧ NatQ M w'.heap.size w' vr (val la % val lb) ∧ Keep w w') :
    Calls Tryd.prog 37 #[.slice a la.length ca, .slice b lb.length cb] w fun e w' => ∃ M vq vr, e = .returned (.tuple #[vq, vr, .int .i64 0]) ∧ w.heap.size ≤ M ∧ M ≤ w'.heap.size ∧ NatQ w.heap.size M w' vq (val la / val lb) ∧ NatQ M w'.heap.size w' vr (val la % val lb) ∧ Keep w w' := by
  have t1 := trim_any a ca la w hca (by omega) hra
  have t2 := trim_any b cb lb w hcb (by omega) hrb
  have h0 : ((nl lb : Int) == 0) = false := by simp; omega
  go_enter Tryd.func37, Tryd.ntmps37
  go_wp2_with fail
  refine t1.mono ?_
  rintro e w' ⟨rfl, rfl⟩
  go_wp2_with fail
  refine t2.mono ?_
  rintro e w' ⟨rfl, rfl⟩
  go_wp2_with fail
  refine hdiv.mono ?_
  rintro e w1 ⟨M, vq, vr, rfl, m1, m2, hq, hr, hk⟩
  obtain ⟨aq, nq, cq, rfl⟩ := hq.shape
  obtain ⟨ar, nr, cr, rfl⟩ := hr.shape
  go_wp2
  go_ret3
  exact ⟨M, _, _, rfl, m1, m2, hq, hr, hk⟩
theorem DivMod_own (a b : Option Addr) (ca cb : Nat) (la lb : List Nat) (w : World) (hca : la.length ≤ ca) (hcb : lb.length ≤ cb) (hla : la.length ≤ 70368744177663) (hlb : lb.length ≤ 70368744177664) (hra : Rd w a la) (hrb : Rd w b lb) (hma : Lim la) (hmb : Lim lb) (hb0 : 0 < val lb) :
    Calls Tryd.prog 37 #[.slice a la.length ca, .slice b lb.length cb] w fun e w' => ∃ M vq vr, e = .returned (.tuple #[vq, vr, .int .i64 0]) ∧ w.heap.size ≤ M ∧ M ≤ w'.heap.size ∧ NatQ w.heap.size M w' vq (val la / val lb) ∧ NatQ M w'.heap.size w' vr (val la % val lb) ∧ Keep w w' := by
  have h1 := nl_le la
  have h2 := nl_le lb
  have e1 : (la.take (nl la)).length = nl la := by simp; omega
  have e2 : (lb.take (nl lb)).length = nl lb := by simp; omega
  have hv := val_take_nl lb
  have hn0 : nl lb ≠ 0 := by
    intro h
    rw [h] at hv
    simp [val] at hv
    omega
  have hd := divide_own a b ca cb (la.take (nl la)) (lb.take (nl lb)) w (by omega) (by omega) (hra.take _) (hrb.take _) (Lim_take hma _) (Lim_take hmb _) (Nrm_take la) (Nrm_take lb) (by intro h; rw [h] at e2; simp at e2; omega)
  rw [e1, e2, val_take_nl, val_take_nl] at hd
  exact DivMod_of_own a b ca cb la lb w hca hcb (by omega) hlb hra hrb hn0 hd
set_option maxRecDepth 100000 in
set_option maxHeartbeats 1600000 in
theorem Pow_own (a : Option Addr) (ca : Nat) (la : List Nat) (w : World) (hca : la.length ≤ ca) (hla : la.length ≤ 35184372088832) (hra : Rd w a la) (hma : Lim la) :
    Calls Tryd.prog 41 #[.slice a la.length ca, .int .i64 1] w fun e w' => ∃ v E n, e = .returned (.tuple #[v, .int .i64 E]) ∧ NatR w.heap.size w' v n ∧ n ≤ val la ∧ Keep w w' := by
  have hLen := fun wx (hk : Keep w wx) => Len_any a ca la wx hca (by omega) (hra.keep hk) hma
  have h1 := nl_le la
  have e1 : (la.take (nl la)).length = nl la := by simp; omega
  have t1 := fun wx (hk : Keep w wx) => trim_any a ca la wx hca (by omega) (hra.keep hk)
  by_cases hmany : 65536 < lenB la
  · generalize lenB la = Lb at *
    go_enter Tryd.func41, Tryd.ntmps41
    go_wp2_with fail
    go_quiet ((go_at_call 23; exact Calls.quiet_of (hLen _ ((Keep.refl w).drewN _))))
    have hk1 : Keep w (w.drewN nq) := (Keep.refl w).drewN _
    generalize w.drewN nq = w1 at hk1 ⊢
    go_wp2_with fail
    go_ret2
    exact ⟨_, _, 0, rfl, ⟨[], .inl ⟨rfl, rfl⟩, by intro x hx; simp at hx, by simp [Nrm], rfl⟩, Nat.zero_le _, hk1⟩
  · obtain ⟨K, hK, hK2⟩ : ∃ K, 65536 < 32 * K ∧ K ≤ 35184372088832 := ⟨2049, by omega, by omega⟩
    have hM := fun wx (hk : Keep w wx) => power_any a ca 1 K (la.take (nl la)) wx (by omega) (by omega) (by omega) (by omega) (by rw [val_take_nl]; exact pow_room la hma 1 K hK (by omega)) ((hra.keep hk).take _) (Lim_take hma _)
    rw [e1, val_take_nl] at hM
    have hq : lenB la ≤ 65536 := by omega
    generalize lenB la = Lb at *
    clear hmany
    go_enter Tryd.func41, Tryd.ntmps41
    go_wp2_with fail
    go_quiet ((go_at_call 23; exact Calls.quiet_of (hLen _ ((Keep.refl w).drewN _))))
    have hk1 : Keep w (w.drewN nq) := (Keep.refl w).drewN _
    generalize w.drewN nq = w1 at hk1 ⊢
    go_wp2_with fail
    refine (t1 _ hk1).mono ?_
    rintro e w2 ⟨rfl, rfl⟩
    go_wp2_with fail
    refine (hM _ hk1).mono ?_
    rintro e w3 ⟨v3, rfl, n3, k3⟩
    obtain ⟨a3, c3, l3, rfl, hc3, r3, m3, p3, e3, r3'⟩ := n3.natR.shape
    go_wp2_with fail
    go_ret2
    exact ⟨_, _, _, rfl, n3.natR.mono hk1.le, by rw [Nat.pow_one]; exact Nat.le_refl _, hk1.trans k3⟩
set_option maxRecDepth 100000 in
set_option maxHeartbeats 1600000 in
theorem Over_full_own (neg : Bool) (a b : Option Addr) (ca cb : Nat) (la lb : List Nat) (w : World) (hca : la.length ≤ ca) (hcb : lb.length ≤ cb) (hla : la.length ≤ 70368744177663) (hlb : lb.length ≤ 70368744177663) (hra : Rd w a la) (hrb : Rd w b lb)
    (hma : Lim la) (hmb : Lim lb) (hb0 : nl lb ≠ 0) (ha0 : nl la ≠ 0) :
    Calls Tryd.prog 50 #[.bool neg, .slice a la.length ca, .slice b lb.length cb] w fun e w' => ∃ M vn vd, e = .returned (.tuple #[.agg #[.bool neg, vn, vd], .int .i64 0]) ∧ w.heap.size ≤ M ∧ M ≤ w'.heap.size ∧ NatQ w.heap.size M w' vn (val la / Nat.gcd (val la) (val lb)) ∧ NatQ M w'.heap.size w' vd (val lb / Nat.gcd (val la) (val lb)) ∧ Keep w w' := by
  have hk : Keep w (w.alloc (Obj.cells #[Value.bool false, Value.slice none 0 0, Value.slice none 0 0] 47)) := (Keep.refl w).alloc _
  have hbox := Box.new w (Value.bool false) (Value.slice none 0 0) (Value.slice none 0 0)
  have t1 := trim_any a ca la _ hca (by omega) (hra.keep hk)
  have t2 := trim_any b cb lb _ hcb (by omega) (hrb.keep hk)
  have h0 : ((nl lb : Int) == 0) = false := by simp; omega
  have h0' : ((nl la : Int) == 0) = false := by simp; omega
  have l1 := nl_le la
  have l2 := nl_le lb
  have e1 : (la.take (nl la)).length = nl la := by simp; omega
  have e2 : (lb.take (nl lb)).length = nl lb := by simp; omega
  have a0 : la.take (nl la) ≠ [] := by intro h; rw [h] at e1; simp at e1; omega
  have b0 : lb.take (nl lb) ≠ [] := by intro h; rw [h] at e2; simp at e2; omega
  have va := val_take_nl la
  have vb := val_take_nl lb
  have na := Nrm_take la
  have nb := Nrm_take lb
  have ma := Lim_take hma (nl la)
  have mb := Lim_take hmb (nl lb)
  have ra := hra.take (nl la)
  have rb := hrb.take (nl lb)
  have vb0 : 0 < val lb := by
    rw [← vb]
    have h1 := val_ge nb b0
    have h2 : 0 < 4294967296 ^ ((lb.take (nl lb)).length - 1) := Nat.pos_of_ne_zero (by simp)
    omega
  generalize la.take (nl la) = x at *
  generalize lb.take (nl lb) = y at *
  go_enter Tryd.func50, Tryd.ntmps50
  go_wp2_with fail
  refine t1.mono ?_
  rintro e w' ⟨rfl, rfl⟩
  go_wp2_with fail
  refine t2.mono ?_
  rintro e w' ⟨rfl, rfl⟩
  go_wp2_with fail
  clear t1 t2
  generalize w.alloc _ = w1 at hk hbox ⊢
  have g1 := divisor_all a b ca cb x y w1 (by omega) (by omega) (by omega) (by omega) (ra.keep hk) (rb.keep hk) ma mb na nb
  rw [e1, e2, va, vb] at g1
  refine g1.mono ?_
  rintro e w2 ⟨v, rfl, hg, hk2⟩
  obtain ⟨ag, cg, lg, rfl, hcg, hrg, hmg, ng, hvg, -⟩ := hg.shape
  have hg0 : 0 < Nat.gcd (val la) (val lb) := Nat.gcd_pos_of_pos_right _ vb0
  have lg0 : lg ≠ [] := by intro h; rw [h] at hvg; simp [val] at hvg; omega
  have lgl : lg.length ≤ y.length := by
    rcases Nat.lt_or_ge y.length lg.length with h | h
    · have h1 := len_lt_val mb ng h
      have h2 := Nat.gcd_le_right (val la) vb0
      omega
    · exact h
  have hk02 := hk.trans hk2
  have d1 := divide_all a ag ca cg x lg w2 (by omega) (by omega) (ra.keep hk02) hrg ma hmg na ng lg0
  rw [e1, va, hvg] at d1
  clear g1 hg
  go_wp2_with fail
  refine d1.mono ?_
  rintro e w3 ⟨vq, vr, rfl, hq, hr3, hk3⟩
  obtain ⟨aq, cq, lq, rfl, -⟩ := hq.shape
  obtain ⟨ar3, cr3, lr3, rfl, -⟩ := hr3.shape
  have hk03 := hk02.trans hk3
  have d2 := divide_all b ag cb cg y lg w3 (by omega) (by omega) (rb.keep hk03) (hrg.keep hk3) mb hmg nb ng lg0
  rw [e2, vb, hvg] at d2
  clear d1
  go_wp2_with fail
  refine d2.mono ?_
  rintro e w4 ⟨vq2, vr2, rfl, hq2, hr4, hk4⟩
  obtain ⟨aq2, cq2, lq2, rfl, -⟩ := hq2.shape
  obtain ⟨ar4, cr4, lr4, rfl, -⟩ := hr4.shape
  have hk04 := hk03.trans hk4
  have hbox4 := ((hbox.keep hk2).keep hk3).keep hk4
  obtain ⟨c0, c1, c2⟩ := hbox4.cells
  have f0 := hbox4.free 0
  have f1 := hbox4.free 1
  have f2 := hbox4.free 2
  clear d2
  have hsz : w.heap.size < w4.heap.size := (Array.getElem?_eq_some_iff.1 hbox4).1
  go_wp2
  have hs1 : w.heap.size < w1.heap.size := (Array.getElem?_eq_some_iff.1 hbox).1
  have hs2 := hk2.le
  have hs3 := hk3.le
  refine bodyPost_ret (v := .tuple #[.agg #[.bool neg, .slice aq lq.length cq, .slice aq2 lq2.length cq2], .int .i64 0]) (by simp [results, Tryd.results50, go_sem, World.cell?_setCell_other, World.cell?_setCell_same, c0, c1, c2]) rfl ⟨w3.heap.size, _, _, rfl, by have := hk.le; omega, by have := hk4.le; simpa using this, ?_, ?_, ?_⟩
  · obtain ⟨l, h1, h2⟩ := hq
    refine ⟨l, ?_, h2⟩
    rcases h1 with h | ⟨g, r, e, hb, hr, q1, q2⟩
    · exact .inl h
    · have hlt := hr.lt
      exact .inr ⟨g, r, e, by omega, hlt, (((hr.keep hk4).mut ((Mut.refl _ _).setCell _ _) (by omega)).mut ((Mut.refl _ _).setCell _ _) (by omega)).mut ((Mut.refl _ _).setCell _ _) (by omega), q1, q2⟩
  · obtain ⟨l, h1, h2⟩ := hq2
    refine ⟨l, ?_, h2⟩
    rcases h1 with h | ⟨g, r, e, hb, hr, q1, q2⟩
    · exact .inl h
    · have hlt := hr.lt
      exact .inr ⟨g, r, e, hb, by simpa using hlt, ((hr.mut ((Mut.refl _ _).setCell _ _) (by omega)).mut ((Mut.refl _ _).setCell _ _) (by omega)).mut ((Mut.refl _ _).setCell _ _) (by omega), q1, q2⟩
  · exact ((hk04.setCell (Nat.le_refl _) _).setCell (Nat.le_refl _) _).setCell (Nat.le_refl _) _
set_option maxRecDepth 100000 in
set_option maxHeartbeats 1600000 in
theorem Over_nought_own (neg : Bool) (a b : Option Addr) (ca cb : Nat) (la lb : List Nat) (w : World) (hca : la.length ≤ ca) (hcb : lb.length ≤ cb) (hla : la.length ≤ 70368744177663) (hlb : lb.length ≤ 70368744177663) (hra : Rd w a la) (hrb : Rd w b lb)
    (hb0 : nl lb ≠ 0) (ha0 : nl la = 0) :
    Calls Tryd.prog 50 #[.bool neg, .slice a la.length ca, .slice b lb.length cb] w fun e w' => ∃ M vn vd, e = .returned (.tuple #[.agg #[.bool false, vn, vd], .int .i64 0]) ∧ w.heap.size ≤ M ∧ M ≤ w'.heap.size ∧ NatQ w.heap.size M w' vn 0 ∧ NatQ M w'.heap.size w' vd 1 ∧ Keep w w' := by
  have hk : Keep w (w.alloc (Obj.cells #[Value.bool false, Value.slice none 0 0, Value.slice none 0 0] 47)) := (Keep.refl w).alloc _
  have hbox := Box.new w (Value.bool false) (Value.slice none 0 0) (Value.slice none 0 0)
  have t1 := trim_any a ca la _ hca (by omega) (hra.keep hk)
  have t2 := trim_any b cb lb _ hcb (by omega) (hrb.keep hk)
  have h0 : ((nl lb : Int) == 0) = false := by simp; omega
  have h0' : ((nl la : Int) == 0) = true := by simp; omega
  clear hb0 ha0
  go_enter Tryd.func50, Tryd.ntmps50
  go_wp2_with fail
  refine t1.mono ?_
  rintro e w' ⟨rfl, rfl⟩
  go_wp2_with fail
  refine t2.mono ?_
  rintro e w' ⟨rfl, rfl⟩
  go_wp2_with fail
  refine bodyPost_ret (v := .tuple #[.agg #[.bool false, .slice none 0 0, .slice (some ⟨w.heap.size + 1, 0, none⟩) 1 1], .int .i64 0]) (by simp [results, Tryd.results50, go_sem]) rfl ⟨w.heap.size, .slice none 0 0, .slice (some ⟨w.heap.size + 1, 0, none⟩) 1 1, rfl, Nat.le_refl _, by simp; omega, NatQ.nil _ _ _, ?_, ((Keep.refl w).alloc _).alloc _⟩
  have h := heap_alloc_new (w.alloc (Obj.cells #[Value.bool false, Value.slice none 0 0, Value.slice (some ⟨w.heap.size + 1, 0, none⟩) 1 1] 47)) (Obj.cells #[Value.int IntKind.u32 1] 62)
  have hz : (w.alloc (Obj.cells #[Value.bool false, Value.slice none 0 0, Value.slice (some ⟨w.heap.size + 1, 0, none⟩) 1 1] 47)).heap.size = w.heap.size + 1 := by simp
  rw [hz] at h
  exact ⟨[1], .inr ⟨w.heap.size + 1, [1], rfl, by omega, by simp, h, by simp, rfl⟩, by intro x hx; simp at hx; omega, by simp [Nrm], rfl⟩
end Go.Proofs.YtbjidpooociamaaDoor
