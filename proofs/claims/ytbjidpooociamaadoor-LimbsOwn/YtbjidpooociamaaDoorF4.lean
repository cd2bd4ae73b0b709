import Derived.Test.YtbjidpooociamaaDoorF3
set_option linter.unusedVariables false
set_option linter.unusedSimpArgs false
namespace Go.Proofs.YtbjidpooociamaaDoor
open Go.RowKit Lb
theorem lead_norm (lb : List Nat) (m d1 s L : Nat) (hmb : Lim lb) (hn : lb.length = m + 2) (hd1 : lb.getD (m + 1) 0 = d1) (h0 : 0 < d1) (hL : bitLen d1 = L) (hs : s + L = 32) :
    s ≤ 31 ∧ val lb * 2 ^ s < 4294967296 ^ (m + 2) ∧ 2147483648 * 4294967296 ^ (m + 1) ≤ val lb * 2 ^ s := by
  have hsp := bitLen_spec d1
  rw [hL] at hsp
  obtain ⟨h1, h2⟩ := hsp
  have h2 := h2 (by omega)
  have hL0 : 0 < L := by
    rcases Nat.eq_zero_or_pos L with h | h
    · rw [h] at h1; simp at h1; omega
    · exact h
  have hv := val_take_succ lb (m + 1)
  rw [List.take_of_length_le (by omega), hd1] at hv
  have hb := take_bound lb hmb (m + 1)
  have e1 : 2 ^ s * 2 ^ L = 4294967296 := by rw [← Nat.pow_add, hs]
  have e2 : 2 ^ s * 2 ^ (L - 1) = 2147483648 := by rw [← Nat.pow_add, show s + (L - 1) = 31 by omega]
  have hP : 0 < 2 ^ s := Nat.pos_of_ne_zero (by simp)
  rw [Nat.pow_succ 4294967296 (m + 1)]
  generalize 2 ^ s = P at *
  generalize 2 ^ L = E at *
  generalize 2 ^ (L - 1) = F at *
  generalize 4294967296 ^ (m + 1) = X at *
  generalize val (lb.take (m + 1)) = lo at *
  refine ⟨by omega, ?_, ?_⟩
  · have h3 : val lb < E * X := by
      have := Nat.mul_le_mul_right X (show d1 + 1 ≤ E from h1)
      rw [Nat.add_mul] at this
      omega
    have h4 : val lb * P < E * X * P := Nat.mul_lt_mul_of_pos_right h3 hP
    have h5 : E * X * P = X * 4294967296 := by rw [← e1]; grind
    omega
  · have h3 : F * X ≤ val lb := by
      have := Nat.mul_le_mul_right X h2
      omega
    have h4 := Nat.mul_le_mul_right P h3
    have h5 : F * X * P = 2147483648 * X := by rw [← e2]; grind
    omega
theorem lead_of (l : List Nat) (m : Nat) (hm : Lim l) (hn : l.length = m + 2) (h : 2147483648 * 4294967296 ^ (m + 1) ≤ val l) : 2147483648 ≤ l.getD (m + 1) 0 := by
  have hv := val_take_succ l (m + 1)
  rw [List.take_of_length_le (by omega)] at hv
  have hb := take_bound l hm (m + 1)
  generalize 4294967296 ^ (m + 1) = X at *
  have : 2147483648 * X < (l.getD (m + 1) 0 + 1) * X := by rw [Nat.add_mul]; omega
  have := Nat.lt_of_mul_lt_mul_right this
  omega
theorem div_end (q D A rem a b P : Nat) (hP : 0 < P) (hA : A = a * P) (hD : D = b * P) (h : q * D + rem = A) (hr : rem < D) : q = a / b ∧ rem / P = a % b := by
  have h0 : 0 < D := by omega
  have h1 : A / D = q := by rw [← h, Nat.add_comm, Nat.add_mul_div_right _ _ h0, Nat.div_eq_of_lt hr, Nat.zero_add]
  have h2 : A % D = rem := by rw [← h, Nat.add_comm, Nat.add_mul_mod_self_right, Nat.mod_eq_of_lt hr]
  rw [hA, hD, Nat.mul_div_mul_right _ _ hP] at h1
  rw [hA, hD, Nat.mul_mod_mul_right] at h2
  exact ⟨h1.symm, by rw [← h2, Nat.mul_div_cancel _ hP]⟩
set_option maxRecDepth 100000 in
set_option maxHeartbeats 1600000 in
theorem divide_many (a b : Option Addr) (ca cb m : Nat) (la lb : List Nat) (w : World) (hla : la.length ≤ 70368744177663) (hra : Rd w a la) (hrb : Rd w b lb) (hma : Lim la) (hmb : Lim lb) (na : Nrm la) (nb : Nrm lb) (hn : lb.length = m + 2) (hge : ¬ val la < val lb) :
    Calls Tryd.prog 80 #[.slice a la.length ca, .slice b lb.length cb] w fun e w' => ∃ vq vr, e = .returned (.tuple #[vq, vr]) ∧ NatR w.heap.size w' vq (val la / val lb) ∧ NatR w.heap.size w' vr (val la % val lb) ∧ Keep w w' := by
  have hcm := cmpL_ge hma hmb na nb hge
  have hle : lb.length ≤ la.length := len_le_of_val nb hma (by omega)
  have hc := compare_any a b ca cb la lb w (by omega) (by omega) hra hrb
  generalize cmpL la lb = z at hcm hc
  have hz : decide (z < 0) = false := by simp; omega
  rw [hn] at hc ⊢
  go_enter Tryd.func80, Tryd.ntmps80
  go_wp2_with fail
  refine hc.mono ?_
  rintro e w1 ⟨rfl, hd⟩
  obtain ⟨b1, o1, rfl, hcd1⟩ := (hrb.keep hd.keep) (m + 1) (by omega)
  obtain ⟨d1, hd1⟩ : ∃ x, lb.getD (m + 1) 0 = x := ⟨_, rfl⟩
  rw [hd1] at hcd1
  have hdl : d1 < 4294967296 := hd1 ▸ Lim_getD hmb _
  have hd0 : 0 < d1 := by
    rcases Nat.eq_zero_or_pos d1 with h | h
    · exfalso
      have h2 := val_ge nb (by intro h0; simp [h0] at hn)
      have h3 := val_take_succ lb (m + 1)
      rw [List.take_of_length_le (by omega), hd1, h, Nat.zero_mul, Nat.add_zero] at h3
      have h4 := take_bound lb hmb (m + 1)
      rw [hn, show m + 2 - 1 = m + 1 from rfl] at h2
      omega
    · exact h
  have hZ := Tryd.bits_LeadingZeros32 (d1 : Int) w1 (by omega) (by omega)
  rw [show ((d1 : Int)).toNat = d1 from rfl, bitLen_lib d1 (by omega)] at hZ
  have hbl := bitLen_le d1 hdl
  obtain ⟨s, hs⟩ : ∃ s, s + bitLen d1 = 32 := ⟨32 - bitLen d1, by omega⟩
  rw [show (32 - (bitLen d1 : Int)) = (s : Int) by omega] at hZ
  obtain ⟨hs31, hroomb, hleadb⟩ := lead_norm lb m d1 s _ hmb hn hd1 hd0 rfl hs
  have HLB : Hid (2147483648 * 4294967296 ^ (m + 1) ≤ val lb * 2 ^ s) := hleadb
  clear hs hbl hd1
  go_wp2_with fail
  refine hZ.mono ?_
  rintro e w2 ⟨rfl, rfl⟩
  have hMa := moved_any a ca s (la.length + 1) la w2 (by omega) (by omega) (by omega) (by
    have h1 := val_lt hma
    have h2 : 2 ^ s ≤ 4294967296 := Nat.le_trans (Nat.pow_le_pow_right (by omega) (show s ≤ 32 by omega)) (by decide)
    rw [Nat.pow_succ]
    exact Nat.mul_lt_mul_of_lt_of_le h1 h2 (by omega)) (hra.keep hd.keep) hma
  go_wp2_with fail
  refine hMa.mono ?_
  rintro e w3 ⟨ra, rfl, hrowA, hlA, hmA, hvA, hkA⟩
  have HG1 : Hid (w2.heap.size < w3.heap.size) := hrowA.lt
  have hMb := moved_any (some ⟨b1, o1, none⟩) cb s (m + 2) lb w3 (by omega) (by omega) (by omega) hroomb ((hrb.keep hd.keep).keep hkA) hmb
  rw [hn] at hMb
  go_wp2_with fail
  refine hMb.mono ?_
  rintro e w4 ⟨rb, rfl, hrowB, hlB, hmB, hvB, hkB⟩
  have HG2 : Hid (w3.heap.size < w4.heap.size) := hrowB.lt
  have hlead := lead_of rb m hmB hlB (by rw [hvB]; exact hleadb)
  have hrowA := hrowA.keep hkB
  obtain ⟨N, hN⟩ : ∃ N, la.length - lb.length + 1 = N := ⟨_, rfl⟩
  have hNi : (la.length : Int) - ((m : Int) + 2) + 1 = (N : Int) := by omega
  have hNb : N ≤ 70368744177664 := by omega
  have hNl : N + (m + 2) = la.length + 1 := by omega
  clear hMa hMb hZ hcd1 hc hroomb hleadb hN
  go_wp2_with (at_make; refine wpList_make32 _ rfl _ _ rfl _ _ _ _ N rfl rfl rfl rfl hNb ?_; intro w5 hrowQ hkQ hszQ)
  have hg0 : w.heap.size ≤ w2.heap.size := hd.keep.le
  have hg1 : w2.heap.size < w3.heap.size := HG1
  have hg2 : w3.heap.size < w4.heap.size := HG2
  have hk5 : Keep w w5 := ((hd.keep.trans hkA).trans hkB).trans hkQ
  have hrA5 := hrowA.keep hkQ
  have hrB5 := hrowB.keep hkQ
  have HD : Hid (val rb = val lb * 2 ^ s) := hvB
  have HA : Hid (val ra = val la * 2 ^ s) := hvA
  have H0 : Hid (val ra < 4294967296 ^ N * val rb) := by
    show _ < _
    have h1 := val_lt hma
    have h2 : 2 ^ s ≤ 2147483648 := Nat.le_trans (Nat.pow_le_pow_right (by omega) hs31) (by decide)
    have h3 : 2147483648 * 4294967296 ^ (m + 1) ≤ val rb := by rw [hvB]; exact HLB.out
    have h4 : val la * 2 ^ s < 4294967296 ^ la.length * 2147483648 := Nat.mul_lt_mul_of_lt_of_le h1 h2 (by omega)
    have h5 := Nat.mul_le_mul_left (4294967296 ^ N) h3
    have h6 : 4294967296 ^ N * (2147483648 * 4294967296 ^ (m + 1)) = 4294967296 ^ la.length * 2147483648 := by
      rw [show la.length = N + (m + 1) by omega, Nat.pow_add 4294967296 N (m + 1), Nat.mul_left_comm, Nat.mul_comm]
    rw [hvA]
    omega
  generalize w2.heap.size = g1 at *
  generalize w3.heap.size = g2 at *
  generalize w4.heap.size = g3 at *
  clear hkA hkB hkQ hvA hvB hrowA hrowB HLB HG1 HG2 hszQ hNi
  go_loopw [64] (fun i wr => ∃ (k : Nat) (rk qk : List Nat), k ≤ N ∧ i = .int .i64 k ∧ Row wr g1 rk ∧ Hid (rk.length = la.length + 1) ∧ Lim rk ∧ Row wr g2 rb ∧ Row wr g3 qk ∧ Hid (qk.length = N) ∧ Lim qk ∧ Hid (∀ j, j < N - k → qk.getD j 0 = 0) ∧ Hid (val qk * val rb + val rk = val ra) ∧ Hid (val rk < 4294967296 ^ (N - k) * val rb) ∧ Keep w wr) (fun i _ => N - (intOf i).toNat)
  case atStart => exact ⟨0, ra, _, by omega, rfl, hrA5, hlA, hmA, hrB5, hrowQ, by show _ = _; simp, by intro x hx; simp at hx; omega, by intro j _; simp [List.getD, List.getElem?_replicate]; split <;> rfl, by show _ = _; rw [val_rep]; simp, H0, hk5⟩
  case round =>
    obtain ⟨k, rk, qk, hkN, rfl, hrk, hlk, hmk, hrB, hrQ, hlq, hmq, hzq, hvk, hltk, hkp⟩ := hrel
    by_cases hkl : k < N
    · obtain ⟨p, hp⟩ : ∃ p, N - k = p + 1 := ⟨N - k - 1, by omega⟩
      rw [hp] at hzq hltk
      have hpi : (N : Int) - 1 - (k : Int) = (p : Int) := by omega
      have hrB' : Rd wr (some ⟨g2, 0, none⟩) rb := hrB.rd0
      have hoff : Off g1 (some ⟨g2, 0, none⟩) rb := by
        intro b' o' s' e _
        simp only [Option.some.injEq, Addr.mk.injEq] at e
        omega
      have hpN : p < N := by omega
      have hDL := divideLimb_any g1 p m (some ⟨g2, 0, none⟩) (m + 2) (la.length + 1 - p) rk rb wr (by have := hlk.out; omega) hrk hrB' hoff hmk hmB hlB (by omega) (by have := hlk.out; omega) hlead hltk.out
      have hsl : ∀ wx, (Instr.slice 22 (.slice (some ⟨g1, 0, none⟩) (la.length + 1) (la.length + 1)) (some (.int .i64 (p : Int))) (some (.int .i64 ((p : Int) + ((m : Int) + 2) + 1))) none).run Tryd.prog wx = .ok (.slice (some ⟨g1, p, none⟩) (m + 3) (la.length + 1 - p)) wx := by
        intro wx
        have h1 := slice32 wx g1 0 (la.length + 1) (la.length + 1) p (m + 3) (by omega) (by omega)
        rw [show ((p : Int) + ((m + 3 : Nat) : Int)) = (p : Int) + ((m : Int) + 2) + 1 by omega, Nat.zero_add] at h1
        exact h1
      clear hp
      go_wp2_with fail
      refine hDL.mono ?_
      rintro e w6 ⟨q0, r6, rfl, hq0, hr6, hl6, hm6, hv6, hlt6, hmu6⟩
      have hrB6 := hrB.mut hmu6 (by omega)
      have hrQ6 := hrQ.mut hmu6 (by omega)
      have hk6 := hkp.mut hmu6 hg0
      have hcq := hrQ6.cell p (by rw [hlq.out]; omega)
      have hfq := hrQ6.frozen p
      have H6 : Hid (val r6 + q0 * (4294967296 ^ p * val rb) = val rk) := hv6
      have H6l : Hid (val r6 < 4294967296 ^ p * val rb) := hlt6
      clear hv6 hlt6 hDL hsl hrk hrQ hrB hrB'
      go_wp2_with fail
      go_roundw
      case rel =>
        have hmS := (Mut.refl g3 w6).setCell p (.int .u32 (q0 : Nat))
        have hz0 := hzq.out p (by omega)
        have hset := val_set qk p q0 (by rw [hlq.out]; omega)
        rw [hz0, Nat.zero_mul, Nat.add_zero] at hset
        refine ⟨k + 1, r6, qk.set p q0, by omega, by go_num, hr6.mut hmS (by omega), by show _ = _; rw [hl6]; exact hlk.out, hm6, hrB6.mut hmS (by omega), hrQ6.set p q0, by show _ = _; rw [List.length_set]; exact hlq.out, Lim_set hmq _ _ hq0, ?_, ?_, ?_, hk6.setCell (p := ⟨g3, p, none⟩) (show w.heap.size ≤ g3 by omega) _⟩
        · intro j hj
          have := hzq.out j (by omega)
          simp only [List.getD] at this ⊢
          rw [List.getElem?_set_ne (by omega)]
          exact this
        · show _ = _
          have h1 := H6.out
          have h2 := hvk.out
          rw [hset, Nat.add_mul, Nat.mul_assoc]
          omega
        · show _ < _
          rw [show N - (k + 1) = p by omega]
          exact H6l.out
      case measure => simp [intOf]; omega
    · have hke : k = N := by omega
      subst hke
      rw [Nat.sub_self, Nat.pow_zero, Nat.one_mul] at hltk
      obtain ⟨hf1, hf2⟩ := div_end (val qk) (val rb) (val ra) (val rk) (val la) (val lb) (2 ^ s) (Nat.pos_of_ne_zero (by simp)) HA.out HD.out hvk.out hltk.out
      have HF1 : Hid (val qk = val la / val lb) := hf1
      have HF2 : Hid (val rk / 2 ^ s = val la % val lb) := hf2
      clear hf1 hf2
      have T1 := fun wx (h : Row wx g3 qk) => trim_any (some ⟨g3, 0, none⟩) k qk wx (by have := hlq.out; omega) (by have := hlq.out; omega) h.rd0
      have T2 := fun wx (h : Row wx g1 rk) => trim_any (some ⟨g1, 0, none⟩) (la.length + 1) rk wx (by have := hlk.out; omega) (by have := hlk.out; omega) h.rd0
      simp only [hlq.out] at T1
      simp only [hlk.out] at T2
      have e1 : (rk.take (nl rk)).length = nl rk := by have := nl_le rk; simp; omega
      have hL := fun wx (h : Row wx g1 rk) => lowered_any (some ⟨g1, 0, none⟩) (la.length + 1) s (rk.take (nl rk)) wx (by rw [e1]; have := nl_le rk; have := hlk.out; omega) (by rw [e1]; have := nl_le rk; have := hlk.out; omega) (by omega) (h.rd0.take _) (Lim_take hmk _)
      simp only [e1, val_take_nl] at hL
      go_wp2_with fail
      refine (T1 _ hrQ).mono ?_
      rintro e w6 ⟨rfl, rfl⟩
      go_wp2_with fail
      refine (T2 _ hrk).mono ?_
      rintro e w7 ⟨rfl, rfl⟩
      go_wp2_with fail
      refine (hL _ hrk).mono ?_
      rintro e w8 ⟨v8, rfl, n8, k8⟩
      go_wp2_with fail
      go_ret2
      refine ⟨_, _, rfl, ?_, by rw [← HF2.out]; exact n8.mono hkp.le, hkp.trans k8⟩
      have h3 := NatR.of_trim ((hrQ.keep k8).res (B := w.heap.size) (by omega)) hmq
      rw [hlq.out, HF1.out] at h3
      exact h3
/-- What divide does, of any divisor. -/
theorem divide_any (a b : Option Addr) (ca cb : Nat) (la lb : List Nat) (w : World) (hla : la.length ≤ 70368744177663) (hlb : lb.length ≤ 70368744177664) (hra : Rd w a la) (hrb : Rd w b lb) (hma : Lim la) (hmb : Lim lb) (na : Nrm la) (nb : Nrm lb) (hb0 : lb ≠ []) :
    Calls Tryd.prog 80 #[.slice a la.length ca, .slice b lb.length cb] w fun e w' => ∃ vq vr, e = .returned (.tuple #[vq, vr]) ∧ NatR w.heap.size w' vq (val la / val lb) ∧ NatR w.heap.size w' vr (val la % val lb) ∧ Keep w w' := by
  by_cases hlt : val la < val lb
  · exact divide_less a b ca cb la lb w (by omega) hlb hra hrb hma hmb na nb hlt
  · have h0 : 0 < lb.length := List.length_pos_iff.2 hb0
    by_cases h1 : lb.length ≤ 1
    · exact divide_K1 a b ca cb la lb w (by omega) h1 hra hrb hma hmb na nb hb0
    · obtain ⟨m, hm⟩ : ∃ m, lb.length = m + 2 := ⟨lb.length - 2, by omega⟩
      have h := divide_many a b ca cb m la lb w hla hra hrb hma hmb na nb hm hlt
      exact h
end Go.Proofs.YtbjidpooociamaaDoor
