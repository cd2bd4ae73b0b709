import Derived.Test.YtbjidpooociamaaDoorD3
namespace Go.Proofs.YtbjidpooociamaaDoor
open Go.RowKit Lb
/-- What product does, up to so many limbs. -/
def ProductSaid (M : Nat) : Prop := ∀ (a b : Option Addr) (ca cb : Nat) (la lb : List Nat) (w : World), la.length ≤ M → lb.length ≤ M → la.length ≤ ca → lb.length ≤ cb → la.length ≤ 35184372088832 → lb.length ≤ 35184372088832 → Rd w a la → Rd w b lb → Lim la → Lim lb →
    Calls Tryd.prog 79 #[.slice a la.length ca, .slice b lb.length cb] w fun e w' => ∃ v, e = .returned v ∧ NatS w.heap.size w' v (val la * val lb) ∧ Keep w w'
theorem val_take_add (l : List Nat) (k m : Nat) (h : k ≤ l.length) : val (l.take (k + m)) = val (l.take k) + 4294967296 ^ k * val ((l.drop k).take m) := by
  have : l.take (k + m) = l.take k ++ (l.drop k).take m := by rw [List.take_add]
  rw [this, val_append, show (l.take k).length = k by simp; omega]
theorem len_le_pow {l : List Nat} (n : Nrm l) (k : Nat) (h : val l < 4294967296 ^ k) : l.length ≤ k := by
  rcases Nat.lt_or_ge k l.length with h1 | h1
  · have h2 := val_ge n (by intro h0; simp [h0] at h1)
    have h3 : 4294967296 ^ k ≤ 4294967296 ^ (l.length - 1) := Nat.pow_le_pow_right (by omega) (by omega)
    omega
  · exact h1
theorem Rd.drop {w : World} {b o : Nat} {l : List Nat} (h : Rd w (some ⟨b, o, none⟩) l) (k : Nat) : Rd w (some ⟨b, o + k, none⟩) (l.drop k) := by
  intro j hj
  have h1 : k + j < l.length := by simp at hj; omega
  obtain ⟨b', o', e, hc⟩ := h (k + j) h1
  simp only [Option.some.injEq, Addr.mk.injEq, and_true] at e
  obtain ⟨rfl, rfl⟩ := e
  refine ⟨b, o + k, rfl, ?_⟩
  rw [Nat.add_assoc, hc]
  simp [List.getD]
set_option maxRecDepth 100000 in
set_option maxHeartbeats 1600000 in
theorem byPieces_any (M : Nat) (hP : ProductSaid M) (b1 o1 : Nat) (b : Option Addr) (ca cb : Nat) (la lb : List Nat) (w : World) (hM : lb.length ≤ M) (hca : la.length ≤ ca) (hcb : lb.length ≤ cb) (hla : la.length ≤ 35184372088832) (hlb : lb.length ≤ 35184372088832) (hb0 : 0 < lb.length) (hra : Rd w (some ⟨b1, o1, none⟩) la) (hrb : Rd w b lb) (hma : Lim la) (hmb : Lim lb) :
    Calls Tryd.prog 101 #[.slice (some ⟨b1, o1, none⟩) la.length ca, .slice b lb.length cb] w fun e w' => ∃ v, e = .returned v ∧ NatS w.heap.size w' v (val la * val lb) ∧ Keep w w' := by
  obtain ⟨N, hN⟩ : ∃ N, la.length + lb.length = N := ⟨_, rfl⟩
  have hsz : N ≤ 70368744177664 := by omega
  have hNi : (la.length : Int) + (lb.length : Int) = (N : Int) := by omega
  have HN : Hid (la.length + lb.length = N) := hN
  clear hN
  go_enter Tryd.func101, Tryd.ntmps101
  go_wp2_with (at_make; refine wpList_make32 _ rfl _ _ rfl _ _ _ _ N rfl rfl rfl rfl hsz ?_; intro w1 hrow hk hsz1)
  clear hNi
  go_loopw [6] (fun i wr => ∃ (k : Nat) (rk : List Nat), k ≤ N ∧ i = .int .i64 k ∧ Row wr w.heap.size rk ∧ Hid (rk.length = N) ∧ Lim rk ∧ Hid (val rk = val (la.take k) * val lb) ∧ Keep w wr) (fun i _ => N - (intOf i).toNat)
  case atStart => exact ⟨0, _, by omega, rfl, hrow, by show _ = _; simp, by intro x hx; simp at hx; omega, by show _ = _; rw [val_zeros _ (by intro j; simp [List.getD, List.getElem?_replicate]; split <;> rfl)]; simp [val], hk⟩
  case round =>
    obtain ⟨k, rk, hkk, rfl, hrk, hlen, hmk, hv, hkp⟩ := hrel
    by_cases hkl : k < la.length
    · have hra1 := hra.keep hkp
      have hrb1 := hrb.keep hkp
      have hkN : k + lb.length ≤ N := by have := HN.out; omega
      by_cases hc : k + lb.length ≤ la.length
      · have hci : ¬ (la.length : Int) < (k : Int) + (lb.length : Int) := by omega
        have hpl : ((la.drop k).take (lb.length)).length = lb.length := by rw [List.length_take, List.length_drop]; omega
        have hrp := (hra1.drop k).take (lb.length)
        have hmp : Lim ((la.drop k).take (lb.length)) := Lim_take (Lim_drop hma k) _
        have hT := trim_any (some ⟨b1, o1 + k, none⟩) (ca - k) ((la.drop k).take (lb.length)) wr (by rw [hpl]; omega) (by rw [hpl]; omega) hrp
        rw [hpl] at hT
        have hnl := nl_le ((la.drop k).take (lb.length))
        rw [hpl] at hnl
        have hne : ¬ ca = k := by omega
        go_wp2_with fail
        rw [show (min ((k : Int) + (lb.length : Int)) (la.length : Int)).toNat - k = lb.length from by omega]
        refine hT.mono ?_
        rintro e w2 ⟨rfl, rfl⟩
        clear hT
        have hel : (((la.drop k).take (lb.length)).take (nl ((la.drop k).take (lb.length)))).length = nl ((la.drop k).take (lb.length)) := by rw [List.length_take, hpl]; omega
        have hPr := hP (some ⟨b1, o1 + k, none⟩) b (ca - k) cb (((la.drop k).take (lb.length)).take (nl ((la.drop k).take (lb.length)))) lb w2 (by rw [hel]; omega) hM (by rw [hel]; omega) hcb (by rw [hel]; omega) hlb (hrp.take _) hrb1 (Lim_take hmp _) hmb
        rw [hel, val_take_nl] at hPr
        go_wp2_with fail
        refine hPr.mono ?_
        rintro e w3 ⟨v, rfl, ⟨gp, rp, lp, rfl, hgp, hrowp, hlp1, hlp2, -, hlimr, hlimp, hnp, hvp⟩, hk3⟩
        clear hPr
        have hvl := val_lt hmp
        rw [hpl] at hvl
        have hvb := val_lt hmb
        have hrk3 := hrk.keep hk3
        have hrdp : Rd w3 (some ⟨gp, 0, none⟩) lp := by have := hrowp.rd 0 lp.length (by omega); rw [List.drop_zero, hlp2] at this; exact this
        have hoffp : Off w.heap.size (some ⟨gp, 0, none⟩) lp := by
          intro b' o' s' e' _
          simp at e'
          have := hrk.lt
          omega
        have hlpl : lp.length ≤ lb.length + lb.length := len_le_pow hnp _ (by
          rw [hvp, Nat.pow_add]
          have h0 : 0 < 4294967296 ^ lb.length := Nat.pos_of_ne_zero (by simp)
          exact Nat.lt_of_lt_of_le (Nat.mul_lt_mul_of_lt_of_le hvl (Nat.le_of_lt hvb) h0) (Nat.le_refl _))
        have hNN := HN.out
        have hstep : val rk + 4294967296 ^ k * val lp = val (la.take (k + lb.length)) * val lb := by
          rw [hv.out, hvp, val_take_add la k (lb.length) (by omega)]
          grind
        have hroom : val rk + 4294967296 ^ k * val lp < 4294967296 ^ rk.length := by
          rw [hstep, hlen.out, ← hNN, Nat.pow_add]
          have h1 := val_lt (Lim_take hma (k + lb.length))
          have h2 : 4294967296 ^ (la.take (k + lb.length)).length ≤ 4294967296 ^ la.length := Nat.pow_le_pow_right (by omega) (by rw [List.length_take]; omega)
          have h0 : 0 < 4294967296 ^ lb.length := Nat.pos_of_ne_zero (by simp)
          exact Nat.mul_lt_mul_of_lt_of_le (by omega) (Nat.le_of_lt hvb) h0
        have hA := addAt_any w.heap.size (some ⟨gp, 0, none⟩) rp.length k rk lp w3 (by rw [hlen.out]; omega) hrk3 hrdp hoffp hmk hlimp (by rw [hlen.out]; omega) hroom
        rw [hlen.out] at hA
        have Hstep : Hid (val rk + 4294967296 ^ k * val lp = val (la.take (k + lb.length)) * val lb) := hstep
        clear hstep hroom hNN
        go_wp2_with fail
        refine hA.mono ?_
        rintro e w4 ⟨rfl, r', hr4, hl4, hm4, hv4, hmu4⟩
        clear hA
        go_wp2_with fail
        go_roundw
        case rel =>
          refine ⟨k + lb.length, r', by have := HN.out; omega, by go_num, hr4, hl4, hm4, ?_, (hkp.trans hk3).mut hmu4 (Nat.le_refl _)⟩
          show _ = _
          rw [hv4, Hstep.out]
        case measure => simp [intOf]; omega
      · have hci : (la.length : Int) < (k : Int) + (lb.length : Int) := by omega
        have hpl : ((la.drop k).take (la.length - k)).length = la.length - k := by rw [List.length_take, List.length_drop]; omega
        have hrp := (hra1.drop k).take (la.length - k)
        have hmp : Lim ((la.drop k).take (la.length - k)) := Lim_take (Lim_drop hma k) _
        have hT := trim_any (some ⟨b1, o1 + k, none⟩) (ca - k) ((la.drop k).take (la.length - k)) wr (by rw [hpl]; omega) (by rw [hpl]; omega) hrp
        rw [hpl] at hT
        have hnl := nl_le ((la.drop k).take (la.length - k))
        rw [hpl] at hnl
        have hne : ¬ ca = k := by omega
        go_wp2_with fail
        rw [show (min ((k : Int) + (lb.length : Int)) (la.length : Int)).toNat - k = la.length - k from by omega]
        refine hT.mono ?_
        rintro e w2 ⟨rfl, rfl⟩
        clear hT
        have hel : (((la.drop k).take (la.length - k)).take (nl ((la.drop k).take (la.length - k)))).length = nl ((la.drop k).take (la.length - k)) := by rw [List.length_take, hpl]; omega
        have hPr := hP (some ⟨b1, o1 + k, none⟩) b (ca - k) cb (((la.drop k).take (la.length - k)).take (nl ((la.drop k).take (la.length - k)))) lb w2 (by rw [hel]; omega) hM (by rw [hel]; omega) hcb (by rw [hel]; omega) hlb (hrp.take _) hrb1 (Lim_take hmp _) hmb
        rw [hel, val_take_nl] at hPr
        go_wp2_with fail
        refine hPr.mono ?_
        rintro e w3 ⟨v, rfl, ⟨gp, rp, lp, rfl, hgp, hrowp, hlp1, hlp2, -, hlimr, hlimp, hnp, hvp⟩, hk3⟩
        clear hPr
        have hvl := val_lt hmp
        rw [hpl] at hvl
        have hvb := val_lt hmb
        have hrk3 := hrk.keep hk3
        have hrdp : Rd w3 (some ⟨gp, 0, none⟩) lp := by have := hrowp.rd 0 lp.length (by omega); rw [List.drop_zero, hlp2] at this; exact this
        have hoffp : Off w.heap.size (some ⟨gp, 0, none⟩) lp := by
          intro b' o' s' e' _
          simp at e'
          have := hrk.lt
          omega
        have hlpl : lp.length ≤ la.length - k + lb.length := len_le_pow hnp _ (by
          rw [hvp, Nat.pow_add]
          have h0 : 0 < 4294967296 ^ lb.length := Nat.pos_of_ne_zero (by simp)
          exact Nat.lt_of_lt_of_le (Nat.mul_lt_mul_of_lt_of_le hvl (Nat.le_of_lt hvb) h0) (Nat.le_refl _))
        have hNN := HN.out
        have hstep : val rk + 4294967296 ^ k * val lp = val (la.take (k + (la.length - k))) * val lb := by
          rw [hv.out, hvp, val_take_add la k (la.length - k) (by omega)]
          grind
        have hroom : val rk + 4294967296 ^ k * val lp < 4294967296 ^ rk.length := by
          rw [hstep, hlen.out, ← hNN, Nat.pow_add]
          have h1 := val_lt (Lim_take hma (k + (la.length - k)))
          have h2 : 4294967296 ^ (la.take (k + (la.length - k))).length ≤ 4294967296 ^ la.length := Nat.pow_le_pow_right (by omega) (by rw [List.length_take]; omega)
          have h0 : 0 < 4294967296 ^ lb.length := Nat.pos_of_ne_zero (by simp)
          exact Nat.mul_lt_mul_of_lt_of_le (by omega) (Nat.le_of_lt hvb) h0
        have hA := addAt_any w.heap.size (some ⟨gp, 0, none⟩) rp.length k rk lp w3 (by rw [hlen.out]; omega) hrk3 hrdp hoffp hmk hlimp (by rw [hlen.out]; omega) hroom
        rw [hlen.out] at hA
        have Hstep : Hid (val rk + 4294967296 ^ k * val lp = val (la.take (k + (la.length - k))) * val lb) := hstep
        clear hstep hroom hNN
        go_wp2_with fail
        refine hA.mono ?_
        rintro e w4 ⟨rfl, r', hr4, hl4, hm4, hv4, hmu4⟩
        clear hA
        go_wp2_with fail
        go_roundw
        case rel =>
          refine ⟨k + lb.length, r', by have := HN.out; omega, by go_num, hr4, hl4, hm4, ?_, (hkp.trans hk3).mut hmu4 (Nat.le_refl _)⟩
          show _ = _
          rw [hv4, Hstep.out]
          rw [List.take_of_length_le (show la.length ≤ k + (la.length - k) by omega), List.take_of_length_le (show la.length ≤ k + lb.length by omega)]
        case measure => simp [intOf]; omega
    · have hT := trim_any (some ⟨w.heap.size, 0, none⟩) rk.length rk wr (Nat.le_refl _) (by rw [hlen.out]; omega) hrk.rd0
      rw [hlen.out] at hT
      go_wp2_with fail
      refine hT.mono ?_
      rintro e w3 ⟨rfl, rfl⟩
      go_wp2_with fail
      go_ret
      refine ⟨_, rfl, ?_, hkp⟩
      have h1 := NatS.of_row hrk (Nat.le_refl w.heap.size) hmk (by rw [hlen.out]; omega)
      rw [hlen.out, hv.out, List.take_of_length_le (by omega)] at h1
      exact h1
end Go.Proofs.YtbjidpooociamaaDoor
