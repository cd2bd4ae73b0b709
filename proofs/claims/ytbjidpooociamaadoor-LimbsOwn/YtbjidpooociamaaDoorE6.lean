import Derived.Test.YtbjidpooociamaaDoorE5
set_option linter.unusedVariables false
set_option linter.unusedSimpArgs false
namespace Go.Proofs.YtbjidpooociamaaDoor
open Go.RowKit Lb
theorem and_i64_one (n : Nat) (hn : n < 9223372036854775808) : bits .and .i64 (n : Int) 1 = ((n % 2 : Nat) : Int) := by
  have h1 : (BitVec.ofInt 64 1).toNat = 2 ^ 1 - 1 := by decide
  show IntKind.i64.wrap ((BitVec.ofInt 64 (n : Int) &&& BitVec.ofInt 64 1).toNat : Nat) = _
  rw [BitVec.toNat_and, h1, Nat.and_two_pow_sub_one_eq_mod, BitVec.toNat_ofInt, IntKind.wrap_i64]
  omega
theorem Row.alloc1 (w : World) (x : Nat) : Row (w.alloc (.cells #[.int .u32 (x : Nat)] 62)) w.heap.size [x] := by
  have h := (Keep.refl w).size
  show (w.heap.push _)[w.heap.size]? = _
  simp [U]
theorem pow_half (v n L k : Nat) (hk : k < L) : v ^ (n / 2 ^ (L - (k + 1))) = v ^ (n / 2 ^ (L - k)) * v ^ (n / 2 ^ (L - k)) * v ^ (n / 2 ^ (L - 1 - k) % 2) := by
  rw [← Nat.pow_add, ← Nat.pow_add]
  congr 1
  rw [show L - k = L - 1 - k + 1 by omega, show L - (k + 1) = L - 1 - k by omega, Nat.pow_succ, ← Nat.div_div_eq_div_mul]
  omega
set_option maxRecDepth 100000 in
set_option maxHeartbeats 400000 in
theorem power_any (a : Option Addr) (ca n M : Nat) (la : List Nat) (w : World) (hca : la.length ≤ ca) (hla : la.length ≤ 35184372088832) (hn : n ≤ 65536) (hM : M ≤ 35184372088832) (hb : ∀ j, j ≤ n → val la ^ j < 4294967296 ^ M) (hra : Rd w a la) (hma : Lim la) :
    Calls Tryd.prog 83 #[.slice a la.length ca, .int .i64 (n : Nat)] w fun e w' => ∃ v, e = .returned v ∧ NatS w.heap.size w' v (val la ^ n) ∧ Keep w w' := by
  have hL := fun wx => Tryd.bits_Len (n : Int) wx (by omega) (by omega)
  simp only [Int.toNat_natCast, bitLen_lib n (by omega)] at hL
  have hspec := bitLen_spec n
  have hbl := bitLen_le n (by omega)
  generalize bitLen n = L at *
  have HB : Hid (∀ j, j ≤ n → val la ^ j < 4294967296 ^ M) := hb
  have HL : Hid (n < 2 ^ L) := hspec.1
  clear hspec hb
  go_enter Tryd.func83, Tryd.ntmps83
  go_wp2_with fail
  refine (hL _).mono ?_
  rintro e w1 ⟨rfl, rfl⟩
  go_wp2_with fail
  have hrow : Row (w.alloc (.cells #[.int .u32 1] 62)) w.heap.size [1] := Row.alloc1 w 1
  have hk0 : Keep w (w.alloc (.cells #[.int .u32 1] 62)) := (Keep.refl w).alloc _
  generalize w.alloc (.cells #[.int .u32 1] 62) = w1 at *
  go_loopw [5, 11] (fun v i wr => ∃ (k : Nat), k ≤ L ∧ i = .int .i64 k ∧ NatS w.heap.size wr v (val la ^ (n / 2 ^ (L - k))) ∧ Keep w wr) (fun _ i _ => L - (intOf i).toNat)
  case atStart =>
    refine ⟨0, by omega, rfl, ?_, hk0⟩
    have h := NatS.of_row hrow (Nat.le_refl _) (by intro x hx; simp at hx; omega) (by simp)
    rw [Nat.sub_zero, Nat.div_eq_of_lt HL.out, Nat.pow_zero]
    exact h
  case round =>
    obtain ⟨k, hkk, rfl, hn1, hkp⟩ := hrel
    by_cases hkl : k < L
    · obtain ⟨g, r, l, rfl, hg, hr, hlr, htk, hrl, hmr, hml, hnl, hvl⟩ := hn1
      obtain ⟨S, hS⟩ : ∃ S, L - 1 - k = S := ⟨_, rfl⟩
      have hll : l.length ≤ M := len_le_pow hnl M (by rw [hvl]; exact HB.out _ (Nat.div_le_self _ _))
      have hrd : Rd wr (some ⟨g, 0, none⟩) l := by have := hr.rd 0 l.length (by omega); rw [List.drop_zero, htk] at this; exact this
      have hP := product_any _ _ r.length r.length l l wr hlr hlr (by omega) (by omega) hrd hrd hml hml
      have hLi : (L : Int) - 1 - (k : Int) = (S : Int) := by omega
      have hSb : S < 64 := by omega
      have hand : bits .and .i64 ((n : Int) / 2 ^ S) 1 = ((n / 2 ^ S % 2 : Nat) : Int) := by
        have := and_i64_one (n / 2 ^ S) (Nat.lt_of_le_of_lt (Nat.div_le_self _ _) (by omega))
        rw [← this]; simp
      have hphalf : Hid (val la ^ (n / 2 ^ (L - (k + 1))) = val l * val l * val la ^ (n / 2 ^ S % 2)) := by
        show _ = _
        rw [hvl, ← hS]; exact pow_half _ _ _ _ hkl
      have hsq : Hid (val l * val l < 4294967296 ^ M) := by
        show _ < _
        rw [hvl, ← Nat.pow_add]
        refine HB.out _ ?_
        have h1 : L - k = S + 1 := by omega
        rw [h1, Nat.pow_succ, ← Nat.div_div_eq_div_mul]
        have := Nat.div_le_self n (2 ^ S)
        omega
      have Hvl : Hid (val l = val la ^ (n / 2 ^ (L - k))) := hvl
      clear hvl hS hr htk
      go_wp2_with fail
      refine hP.mono ?_
      rintro e w2 ⟨v2, rfl, hn2, hk2⟩
      have hkp2 := hkp.trans hk2
      obtain ⟨g2, r2, l2, rfl, hx2⟩ := hn2
      go_wp2_with fail
      refine (hL _).mono ?_
      rintro e w3 ⟨rfl, rfl⟩
      by_cases hbit : n / 2 ^ S % 2 = 1
      · rw [hbit] at hand hphalf
        go_wp2_with fail
        obtain ⟨hg2, hr2, hlr2, htk2, hrl2, hmr2, hml2, hnl2, hvl2⟩ := hx2
        have hll2 : l2.length ≤ M := len_le_pow hnl2 M (by rw [hvl2]; exact hsq.out)
        have hrd2 : Rd w3 (some ⟨g2, 0, none⟩) l2 := by have := hr2.rd 0 l2.length (by omega); rw [List.drop_zero, htk2] at this; exact this
        have hP2 := product_any _ a r2.length ca l2 la w3 hlr2 hca (by omega) hla hrd2 (hra.keep hkp2) hml2 hma
        clear hr2 htk2 
        refine hP2.mono ?_
        rintro e w4 ⟨v4, rfl, hn4, hk4⟩
        obtain ⟨g4, r4, l4, rfl, hx4⟩ := hn4
        have hkp4 := hkp2.trans hk4
        go_wp2_with fail
        go_roundw
        case rel =>
          refine ⟨k + 1, by omega, by go_num, ?_, hkp4⟩
          rw [hphalf.out, Nat.pow_one, ← hvl2]
          exact NatS.mono ⟨g4, r4, l4, rfl, hx4⟩ hkp2.le
        case measure => simp [intOf]; omega
      · have hb0 : n / 2 ^ S % 2 = 0 := by omega
        rw [hb0] at hand hphalf
        clear hbit hb0
        go_wp2_with fail
        go_roundw
        case rel =>
          refine ⟨k + 1, by omega, by go_num, ?_, hkp2⟩
          rw [hphalf.out, Nat.pow_zero, Nat.mul_one]
          exact NatS.mono ⟨g2, r2, l2, rfl, hx2⟩ hkp.le
        case measure => simp [intOf]; omega
    · have hke : k = L := by omega
      subst hke
      rw [Nat.sub_self, Nat.pow_zero, Nat.div_one] at hn1
      obtain ⟨g, r, l, rfl, hx⟩ := hn1
      go_wp2_with fail
      go_ret
      exact ⟨_, rfl, ⟨g, r, l, rfl, hx⟩, hkp⟩
end Go.Proofs.YtbjidpooociamaaDoor
