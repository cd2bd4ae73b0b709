import Derived.Test.YtpdjpjkieafnbaaGreatDoorShelf
import Derived.Test.YtpdjpjkieafnbaaGreatDoorProg
import Derived.Test.YtpdjpjkieafnbaaGreatDoorLE3
import Derived.WalkKit
import Derived.WalkSpells
import Derived.WalkLawsBesides
import Derived.Laws.CopyOwn
import Derived.Deep.Draws
import Derived.Deep.QuietTactic
import Derived.BigQuiet
import Derived.Laws.MathBits
import Derived.Laws.BytesArg
import Derived.Lib.OthersKept
import Derived.Deep.RegionWith
import Derived.Test.YtpdjpjkieafnbaaGreatDoorLK1
import Derived.WalkMore
import Derived.Deep.LoopGhost
import Derived.Deep.RegionLaw
set_option linter.unusedVariables false
set_option linter.unusedSimpArgs false
namespace Go.Proofs.YtpdjpjkieafnbaaGreatDoor.Li
open Go.RowKit Lb
theorem and_i64_one (n : Nat) (hn : n < 9223372036854775808) : bits .and .i64 (n : Int) 1 = ((n % 2 : Nat) : Int) := by
  have h1 : (BitVec.ofInt 64 1).toNat = 2 ^ 1 - 1 := by decide
  show IntKind.i64.wrap ((BitVec.ofInt 64 (n : Int) &&& BitVec.ofInt 64 1).toNat : Nat) = _
  rw [BitVec.toNat_and, h1, Nat.and_two_pow_sub_one_eq_mod, BitVec.toNat_ofInt, IntKind.wrap_i64]
  omega
theorem Row.alloc1 (w : World) (x : Nat) : Row (w.alloc (.cells #[.int .u32 (x : Nat)] 40)) w.heap.size [x] := by
  have h := (Keep.refl w).size
  show (w.heap.push _)[w.heap.size]? = _
  simp [U]
theorem pow_half (v n L k : Nat) (hk : k < L) : v ^ (n / 2 ^ (L - (k + 1))) = v ^ (n / 2 ^ (L - k)) * v ^ (n / 2 ^ (L - k)) * v ^ (n / 2 ^ (L - 1 - k) % 2) := by
  rw [← Nat.pow_add, ← Nat.pow_add]
  congr 1
  rw [show L - k = L - 1 - k + 1 by omega, show L - (k + 1) = L - 1 - k by omega, Nat.pow_succ, ← Nat.div_div_eq_div_mul]
  omega
set_option maxRecDepth 100000 in
set_option maxHeartbeats 400000 in
theorem power_any (a : Option Addr) (ca n M : Nat) (la : List Nat) (w : World) (hca : la.length ≤ ca) (hla : la.length ≤ 35184372088832) (hn : n ≤ 65536) (hM : M ≤ 35184372088832) (hb : ∀ j, j ≤ n → val la ^ j < 4294967296 ^ M) (hra : Rd w a la) (hma : Lim la) :
    Calls Tryz.prog 76 #[.slice a la.length ca, .int .i64 (n : Nat)] w fun e w' => ∃ v, e = .returned v ∧ NatS w.heap.size w' v (val la ^ n) ∧ Keep w w' := by
  have hL := fun wx => Tryz.bits_Len (n : Int) wx (by omega) (by omega)
  simp only [Int.toNat_natCast, bitLen_lib n (by omega)] at hL
  have hspec := bitLen_spec n
  have hbl := bitLen_le n (by omega)
  generalize bitLen n = L at *
  have HB : Hid (∀ j, j ≤ n → val la ^ j < 4294967296 ^ M) := hb
  have HL : Hid (n < 2 ^ L) := hspec.1
  clear hspec hb
  go_enter Tryz.func76, Tryz.ntmps76
  go_wp2_with fail
  refine (hL _).mono ?_
  rintro e w1 ⟨rfl, rfl⟩
  go_wp2_with fail
  have hrow : Row (w.alloc (.cells #[.int .u32 1] 40)) w.heap.size [1] := Row.alloc1 w 1
  have hk0 : Keep w (w.alloc (.cells #[.int .u32 1] 40)) := (Keep.refl w).alloc _
  generalize w.alloc (.cells #[.int .u32 1] 40) = w1 at *
  go_loopw [5, 11] (fun v i wr => ∃ (k : Nat), k ≤ L ∧ i = .int .i64 k ∧ NatS w.heap.size wr v (val la ^ (n / 2 ^ (L - k))) ∧ Keep w wr) (fun _ i _ => L - (intOf i).toNat)
  case atStart =>
    refine ⟨0, by omega, rfl, ?_, hk0⟩
    have h := NatS.of_row hrow (Nat.le_refl _) (by intro x hx; simp at hx; omega) (by simp)
    rw [Nat.sub_zero, Nat.div_eq_of_lt HL.out, Nat.pow_zero]
    exact h
  case round =>
    obtain ⟨k, hkk, rfl, hn1, hkp⟩ := hrel
    by_cases hkl : k < L
    · obtain ⟨g, r, l, rfl, hg, hr, hlr, htk, hrl, hmr, hml, hnl, hvl⟩ := hn1
      obtain ⟨S, hS⟩ : ∃ S, L - 1 - k = S := ⟨_, rfl⟩
      have hll : l.length ≤ M := len_le_pow hnl M (by rw [hvl]; exact HB.out _ (Nat.div_le_self _ _))
      have hrd : Rd wr (some ⟨g, 0, none⟩) l := by have := hr.rd 0 l.length (by omega); rw [List.drop_zero, htk] at this; exact this
      have hP := product_any _ _ r.length r.length l l wr hlr hlr (by omega) (by omega) hrd hrd hml hml
      have hLi : (L : Int) - 1 - (k : Int) = (S : Int) := by omega
      have hSb : S < 64 := by omega
      have hand : bits .and .i64 ((n : Int) / 2 ^ S) 1 = ((n / 2 ^ S % 2 : Nat) : Int) := by
        have := and_i64_one (n / 2 ^ S) (Nat.lt_of_le_of_lt (Nat.div_le_self _ _) (by omega))
        rw [← this]; simp
      have hphalf : Hid (val la ^ (n / 2 ^ (L - (k + 1))) = val l * val l * val la ^ (n / 2 ^ S % 2)) := by
        show _ = _
        rw [hvl, ← hS]; exact pow_half _ _ _ _ hkl
      have hsq : Hid (val l * val l < 4294967296 ^ M) := by
        show _ < _
        rw [hvl, ← Nat.pow_add]
        refine HB.out _ ?_
        have h1 : L - k = S + 1 := by omega
        rw [h1, Nat.pow_succ, ← Nat.div_div_eq_div_mul]
        have := Nat.div_le_self n (2 ^ S)
        omega
      have Hvl : Hid (val l = val la ^ (n / 2 ^ (L - k))) := hvl
      clear hvl hS hr htk
      go_wp2_with fail
      refine hP.mono ?_
      rintro e w2 ⟨v2, rfl, hn2, hk2⟩
      have hkp2 := hkp.trans hk2
      obtain ⟨g2, r2, l2, rfl, hx2⟩ := hn2
      go_wp2_with fail
      refine (hL _).mono ?_
      rintro e w3 ⟨rfl, rfl⟩
      by_cases hbit : n / 2 ^ S % 2 = 1
      · rw [hbit] at hand hphalf
        go_wp2_with fail
        obtain ⟨hg2, hr2, hlr2, htk2, hrl2, hmr2, hml2, hnl2, hvl2⟩ := hx2
        have hll2 : l2.length ≤ M := len_le_pow hnl2 M (by rw [hvl2]; exact hsq.out)
        have hrd2 : Rd w3 (some ⟨g2, 0, none⟩) l2 := by have := hr2.rd 0 l2.length (by omega); rw [List.drop_zero, htk2] at this; exact this
        have hP2 := product_any _ a r2.length ca l2 la w3 hlr2 hca (by omega) hla hrd2 (hra.keep hkp2) hml2 hma
        clear hr2 htk2 
        refine hP2.mono ?_
        rintro e w4 ⟨v4, rfl, hn4, hk4⟩
        obtain ⟨g4, r4, l4, rfl, hx4⟩ := hn4
        have hkp4 := hkp2.trans hk4
        go_wp2_with fail
        go_roundw
        case rel =>
          refine ⟨k + 1, by omega, by go_num, ?_, hkp4⟩
          rw [hphalf.out, Nat.pow_one, ← hvl2]
          exact NatS.mono ⟨g4, r4, l4, rfl, hx4⟩ hkp2.le
        case measure => simp [intOf]; omega
      · have hb0 : n / 2 ^ S % 2 = 0 := by omega
        rw [hb0] at hand hphalf
        clear hbit hb0
        go_wp2_with fail
        go_roundw
        case rel =>
          refine ⟨k + 1, by omega, by go_num, ?_, hkp2⟩
          rw [hphalf.out, Nat.pow_zero, Nat.mul_one]
          exact NatS.mono ⟨g2, r2, l2, rfl, hx2⟩ hkp.le
        case measure => simp [intOf]; omega
    · have hke : k = L := by omega
      subst hke
      rw [Nat.sub_self, Nat.pow_zero, Nat.div_one] at hn1
      obtain ⟨g, r, l, rfl, hx⟩ := hn1
      go_wp2_with fail
      go_ret
      exact ⟨_, rfl, ⟨g, r, l, rfl, hx⟩, hkp⟩
end Go.Proofs.YtpdjpjkieafnbaaGreatDoor.Li
set_option linter.unusedVariables false
set_option linter.unusedSimpArgs false
namespace Go.Proofs.YtpdjpjkieafnbaaGreatDoor.Li
open Go.RowKit Lb
/-- Slices of limbs that a slice owns. -/
def OwnP (B : Nat) (w : World) (v : Value) (l : List Value) : Prop := w.ownsRow B 52 1 v l.length l
theorem OwnP.keep {B : Nat} {w w' : World} {v : Value} {l : List Value} (h : OwnP B w v l) (k : Keep w w') : OwnP B w' v l := by
  refine ⟨h.1, ?_⟩
  rcases h.2 with h2 | ⟨g, cap, cur, hv, hg, hh, r⟩
  · exact .inl h2
  · exact .inr ⟨g, cap, cur, hv, hg, by rw [k.block g (Array.getElem?_eq_some_iff.1 hh).1]; exact hh, r⟩
theorem OwnP.shape {B : Nat} {w : World} {v : Value} {l : List Value} (h : OwnP B w v l) : ∃ a c, v = .slice a l.length c ∧ l.length ≤ c ∧ (∀ j x, l[j]? = some x → ∃ g, a = some ⟨g, 0, none⟩ ∧ w.cell? ⟨g, j, none⟩ = some x) := by
  rcases h.2 with ⟨h1, h2⟩ | ⟨g, cap, cur, hv, hg, hh, h1, h2, h3, h4⟩
  · refine ⟨none, 0, by rw [h1, h2], by omega, fun j x hj => ?_⟩
    have := (List.getElem?_eq_some_iff.1 hj).1
    omega
  · refine ⟨some ⟨g, 0, none⟩, cap, hv, h1, ?_⟩
    intro j x hj
    have hjl := (List.getElem?_eq_some_iff.1 hj).1
    refine ⟨g, rfl, ?_⟩
    rw [cell_of_row w g j cur 52 (0, 0) hh, ← hj, ← h4]
    simp [hjl]
/-- Rows of limbs are left as they were. -/
def Rows32 (w w' : World) : Prop := ∀ g r, Row w g r → Row w' g r
theorem NatS.rows {B : Nat} {w w' : World} {v : Value} {n : Nat} (h : NatS B w v n) (k : Rows32 w w') : NatS B w' v n := by
  obtain ⟨g, r, l, e, hb, hr, h⟩ := h
  exact ⟨g, r, l, e, hb, k g r hr, h⟩
theorem Keep.rows {w w' : World} (k : Keep w w') : Rows32 w w' := fun _ _ h => h.keep k
theorem i22 : (Tryz.prog.info? 52).map (fun i => (i.zero, i.size, i.bytes)) = some (some (.slice none 0 0), 1, 24) := by kernel_rfl
/-- powers = append(powers, x). -/
theorem wpList_app70 {w0 wr : World} {ops : Array Oper} {rest : List Oper} {o : Oper} {a : Act} {Q : Exit → Act → World → Prop} (hgd : o.guard = none) (s x : Operand)
    (ho : o.op = .call { callee := .builtin .append, args := #[s, x], argTypes := #[117, 117] }) (l : List Value) (v : Value) (hs : a.eval s = v) (p : Option Addr) (n c : Nat)
    (hx : a.eval x = .slice (some ⟨wr.heap.size, 0, none⟩) 1 1) (hown : OwnP w0.heap.size wr v l) (hk : Keep w0 wr) (hlen : l.length < 100)
    (hK : ∀ v' w1, OwnP w0.heap.size w1 v' (l ++ [.slice p n c]) → Keep w0 w1 → Rows32 wr w1 → wpList Tryz.prog ops Q rest (a.put o.dst v') w1) :
    wpList Tryz.prog ops Q (o :: rest) a (wr.alloc (.cells #[.slice p n c] 52)) := by
  obtain ⟨i0, hi, hz0, hz1, hz2⟩ := info_parts i22
  refine wpList_append_own _ hgd s x 117 ho w0.heap.size 52 i0 (.slice none 0 0) 1 24 Tryz.underlying117 hi hz0 hz1 hz2 rfl (by decide) v _ _ hs (hown.alloc _) ⟨wr.heap.size, 0, none⟩ 1 1 [.slice p n c] hx rfl ?_ ?_ ?_ ?_ ?_ ?_
  · intro j u hj
    match j, hj with
    | 0, hj => simp at hj; subst hj; simp [Addr.add]
  · intro u hu; simp at hu; subst hu; rfl
  · simp only [maxLen]; omega
  · omega
  · have := hk.le; simp; omega
  · intro v' w1 h1 h2 _
    refine hK v' w1 ?_ ?_ ?_
    · unfold OwnP; simpa using h1
    · refine Below.grown (hk.alloc _) h2 (by have := hk.le; simp; omega) ?_
      intro k hk'
      exact (hown.lt k hk').1
    · intro g r hr
      have h3 : Row (wr.alloc (.cells #[.slice p n c] 52)) g r := hr.keep ((Keep.refl wr).alloc _)
      have hne : some g ≠ v.ownBlock := by
        intro he
        rcases hown.2 with ⟨h4, -⟩ | ⟨g', cap, cur, h4, -, hh, -⟩
        · rw [h4] at he; cases he
        · rw [h4] at he
          have he : some g = some g' := he
          simp only [Option.some.injEq] at he
          subst he
          unfold Row at hr
          rw [hh] at hr
          simp at hr
      unfold Row at h3 ⊢
      rw [h2.block g (Row.lt (l := r) h3) hne]
      exact h3
/-- powers = append(powers, x), in a region that draws. -/
theorem step_app70 {w0 wr : World} {ops : Array Oper} {o : Oper} {a : Act} {K : Act → World → Prop} {Q : Exit → Act → World → Prop} {E : Prop} (hgd : o.guard = none) (s x : Operand)
    (ho : o.op = .call { callee := .builtin .append, args := #[s, x], argTypes := #[117, 117] }) (l : List Value) (v : Value) (p : Option Addr) (n c : Nat) (hown : OwnP w0.heap.size wr v l) (hk : Keep w0 wr) (hlen : l.length < 100)
    (hs : a.eval s = v) (hx : a.eval x = .slice (some ⟨wr.heap.size, 0, none⟩) 1 1)
    (hK : ∀ v' w1, OwnP w0.heap.size w1 v' (l ++ [.slice p n c]) → Keep w0 w1 → Rows32 wr w1 → K (a.put o.dst v') w1) :
    if Region.wanted o (yielded ops a.tmps) = true then Oper.wp Tryz.prog o a (wr.alloc (.cells #[.slice p n c] 52)) K Q else E := by
  have hw : Region.wanted o (yielded ops a.tmps) = true := by simp [Region.wanted, hgd]
  rw [if_pos hw]
  obtain ⟨i0, hi, hz0, hz1, hz2⟩ := info_parts i22
  refine wp_append_own _ s x 117 ho w0.heap.size 52 i0 (.slice none 0 0) 1 24 Tryz.underlying117 hi hz0 hz1 hz2 rfl (by decide) v _ _ hs (hown.alloc _) ⟨wr.heap.size, 0, none⟩ 1 1 [.slice p n c] hx rfl ?_ ?_ ?_ ?_ ?_ ?_
  · intro j u hj
    match j, hj with
    | 0, hj => simp at hj; subst hj; simp [Addr.add]
  · intro u hu; simp at hu; subst hu; rfl
  · simp only [maxLen]; omega
  · omega
  · have := hk.le; simp; omega
  · intro v' w1 h1 h2 _
    refine hK v' w1 ?_ ?_ ?_
    · unfold OwnP; simpa using h1
    · refine Below.grown (hk.alloc _) h2 (by have := hk.le; simp; omega) ?_
      intro k hk'
      exact (hown.lt k hk').1
    · intro g r hr
      have h3 : Row (wr.alloc (.cells #[.slice p n c] 52)) g r := hr.keep ((Keep.refl wr).alloc _)
      have hne : some g ≠ v.ownBlock := by
        intro he
        rcases hown.2 with ⟨h4, -⟩ | ⟨g', cap, cur, h4, -, hh, -⟩
        · rw [h4] at he; cases he
        · rw [h4] at he
          have he : some g = some g' := he
          simp only [Option.some.injEq] at he
          subst he
          unfold Row at hr
          rw [hh] at hr
          simp at hr
      unfold Row at h3 ⊢
      rw [h2.block g (Row.lt (l := r) h3) hne]
      exact h3
theorem ten_len (l : List Nat) (i : Nat) (hn : Nrm l) (hv : val l = 10 ^ (288 * 2 ^ i)) : l.length ≤ 36 * 2 ^ i := by
  refine len_le_pow hn _ ?_
  rw [hv, show (4294967296 : Nat) = 16 ^ 8 from rfl, ← Nat.pow_mul, show 8 * (36 * 2 ^ i) = 288 * 2 ^ i by omega]
  exact Nat.pow_lt_pow_left (by omega) (by have := Nat.pos_of_ne_zero (show (2 : Nat) ^ i ≠ 0 by simp); omega)
/-- The powers that so many digits want. -/
def Pows (B : Nat) (w : World) (vs : List Value) : Prop := ∀ i x, vs[i]? = some x → NatS B w x (10 ^ (288 * 2 ^ i))
theorem ten_room (j M : Nat) (hj : j ≤ 8 * M) (hM : 0 < M) : 10 ^ j < 4294967296 ^ M := by
  rw [show (4294967296 : Nat) = 16 ^ 8 from rfl, ← Nat.pow_mul]
  exact Nat.lt_of_le_of_lt (Nat.pow_le_pow_right (by omega) hj) (Nat.pow_lt_pow_left (by omega) (by omega))
theorem Pows.snoc {B : Nat} {w w' : World} {vs : List Value} {x : Value} {k : Nat} (h : Pows B w vs) (hr : Rows32 w w') (hk : vs.length = k) (hx : NatS B w' x (10 ^ (288 * 2 ^ k))) : Pows B w' (vs ++ [x]) := by
  intro i y hy
  rw [List.getElem?_append] at hy
  split at hy
  · exact (h i y hy).rows hr
  · rename_i h1
    have h2 : i = k := by
      have := (List.getElem?_eq_some_iff.1 hy).1
      simp at this
      omega
    subst h2
    rw [hk, Nat.sub_self] at hy
    simp at hy
    rw [← hy]; exact hx
/-- A slice's length. -/
def lenOfV : Value → Nat
  | .slice _ n _ => n
  | _ => 0
set_option maxRecDepth 100000 in
set_option maxHeartbeats 800000 in
theorem powersFor_any (n : Nat) (w : World) (hn : n ≤ 1099511627776) :
    Calls Tryz.prog 75 #[.int .i64 (n : Nat)] w fun e w' => ∃ v vs, e = .returned v ∧ OwnP w.heap.size w' v vs ∧ Pows w.heap.size w' vs ∧ n ≤ 288 * 2 ^ vs.length ∧ vs.length ≤ 32 ∧ Keep w w' := by
  go_enter Tryz.func75, Tryz.ntmps75
  go_wp2_with fail
  go_loopw [3] (fun v wr => ∃ vs, OwnP w.heap.size wr v vs ∧ Pows w.heap.size wr vs ∧ vs.length ≤ 32 ∧ Keep w wr) (fun v _ => 40 - lenOfV v)
  case atStart => exact ⟨[], World.ownsRow_nil _ _ _ _, fun i x h => by simp at h, by simp, Keep.refl _⟩
  case round =>
    obtain ⟨vs, hown, hpw, hk32, hkp⟩ := hrel
    obtain ⟨av, cv, rfl, hcv, hcell⟩ := hown.shape
    obtain ⟨k, hk⟩ : ∃ k, vs.length = k := ⟨_, rfl⟩
    rw [hk] at hk32 hcv hown ⊢
    have Hk : Hid (vs.length = k) := hk
    clear hk
    have h2k : 2 ^ k ≤ 4294967296 := Nat.le_trans (Nat.pow_le_pow_right (by omega) hk32) (by decide)
    obtain ⟨P, hP⟩ : ∃ P, 288 * 2 ^ k = P := ⟨_, rfl⟩
    have hPi : (288 : Int) * 2 ^ k = (P : Int) := by rw [← hP]; simp
    have hPw : IntKind.i64.wrap (288 * 2 ^ k) = (P : Int) := by rw [hPi, IntKind.wrap_i64]; omega
    have HP : Hid (288 * 2 ^ k = P) := hP
    have hPb : P ≤ 1236950581248 := by omega
    by_cases hgo : P < n
    · have hgd : decide ((P : Int) < (n : Int)) = true := by simp; omega
      have hk31 : k ≤ 31 := by
        rcases Nat.lt_or_ge k 32 with h | h
        · omega
        · have : 2 ^ 32 ≤ 2 ^ k := Nat.pow_le_pow_right (by omega) h
          omega
      clear hP
      by_cases hk0 : 0 < k
      · obtain ⟨j, hj⟩ : ∃ j, k = j + 1 := ⟨k - 1, by omega⟩
        obtain ⟨x, hx⟩ : ∃ x, vs[j]? = some x := ⟨_, List.getElem?_eq_getElem (by have := Hk.out; omega)⟩
        obtain ⟨gv, rfl, hcx⟩ := hcell j x hx
        have hnx := hpw j x hx
        obtain ⟨gx, rx, lx, rfl, hgx, hrx, hlrx, htx, hrlx, hmrx, hmlx, hnlx, hvlx⟩ := hnx
        have hrdx : Rd wr (some ⟨gx, 0, none⟩) lx := by have := hrx.rd 0 lx.length (by omega); rw [List.drop_zero, htx] at this; exact this
        have hlx : lx.length ≤ 36 * 2 ^ j := ten_len lx j hnlx hvlx
        have h2j : 2 ^ j ≤ 2147483648 := Nat.le_trans (Nat.pow_le_pow_right (by omega) (show j ≤ 31 by omega)) (by decide)
        have hPr := fun wx (h : Rd wx (some ⟨gx, 0, none⟩) lx) => product_any (some ⟨gx, 0, none⟩) (some ⟨gx, 0, none⟩) rx.length rx.length lx lx wx hlrx hlrx (by omega) (by omega) h h hmlx hmlx
        have HV : Hid (val lx * val lx = 10 ^ (288 * 2 ^ k)) := by
          show _ = _
          rw [hj]
          rw [hvlx, ← Nat.pow_add]
          congr 1
          rw [Nat.pow_succ]
          omega
        have hl0 : vs.length < 100 := by rw [Hk.out]; omega
        have hsub : (k : Int) - 1 = (j : Int) := by omega
        have hwj : IntKind.i64.wrap (j : Int) = (j : Int) := by rw [IntKind.wrap_i64]; omega
        have hjk : j < k := by omega
        have hjI : (j : Int) < (k : Int) := by omega
        have hdj : decide ((j : Int) < (k : Int)) = true := by simp; omega
        have hdn : decide (j < k) = true := by simp; omega
        have Hj : Hid (k = j + 1) := hj
        clear hj
        clear hcell hvlx h2k h2j htx hrx hlx
        have hkd : ∀ q, Keep wr (wr.drewN q) := fun q => (Keep.refl wr).drewN q
        go_wp2_with fail
        go_region_law (first | (refine step_app70 rfl _ _ rfl vs _ _ _ _ hown2 hk02 hl0 rfl rfl ?_; intro v' w3 hown' hk' hrows') | (go_simp; go_at_call 119; refine (hPr _ ?_).mono ?_; exact hrdx; rintro e w2 ⟨v2, rfl, hn2, hk2⟩; have hown2 := hown.keep ((Keep.refl wr).drew.trans hk2); have hk02 := hkp.drew.trans hk2; obtain ⟨g2, r2, l2, rfl, hx2⟩ := hn2; dsimp only))
        all_goals
          have HN2 : NatS w.heap.size w2 (.slice (some ⟨g2, 0, none⟩) l2.length r2.length) (10 ^ (288 * 2 ^ k)) := by
            rw [← HV.out]
            exact NatS.mono ⟨g2, r2, l2, rfl, hx2⟩ hkp.drew.le
          have HR : Rows32 wr w2 := ((Keep.refl wr).drew.trans hk2).rows
          obtain ⟨av', cv', rfl, hcv', -⟩ := hown'.shape
          have hlen : (vs ++ [Value.slice (some ⟨g2, 0, none⟩) l2.length r2.length]).length = k + 1 := by simp [Hk.out]
          rw [hlen] at hown' ⊢
          go_simp
          go_wp2_with fail
          refine ⟨⟨_, hown', hpw.snoc (fun g r h => hrows' g r (HR g r h)) Hk.out (HN2.rows hrows'), by have := Hk.out; simp; omega, hk'⟩, ?_⟩
          have := Hk.out
          simp [lenOfV]
          omega
      · have hk00 : k = 0 := by omega
        subst hk00
        have hP288 : P = 288 := by have := HP.out; omega
        have hgd0 : decide ((288 : Int) < (n : Int)) = true := by simp; omega
        clear hcell hPi hPw hgd
        go_wp2_with fail
        have hrow : Row (wr.alloc (.cells #[.int .u32 10] 40)) wr.heap.size [10] := Row.alloc1 wr 10
        have hkw : Keep wr (wr.alloc (.cells #[.int .u32 10] 40)) := (Keep.refl wr).alloc _
        generalize wr.alloc (.cells #[.int .u32 10] 40) = w1 at hrow hkw ⊢
        have hPw := power_any (some ⟨wr.heap.size, 0, none⟩) 1 288 36 [10] w1 (by simp) (by simp) (by omega) (by omega) (by intro j hj; rw [show val [10] = 10 by simp [val]]; exact ten_room j 36 (by omega) (by omega)) hrow.rd0 (by intro x hx; simp at hx; omega)
        refine hPw.mono ?_
        rintro e w2 ⟨v2, rfl, hn2, hk2⟩
        have hk02 := (hkp.trans hkw).trans hk2
        have hown2 := (hown.keep hkw).keep hk2
        have HN2 : Hid (NatS w.heap.size w2 v2 (10 ^ (288 * 2 ^ 0))) := by
          have h1 := hn2.mono (hkp.trans hkw).le
          rw [show val [10] = 10 by simp [val]] at h1
          rw [show 288 * 2 ^ 0 = 288 by omega]
          exact h1
        have HR : Hid (Rows32 wr w2) := (hkw.trans hk2).rows
        obtain ⟨g2, r2, l2, rfl, -⟩ := hn2
        have hl0 : vs.length < 100 := by rw [Hk.out]; omega
        clear hPw
        go_wp2_with (at_builtin; refine wpList_app70 rfl _ _ rfl vs _ rfl _ _ _ rfl hown2 hk02 hl0 ?_; intro v' w3 hown' hk' hrows')
        obtain ⟨av', cv', rfl, hcv', -⟩ := hown'.shape
        go_roundw
        case rel => exact ⟨_, hown', hpw.snoc (fun g r h => hrows' g r (HR.out g r h)) Hk.out (HN2.out.rows hrows'), by have := Hk.out; simp; omega, hk'⟩
        case measure => have := Hk.out; simp [lenOfV]; omega
    · have hgd : decide ((P : Int) < (n : Int)) = false := by simp; omega
      clear hP
      go_wp2_with fail
      go_ret
      exact ⟨_, vs, rfl, hown, hpw, by rw [Hk.out, HP.out]; omega, by rw [Hk.out]; exact hk32, hkp⟩
end Go.Proofs.YtpdjpjkieafnbaaGreatDoor.Li
set_option linter.unusedVariables false
set_option linter.unusedSimpArgs false
namespace Go.Proofs.YtpdjpjkieafnbaaGreatDoor.Li
open Go.RowKit Lb
/-- Powers as an argument: so many of them, readable. -/
def Pw (w : World) (av : Option Addr) (k : Nat) : Prop := ∀ i, i < k → ∃ g gx cx lx, av = some ⟨g, 0, none⟩ ∧ w.cell? ⟨g, i, none⟩ = some (.slice (some ⟨gx, 0, none⟩) (List.length lx) cx) ∧ lx.length ≤ cx ∧ Rd w (some ⟨gx, 0, none⟩) lx ∧ Lim lx ∧ Nrm lx ∧ val lx = 10 ^ (288 * 2 ^ i)
theorem Pw.keep {w w' : World} {av : Option Addr} {k : Nat} (h : Pw w av k) (hk : Keep w w') : Pw w' av k := by
  intro i hi
  obtain ⟨g, gx, cx, lx, e, hc, hl, hr, r⟩ := h i hi
  exact ⟨g, gx, cx, lx, e, hk.cell hc, hl, hr.keep hk, r⟩
theorem Pw.less {w : World} {av : Option Addr} {k j : Nat} (h : Pw w av k) (hj : j ≤ k) : Pw w av j := fun i hi => h i (by omega)
theorem Pows.pw {B : Nat} {w : World} {av : Option Addr} {c : Nat} {vs : List Value} (ho : OwnP B w (.slice av vs.length c) vs) (h : Pows B w vs) : Pw w av vs.length := by
  intro i hi
  obtain ⟨a, c', e, -, hcell⟩ := ho.shape
  simp only [Value.slice.injEq] at e
  obtain ⟨rfl, -, rfl⟩ := e
  obtain ⟨x, hx⟩ : ∃ x, vs[i]? = some x := ⟨_, List.getElem?_eq_getElem hi⟩
  obtain ⟨g, rfl, hc⟩ := hcell i x hx
  obtain ⟨gx, rx, lx, rfl, hgx, hrx, hlrx, htx, hrlx, hmrx, hmlx, hnlx, hvlx⟩ := h i x hx
  refine ⟨g, gx, rx.length, lx, rfl, hc, hlrx, ?_, hmlx, hnlx, hvlx⟩
  have := hrx.rd 0 lx.length (by omega)
  rw [List.drop_zero, htx] at this
  exact this
end Go.Proofs.YtpdjpjkieafnbaaGreatDoor.Li
