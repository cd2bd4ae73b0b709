import Derived.Test.YtpdjpjkieafnbaaDoorProg
import Derived.Test.YtpdjpjkieafnbaaDoorLE6
import Derived.WalkKit
import Derived.WalkSpells
import Derived.WalkLawsBesides
import Derived.Laws.CopyOwn
import Derived.Deep.Draws
import Derived.Deep.QuietTactic
import Derived.BigQuiet
import Derived.Laws.MathBits
import Derived.Laws.BytesArg
import Derived.Lib.OthersKept
import Derived.Deep.RegionWith
import Derived.WalkMore
import Derived.Deep.LoopGhost
import Derived.Deep.RegionLaw
set_option linter.unusedVariables false
set_option linter.unusedSimpArgs false
namespace Go.Proofs.YtpdjpjkieafnbaaDoor.Li
open Go.RowKit Lb
/-- Slices of limbs that a slice owns. -/
def OwnP (B : Nat) (w : World) (v : Value) (l : List Value) : Prop := w.ownsRow B 27 1 v l.length l
theorem OwnP.keep {B : Nat} {w w' : World} {v : Value} {l : List Value} (h : OwnP B w v l) (k : Keep w w') : OwnP B w' v l := by
  refine ⟨h.1, ?_⟩
  rcases h.2 with h2 | ⟨g, cap, cur, hv, hg, hh, r⟩
  · exact .inl h2
  · exact .inr ⟨g, cap, cur, hv, hg, by rw [k.block g (Array.getElem?_eq_some_iff.1 hh).1]; exact hh, r⟩
theorem OwnP.shape {B : Nat} {w : World} {v : Value} {l : List Value} (h : OwnP B w v l) : ∃ a c, v = .slice a l.length c ∧ l.length ≤ c ∧ (∀ j x, l[j]? = some x → ∃ g, a = some ⟨g, 0, none⟩ ∧ w.cell? ⟨g, j, none⟩ = some x) := by
  rcases h.2 with ⟨h1, h2⟩ | ⟨g, cap, cur, hv, hg, hh, h1, h2, h3, h4⟩
  · refine ⟨none, 0, by rw [h1, h2], by omega, fun j x hj => ?_⟩
    have := (List.getElem?_eq_some_iff.1 hj).1
    omega
  · refine ⟨some ⟨g, 0, none⟩, cap, hv, h1, ?_⟩
    intro j x hj
    have hjl := (List.getElem?_eq_some_iff.1 hj).1
    refine ⟨g, rfl, ?_⟩
    rw [cell_of_row w g j cur 27 (0, 0) hh, ← hj, ← h4]
    simp [hjl]
/-- Rows of limbs are left as they were. -/
def Rows32 (w w' : World) : Prop := ∀ g r, Row w g r → Row w' g r
theorem NatS.rows {B : Nat} {w w' : World} {v : Value} {n : Nat} (h : NatS B w v n) (k : Rows32 w w') : NatS B w' v n := by
  obtain ⟨g, r, l, e, hb, hr, h⟩ := h
  exact ⟨g, r, l, e, hb, k g r hr, h⟩
theorem Keep.rows {w w' : World} (k : Keep w w') : Rows32 w w' := fun _ _ h => h.keep k
theorem i22 : (Tryd.prog.info? 27).map (fun i => (i.zero, i.size, i.bytes)) = some (some (.slice none 0 0), 1, 24) := by kernel_rfl
/-- powers = append(powers, x). -/
theorem wpList_app70 {w0 wr : World} {ops : Array Oper} {rest : List Oper} {o : Oper} {a : Act} {Q : Exit → Act → World → Prop} (hgd : o.guard = none) (s x : Operand)
    (ho : o.op = .call { callee := .builtin .append, args := #[s, x], argTypes := #[50, 50] }) (l : List Value) (v : Value) (hs : a.eval s = v) (p : Option Addr) (n c : Nat)
    (hx : a.eval x = .slice (some ⟨wr.heap.size, 0, none⟩) 1 1) (hown : OwnP w0.heap.size wr v l) (hk : Keep w0 wr) (hlen : l.length < 100)
    (hK : ∀ v' w1, OwnP w0.heap.size w1 v' (l ++ [.slice p n c]) → Keep w0 w1 → Rows32 wr w1 → wpList Tryd.prog ops Q rest (a.put o.dst v') w1) :
    wpList Tryd.prog ops Q (o :: rest) a (wr.alloc (.cells #[.slice p n c] 27)) := by
  obtain ⟨i0, hi, hz0, hz1, hz2⟩ := info_parts i22
  refine wpList_append_own _ hgd s x 50 ho w0.heap.size 27 i0 (.slice none 0 0) 1 24 Tryd.underlying50 hi hz0 hz1 hz2 rfl (by decide) v _ _ hs (hown.alloc _) ⟨wr.heap.size, 0, none⟩ 1 1 [.slice p n c] hx rfl ?_ ?_ ?_ ?_ ?_ ?_
  · intro j u hj
    match j, hj with
    | 0, hj => simp at hj; subst hj; simp [Addr.add]
  · intro u hu; simp at hu; subst hu; rfl
  · simp only [maxLen]; omega
  · omega
  · have := hk.le; simp; omega
  · intro v' w1 h1 h2 _
    refine hK v' w1 ?_ ?_ ?_
    · unfold OwnP; simpa using h1
    · refine Below.grown (hk.alloc _) h2 (by have := hk.le; simp; omega) ?_
      intro k hk'
      exact (hown.lt k hk').1
    · intro g r hr
      have h3 : Row (wr.alloc (.cells #[.slice p n c] 27)) g r := hr.keep ((Keep.refl wr).alloc _)
      have hne : some g ≠ v.ownBlock := by
        intro he
        rcases hown.2 with ⟨h4, -⟩ | ⟨g', cap, cur, h4, -, hh, -⟩
        · rw [h4] at he; cases he
        · rw [h4] at he
          have he : some g = some g' := he
          simp only [Option.some.injEq] at he
          subst he
          unfold Row at hr
          rw [hh] at hr
          simp at hr
      unfold Row at h3 ⊢
      rw [h2.block g (Row.lt (l := r) h3) hne]
      exact h3
/-- powers = append(powers, x), in a region that draws. -/
theorem step_app70 {w0 wr : World} {ops : Array Oper} {o : Oper} {a : Act} {K : Act → World → Prop} {Q : Exit → Act → World → Prop} {E : Prop} (hgd : o.guard = none) (s x : Operand)
    (ho : o.op = .call { callee := .builtin .append, args := #[s, x], argTypes := #[50, 50] }) (l : List Value) (v : Value) (p : Option Addr) (n c : Nat) (hown : OwnP w0.heap.size wr v l) (hk : Keep w0 wr) (hlen : l.length < 100)
    (hs : a.eval s = v) (hx : a.eval x = .slice (some ⟨wr.heap.size, 0, none⟩) 1 1)
    (hK : ∀ v' w1, OwnP w0.heap.size w1 v' (l ++ [.slice p n c]) → Keep w0 w1 → Rows32 wr w1 → K (a.put o.dst v') w1) :
    if Region.wanted o (yielded ops a.tmps) = true then Oper.wp Tryd.prog o a (wr.alloc (.cells #[.slice p n c] 27)) K Q else E := by
  have hw : Region.wanted o (yielded ops a.tmps) = true := by simp [Region.wanted, hgd]
  rw [if_pos hw]
  obtain ⟨i0, hi, hz0, hz1, hz2⟩ := info_parts i22
  refine wp_append_own _ s x 50 ho w0.heap.size 27 i0 (.slice none 0 0) 1 24 Tryd.underlying50 hi hz0 hz1 hz2 rfl (by decide) v _ _ hs (hown.alloc _) ⟨wr.heap.size, 0, none⟩ 1 1 [.slice p n c] hx rfl ?_ ?_ ?_ ?_ ?_ ?_
  · intro j u hj
    match j, hj with
    | 0, hj => simp at hj; subst hj; simp [Addr.add]
  · intro u hu; simp at hu; subst hu; rfl
  · simp only [maxLen]; omega
  · omega
  · have := hk.le; simp; omega
  · intro v' w1 h1 h2 _
    refine hK v' w1 ?_ ?_ ?_
    · unfold OwnP; simpa using h1
    · refine Below.grown (hk.alloc _) h2 (by have := hk.le; simp; omega) ?_
      intro k hk'
      exact (hown.lt k hk').1
    · intro g r hr
      have h3 : Row (wr.alloc (.cells #[.slice p n c] 27)) g r := hr.keep ((Keep.refl wr).alloc _)
      have hne : some g ≠ v.ownBlock := by
        intro he
        rcases hown.2 with ⟨h4, -⟩ | ⟨g', cap, cur, h4, -, hh, -⟩
        · rw [h4] at he; cases he
        · rw [h4] at he
          have he : some g = some g' := he
          simp only [Option.some.injEq] at he
          subst he
          unfold Row at hr
          rw [hh] at hr
          simp at hr
      unfold Row at h3 ⊢
      rw [h2.block g (Row.lt (l := r) h3) hne]
      exact h3
theorem ten_len (l : List Nat) (i : Nat) (hn : Nrm l) (hv : val l = 10 ^ (288 * 2 ^ i)) : l.length ≤ 36 * 2 ^ i := by
  refine len_le_pow hn _ ?_
  rw [hv, show (4294967296 : Nat) = 16 ^ 8 from rfl, ← Nat.pow_mul, show 8 * (36 * 2 ^ i) = 288 * 2 ^ i by omega]
  exact Nat.pow_lt_pow_left (by omega) (by have := Nat.pos_of_ne_zero (show (2 : Nat) ^ i ≠ 0 by simp); omega)
/-- The powers that so many digits want. -/
def Pows (B : Nat) (w : World) (vs : List Value) : Prop := ∀ i x, vs[i]? = some x → NatS B w x (10 ^ (288 * 2 ^ i))
theorem ten_room (j M : Nat) (hj : j ≤ 8 * M) (hM : 0 < M) : 10 ^ j < 4294967296 ^ M := by
  rw [show (4294967296 : Nat) = 16 ^ 8 from rfl, ← Nat.pow_mul]
  exact Nat.lt_of_le_of_lt (Nat.pow_le_pow_right (by omega) hj) (Nat.pow_lt_pow_left (by omega) (by omega))
theorem Pows.snoc {B : Nat} {w w' : World} {vs : List Value} {x : Value} {k : Nat} (h : Pows B w vs) (hr : Rows32 w w') (hk : vs.length = k) (hx : NatS B w' x (10 ^ (288 * 2 ^ k))) : Pows B w' (vs ++ [x]) := by
  intro i y hy
  rw [List.getElem?_append] at hy
  split at hy
  · exact (h i y hy).rows hr
  · rename_i h1
    have h2 : i = k := by
      have := (List.getElem?_eq_some_iff.1 hy).1
      simp at this
      omega
    subst h2
    rw [hk, Nat.sub_self] at hy
    simp at hy
    rw [← hy]; exact hx
/-- A slice's length. -/
def lenOfV : Value → Nat
  | .slice _ n _ => n
  | _ => 0
set_option maxRecDepth 100000 in
set_option maxHeartbeats 800000 in
theorem powersFor_any (n : Nat) (w : World) (hn : n ≤ 1099511627776) :
    Calls Tryd.prog 17 #[.int .i64 (n : Nat)] w fun e w' => ∃ v vs, e = .returned v ∧ OwnP w.heap.size w' v vs ∧ Pows w.heap.size w' vs ∧ n ≤ 288 * 2 ^ vs.length ∧ vs.length ≤ 32 ∧ Keep w w' := by
  go_enter Tryd.func17, Tryd.ntmps17
  go_wp2_with fail
  go_loopw [3] (fun v wr => ∃ vs, OwnP w.heap.size wr v vs ∧ Pows w.heap.size wr vs ∧ vs.length ≤ 32 ∧ Keep w wr) (fun v _ => 35 - lenOfV v)
  case atStart => exact ⟨[], World.ownsRow_nil _ _ _ _, fun i x h => by simp at h, by simp, Keep.refl _⟩
  case round =>
    obtain ⟨vs, hown, hpw, hk32, hkp⟩ := hrel
    obtain ⟨av, cv, rfl, hcv, hcell⟩ := hown.shape
    obtain ⟨k, hk⟩ : ∃ k, vs.length = k := ⟨_, rfl⟩
    rw [hk] at hk32 hcv hown ⊢
    have Hk : Hid (vs.length = k) := hk
    clear hk
    have h2k : 2 ^ k ≤ 4294967296 := Nat.le_trans (Nat.pow_le_pow_right (by omega) hk32) (by decide)
    obtain ⟨P, hP⟩ : ∃ P, 288 * 2 ^ k = P := ⟨_, rfl⟩
    have hPi : (288 : Int) * 2 ^ k = (P : Int) := by rw [← hP]; simp
    have hPw : IntKind.i64.wrap (288 * 2 ^ k) = (P : Int) := by rw [hPi, IntKind.wrap_i64]; omega
    have HP : Hid (288 * 2 ^ k = P) := hP
    have hPb : P ≤ 1236950581248 := by omega
    by_cases hgo : P < n
    · have hgd : decide ((P : Int) < (n : Int)) = true := by simp; omega
      have hk31 : k ≤ 31 := by
        rcases Nat.lt_or_ge k 32 with h | h
        · omega
        · have : 2 ^ 32 ≤ 2 ^ k := Nat.pow_le_pow_right (by omega) h
          omega
      clear hP
      by_cases hk0 : 0 < k
      · obtain ⟨j, hj⟩ : ∃ j, k = j + 1 := ⟨k - 1, by omega⟩
        obtain ⟨x, hx⟩ : ∃ x, vs[j]? = some x := ⟨_, List.getElem?_eq_getElem (by have := Hk.out; omega)⟩
        obtain ⟨gv, rfl, hcx⟩ := hcell j x hx
        have hnx := hpw j x hx
        obtain ⟨gx, rx, lx, rfl, hgx, hrx, hlrx, htx, hrlx, hmrx, hmlx, hnlx, hvlx⟩ := hnx
        have hrdx : Rd wr (some ⟨gx, 0, none⟩) lx := by have := hrx.rd 0 lx.length (by omega); rw [List.drop_zero, htx] at this; exact this
        have hlx : lx.length ≤ 36 * 2 ^ j := ten_len lx j hnlx hvlx
        have h2j : 2 ^ j ≤ 2147483648 := Nat.le_trans (Nat.pow_le_pow_right (by omega) (show j ≤ 31 by omega)) (by decide)
        have hPr := fun wx (h : Rd wx (some ⟨gx, 0, none⟩) lx) => product_any (some ⟨gx, 0, none⟩) (some ⟨gx, 0, none⟩) rx.length rx.length lx lx wx hlrx hlrx (by omega) (by omega) h h hmlx hmlx
        have HV : Hid (val lx * val lx = 10 ^ (288 * 2 ^ k)) := by
          show _ = _
          rw [hj]
          rw [hvlx, ← Nat.pow_add]
          congr 1
          rw [Nat.pow_succ]
          omega
        have hl0 : vs.length < 100 := by rw [Hk.out]; omega
        have hsub : (k : Int) - 1 = (j : Int) := by omega
        have hwj : IntKind.i64.wrap (j : Int) = (j : Int) := by rw [IntKind.wrap_i64]; omega
        have hjk : j < k := by omega
        have hjI : (j : Int) < (k : Int) := by omega
        have hdj : decide ((j : Int) < (k : Int)) = true := by simp; omega
        have hdn : decide (j < k) = true := by simp; omega
        have Hj : Hid (k = j + 1) := hj
        clear hj
        clear hcell hvlx h2k h2j htx hrx hlx
        have hkd : ∀ q, Keep wr (wr.drewN q) := fun q => (Keep.refl wr).drewN q
        go_wp2_with fail
        go_region_law (first | (refine step_app70 rfl _ _ rfl vs _ _ _ _ hown2 hk02 hl0 rfl rfl ?_; intro v' w3 hown' hk' hrows') | (go_simp; go_at_call 23; refine (hPr _ ?_).mono ?_; exact hrdx; rintro e w2 ⟨v2, rfl, hn2, hk2⟩; have hown2 := hown.keep ((Keep.refl wr).drew.trans hk2); have hk02 := hkp.drew.trans hk2; obtain ⟨g2, r2, l2, rfl, hx2⟩ := hn2; dsimp only))
        all_goals
          have HN2 : NatS w.heap.size w2 (.slice (some ⟨g2, 0, none⟩) l2.length r2.length) (10 ^ (288 * 2 ^ k)) := by
            rw [← HV.out]
            exact NatS.mono ⟨g2, r2, l2, rfl, hx2⟩ hkp.drew.le
          have HR : Rows32 wr w2 := ((Keep.refl wr).drew.trans hk2).rows
          obtain ⟨av', cv', rfl, hcv', -⟩ := hown'.shape
          have hlen : (vs ++ [Value.slice (some ⟨g2, 0, none⟩) l2.length r2.length]).length = k + 1 := by simp [Hk.out]
          rw [hlen] at hown' ⊢
          go_simp
          go_wp2_with fail
          refine ⟨⟨_, hown', hpw.snoc (fun g r h => hrows' g r (HR g r h)) Hk.out (HN2.rows hrows'), by have := Hk.out; simp; omega, hk'⟩, ?_⟩
          have := Hk.out
          simp [lenOfV]
          omega
      · have hk00 : k = 0 := by omega
        subst hk00
        have hP288 : P = 288 := by have := HP.out; omega
        have hgd0 : decide ((288 : Int) < (n : Int)) = true := by simp; omega
        clear hcell hPi hPw hgd
        go_wp2_with fail
        have hrow : Row (wr.alloc (.cells #[.int .u32 10] 35)) wr.heap.size [10] := Row.alloc1 wr 10
        have hkw : Keep wr (wr.alloc (.cells #[.int .u32 10] 35)) := (Keep.refl wr).alloc _
        generalize wr.alloc (.cells #[.int .u32 10] 35) = w1 at hrow hkw ⊢
        have hPw := power_any (some ⟨wr.heap.size, 0, none⟩) 1 288 36 [10] w1 (by simp) (by simp) (by omega) (by omega) (by intro j hj; rw [show val [10] = 10 by simp [val]]; exact ten_room j 36 (by omega) (by omega)) hrow.rd0 (by intro x hx; simp at hx; omega)
        refine hPw.mono ?_
        rintro e w2 ⟨v2, rfl, hn2, hk2⟩
        have hk02 := (hkp.trans hkw).trans hk2
        have hown2 := (hown.keep hkw).keep hk2
        have HN2 : Hid (NatS w.heap.size w2 v2 (10 ^ (288 * 2 ^ 0))) := by
          have h1 := hn2.mono (hkp.trans hkw).le
          rw [show val [10] = 10 by simp [val]] at h1
          rw [show 288 * 2 ^ 0 = 288 by omega]
          exact h1
        have HR : Hid (Rows32 wr w2) := (hkw.trans hk2).rows
        obtain ⟨g2, r2, l2, rfl, -⟩ := hn2
        have hl0 : vs.length < 100 := by rw [Hk.out]; omega
        clear hPw
        go_wp2_with (at_builtin; refine wpList_app70 rfl _ _ rfl vs _ rfl _ _ _ rfl hown2 hk02 hl0 ?_; intro v' w3 hown' hk' hrows')
        obtain ⟨av', cv', rfl, hcv', -⟩ := hown'.shape
        go_roundw
        case rel => exact ⟨_, hown', hpw.snoc (fun g r h => hrows' g r (HR.out g r h)) Hk.out (HN2.out.rows hrows'), by have := Hk.out; simp; omega, hk'⟩
        case measure => have := Hk.out; simp [lenOfV]; omega
    · have hgd : decide ((P : Int) < (n : Int)) = false := by simp; omega
      clear hP
      go_wp2_with fail
      go_ret
      exact ⟨_, vs, rfl, hown, hpw, by rw [Hk.out, HP.out]; omega, by rw [Hk.out]; exact hk32, hkp⟩
set_option maxRecDepth 100000 in
set_option maxHeartbeats 800000 in
theorem powersFor_full (n : Nat) (w : World) (hn : n ≤ 140737488355328) :
    Calls Tryd.prog 17 #[.int .i64 (n : Nat)] w fun e w' => ∃ v vs, e = .returned v ∧ OwnP w.heap.size w' v vs ∧ Pows w.heap.size w' vs ∧ n ≤ 288 * 2 ^ vs.length ∧ vs.length ≤ 39 ∧ Keep w w' := by
  go_enter Tryd.func17, Tryd.ntmps17
  go_wp2_with fail
  go_loopw [3] (fun v wr => ∃ vs, OwnP w.heap.size wr v vs ∧ Pows w.heap.size wr vs ∧ vs.length ≤ 39 ∧ Keep w wr) (fun v _ => 45 - lenOfV v)
  case atStart => exact ⟨[], World.ownsRow_nil _ _ _ _, fun i x h => by simp at h, by simp, Keep.refl _⟩
  case round =>
    obtain ⟨vs, hown, hpw, hk32, hkp⟩ := hrel
    obtain ⟨av, cv, rfl, hcv, hcell⟩ := hown.shape
    obtain ⟨k, hk⟩ : ∃ k, vs.length = k := ⟨_, rfl⟩
    rw [hk] at hk32 hcv hown ⊢
    have Hk : Hid (vs.length = k) := hk
    clear hk
    have h2k : 2 ^ k ≤ 549755813888 := Nat.le_trans (Nat.pow_le_pow_right (by omega) hk32) (by decide)
    obtain ⟨P, hP⟩ : ∃ P, 288 * 2 ^ k = P := ⟨_, rfl⟩
    have hPi : (288 : Int) * 2 ^ k = (P : Int) := by rw [← hP]; simp
    have hPw : IntKind.i64.wrap (288 * 2 ^ k) = (P : Int) := by rw [hPi, IntKind.wrap_i64]; omega
    have HP : Hid (288 * 2 ^ k = P) := hP
    have hPb : P ≤ 158329674399744 := by omega
    by_cases hgo : P < n
    · have hgd : decide ((P : Int) < (n : Int)) = true := by simp; omega
      have hk31 : k ≤ 38 := by
        rcases Nat.lt_or_ge k 39 with h | h
        · omega
        · have : 2 ^ 39 ≤ 2 ^ k := Nat.pow_le_pow_right (by omega) h
          omega
      clear hP
      by_cases hk0 : 0 < k
      · obtain ⟨j, hj⟩ : ∃ j, k = j + 1 := ⟨k - 1, by omega⟩
        obtain ⟨x, hx⟩ : ∃ x, vs[j]? = some x := ⟨_, List.getElem?_eq_getElem (by have := Hk.out; omega)⟩
        obtain ⟨gv, rfl, hcx⟩ := hcell j x hx
        have hnx := hpw j x hx
        obtain ⟨gx, rx, lx, rfl, hgx, hrx, hlrx, htx, hrlx, hmrx, hmlx, hnlx, hvlx⟩ := hnx
        have hrdx : Rd wr (some ⟨gx, 0, none⟩) lx := by have := hrx.rd 0 lx.length (by omega); rw [List.drop_zero, htx] at this; exact this
        have hlx : lx.length ≤ 36 * 2 ^ j := ten_len lx j hnlx hvlx
        have h2j : 2 ^ j ≤ 274877906944 := Nat.le_trans (Nat.pow_le_pow_right (by omega) (show j ≤ 38 by omega)) (by decide)
        have hPr := fun wx (h : Rd wx (some ⟨gx, 0, none⟩) lx) => product_any (some ⟨gx, 0, none⟩) (some ⟨gx, 0, none⟩) rx.length rx.length lx lx wx hlrx hlrx (by omega) (by omega) h h hmlx hmlx
        have HV : Hid (val lx * val lx = 10 ^ (288 * 2 ^ k)) := by
          show _ = _
          rw [hj]
          rw [hvlx, ← Nat.pow_add]
          congr 1
          rw [Nat.pow_succ]
          omega
        have hl0 : vs.length < 100 := by rw [Hk.out]; omega
        have hsub : (k : Int) - 1 = (j : Int) := by omega
        have hwj : IntKind.i64.wrap (j : Int) = (j : Int) := by rw [IntKind.wrap_i64]; omega
        have hjk : j < k := by omega
        have hjI : (j : Int) < (k : Int) := by omega
        have hdj : decide ((j : Int) < (k : Int)) = true := by simp; omega
        have hdn : decide (j < k) = true := by simp; omega
        have Hj : Hid (k = j + 1) := hj
        clear hj
        clear hcell hvlx h2k h2j htx hrx hlx
        have hkd : ∀ q, Keep wr (wr.drewN q) := fun q => (Keep.refl wr).drewN q
        go_wp2_with fail
        go_region_law (first | (refine step_app70 rfl _ _ rfl vs _ _ _ _ hown2 hk02 hl0 rfl rfl ?_; intro v' w3 hown' hk' hrows') | (go_simp; go_at_call 23; refine (hPr _ ?_).mono ?_; exact hrdx; rintro e w2 ⟨v2, rfl, hn2, hk2⟩; have hown2 := hown.keep ((Keep.refl wr).drew.trans hk2); have hk02 := hkp.drew.trans hk2; obtain ⟨g2, r2, l2, rfl, hx2⟩ := hn2; dsimp only))
        all_goals
          have HN2 : NatS w.heap.size w2 (.slice (some ⟨g2, 0, none⟩) l2.length r2.length) (10 ^ (288 * 2 ^ k)) := by
            rw [← HV.out]
            exact NatS.mono ⟨g2, r2, l2, rfl, hx2⟩ hkp.drew.le
          have HR : Rows32 wr w2 := ((Keep.refl wr).drew.trans hk2).rows
          obtain ⟨av', cv', rfl, hcv', -⟩ := hown'.shape
          have hlen : (vs ++ [Value.slice (some ⟨g2, 0, none⟩) l2.length r2.length]).length = k + 1 := by simp [Hk.out]
          rw [hlen] at hown' ⊢
          go_simp
          go_wp2_with fail
          refine ⟨⟨_, hown', hpw.snoc (fun g r h => hrows' g r (HR g r h)) Hk.out (HN2.rows hrows'), by have := Hk.out; simp; omega, hk'⟩, ?_⟩
          have := Hk.out
          simp [lenOfV]
          omega
      · have hk00 : k = 0 := by omega
        subst hk00
        have hP288 : P = 288 := by have := HP.out; omega
        have hgd0 : decide ((288 : Int) < (n : Int)) = true := by simp; omega
        clear hcell hPi hPw hgd
        go_wp2_with fail
        have hrow : Row (wr.alloc (.cells #[.int .u32 10] 35)) wr.heap.size [10] := Row.alloc1 wr 10
        have hkw : Keep wr (wr.alloc (.cells #[.int .u32 10] 35)) := (Keep.refl wr).alloc _
        generalize wr.alloc (.cells #[.int .u32 10] 35) = w1 at hrow hkw ⊢
        have hPw := power_any (some ⟨wr.heap.size, 0, none⟩) 1 288 36 [10] w1 (by simp) (by simp) (by omega) (by omega) (by intro j hj; rw [show val [10] = 10 by simp [val]]; exact ten_room j 36 (by omega) (by omega)) hrow.rd0 (by intro x hx; simp at hx; omega)
        refine hPw.mono ?_
        rintro e w2 ⟨v2, rfl, hn2, hk2⟩
        have hk02 := (hkp.trans hkw).trans hk2
        have hown2 := (hown.keep hkw).keep hk2
        have HN2 : Hid (NatS w.heap.size w2 v2 (10 ^ (288 * 2 ^ 0))) := by
          have h1 := hn2.mono (hkp.trans hkw).le
          rw [show val [10] = 10 by simp [val]] at h1
          rw [show 288 * 2 ^ 0 = 288 by omega]
          exact h1
        have HR : Hid (Rows32 wr w2) := (hkw.trans hk2).rows
        obtain ⟨g2, r2, l2, rfl, -⟩ := hn2
        have hl0 : vs.length < 100 := by rw [Hk.out]; omega
        clear hPw
        go_wp2_with (at_builtin; refine wpList_app70 rfl _ _ rfl vs _ rfl _ _ _ rfl hown2 hk02 hl0 ?_; intro v' w3 hown' hk' hrows')
        obtain ⟨av', cv', rfl, hcv', -⟩ := hown'.shape
        go_roundw
        case rel => exact ⟨_, hown', hpw.snoc (fun g r h => hrows' g r (HR.out g r h)) Hk.out (HN2.out.rows hrows'), by have := Hk.out; simp; omega, hk'⟩
        case measure => have := Hk.out; simp [lenOfV]; omega
    · have hgd : decide ((P : Int) < (n : Int)) = false := by simp; omega
      clear hP
      go_wp2_with fail
      go_ret
      exact ⟨_, vs, rfl, hown, hpw, by rw [Hk.out, HP.out]; omega, by rw [Hk.out]; exact hk32, hkp⟩
end Go.Proofs.YtpdjpjkieafnbaaDoor.Li
