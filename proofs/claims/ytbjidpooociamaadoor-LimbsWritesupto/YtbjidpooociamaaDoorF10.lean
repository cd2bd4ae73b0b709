import Derived.Test.YtbjidpooociamaaDoorF5
import Derived.Test.YtbjidpooociamaaDoorE6
import Derived.Deep.RegionLaw
set_option linter.unusedVariables false
set_option linter.unusedSimpArgs false
namespace Go.Proofs.YtbjidpooociamaaDoor
open Go.RowKit Lb
/-- Slices of limbs that a slice owns. -/
def OwnP (B : Nat) (w : World) (v : Value) (l : List Value) : Prop := w.ownsRow B 22 1 v l.length l
theorem OwnP.keep {B : Nat} {w w' : World} {v : Value} {l : List Value} (h : OwnP B w v l) (k : Keep w w') : OwnP B w' v l := by
  refine ⟨h.1, ?_⟩
  rcases h.2 with h2 | ⟨g, cap, cur, hv, hg, hh, r⟩
  · exact .inl h2
  · exact .inr ⟨g, cap, cur, hv, hg, by rw [k.block g (Array.getElem?_eq_some_iff.1 hh).1]; exact hh, r⟩
theorem OwnP.shape {B : Nat} {w : World} {v : Value} {l : List Value} (h : OwnP B w v l) : ∃ a c, v = .slice a l.length c ∧ l.length ≤ c ∧ (∀ j x, l[j]? = some x → ∃ g, a = some ⟨g, 0, none⟩ ∧ w.cell? ⟨g, j, none⟩ = some x) := by
  rcases h.2 with ⟨h1, h2⟩ | ⟨g, cap, cur, hv, hg, hh, h1, h2, h3, h4⟩
  · refine ⟨none, 0, by rw [h1, h2], by omega, fun j x hj => ?_⟩
    have := (List.getElem?_eq_some_iff.1 hj).1
    omega
  · refine ⟨some ⟨g, 0, none⟩, cap, hv, h1, ?_⟩
    intro j x hj
    have hjl := (List.getElem?_eq_some_iff.1 hj).1
    refine ⟨g, rfl, ?_⟩
    rw [cell_of_row w g j cur 22 (0, 0) hh, ← hj, ← h4]
    simp [hjl]
/-- Rows of limbs are left as they were. -/
def Rows32 (w w' : World) : Prop := ∀ g r, Row w g r → Row w' g r
theorem NatS.rows {B : Nat} {w w' : World} {v : Value} {n : Nat} (h : NatS B w v n) (k : Rows32 w w') : NatS B w' v n := by
  obtain ⟨g, r, l, e, hb, hr, h⟩ := h
  exact ⟨g, r, l, e, hb, k g r hr, h⟩
theorem Keep.rows {w w' : World} (k : Keep w w') : Rows32 w w' := fun _ _ h => h.keep k
theorem i22 : (Tryd.prog.info? 22).map (fun i => (i.zero, i.size, i.bytes)) = some (some (.slice none 0 0), 1, 24) := by kernel_rfl
/-- powers = append(powers, x). -/
theorem wpList_app70 {w0 wr : World} {ops : Array Oper} {rest : List Oper} {o : Oper} {a : Act} {Q : Exit → Act → World → Prop} (hgd : o.guard = none) (s x : Operand)
    (ho : o.op = .call { callee := .builtin .append, args := #[s, x], argTypes := #[70, 70] }) (l : List Value) (v : Value) (hs : a.eval s = v) (p : Option Addr) (n c : Nat)
    (hx : a.eval x = .slice (some ⟨wr.heap.size, 0, none⟩) 1 1) (hown : OwnP w0.heap.size wr v l) (hk : Keep w0 wr) (hlen : l.length < 100)
    (hK : ∀ v' w1, OwnP w0.heap.size w1 v' (l ++ [.slice p n c]) → Keep w0 w1 → Rows32 wr w1 → wpList Tryd.prog ops Q rest (a.put o.dst v') w1) :
    wpList Tryd.prog ops Q (o :: rest) a (wr.alloc (.cells #[.slice p n c] 22)) := by
  obtain ⟨i0, hi, hz0, hz1, hz2⟩ := info_parts i22
  refine wpList_append_own _ hgd s x 70 ho w0.heap.size 22 i0 (.slice none 0 0) 1 24 Tryd.underlying70 hi hz0 hz1 hz2 rfl (by decide) v _ _ hs (hown.alloc _) ⟨wr.heap.size, 0, none⟩ 1 1 [.slice p n c] hx rfl ?_ ?_ ?_ ?_ ?_ ?_
  · intro j u hj
    match j, hj with
    | 0, hj => simp at hj; subst hj; simp [Addr.add]
  · intro u hu; simp at hu; subst hu; rfl
  · simp only [maxLen]; omega
  · omega
  · have := hk.le; simp; omega
  · intro v' w1 h1 h2 _
    refine hK v' w1 ?_ ?_ ?_
    · unfold OwnP; simpa using h1
    · refine Below.grown (hk.alloc _) h2 (by have := hk.le; simp; omega) ?_
      intro k hk'
      exact (hown.lt k hk').1
    · intro g r hr
      have h3 : Row (wr.alloc (.cells #[.slice p n c] 22)) g r := hr.keep ((Keep.refl wr).alloc _)
      have hne : some g ≠ v.ownBlock := by
        intro he
        rcases hown.2 with ⟨h4, -⟩ | ⟨g', cap, cur, h4, -, hh, -⟩
        · rw [h4] at he; cases he
        · rw [h4] at he
          have he : some g = some g' := he
          simp only [Option.some.injEq] at he
          subst he
          unfold Row at hr
          rw [hh] at hr
          simp at hr
      unfold Row at h3 ⊢
      rw [h2.block g (Row.lt (l := r) h3) hne]
      exact h3
/-- powers = append(powers, x), in a region that draws. -/
theorem step_app70 {w0 wr : World} {ops : Array Oper} {o : Oper} {a : Act} {K : Act → World → Prop} {Q : Exit → Act → World → Prop} {E : Prop} (hgd : o.guard = none) (s x : Operand)
    (ho : o.op = .call { callee := .builtin .append, args := #[s, x], argTypes := #[70, 70] }) (l : List Value) (v : Value) (p : Option Addr) (n c : Nat) (hown : OwnP w0.heap.size wr v l) (hk : Keep w0 wr) (hlen : l.length < 100)
    (hs : a.eval s = v) (hx : a.eval x = .slice (some ⟨wr.heap.size, 0, none⟩) 1 1)
    (hK : ∀ v' w1, OwnP w0.heap.size w1 v' (l ++ [.slice p n c]) → Keep w0 w1 → Rows32 wr w1 → K (a.put o.dst v') w1) :
    if Region.wanted o (yielded ops a.tmps) = true then Oper.wp Tryd.prog o a (wr.alloc (.cells #[.slice p n c] 22)) K Q else E := by
  have hw : Region.wanted o (yielded ops a.tmps) = true := by simp [Region.wanted, hgd]
  rw [if_pos hw]
  obtain ⟨i0, hi, hz0, hz1, hz2⟩ := info_parts i22
  refine wp_append_own _ s x 70 ho w0.heap.size 22 i0 (.slice none 0 0) 1 24 Tryd.underlying70 hi hz0 hz1 hz2 rfl (by decide) v _ _ hs (hown.alloc _) ⟨wr.heap.size, 0, none⟩ 1 1 [.slice p n c] hx rfl ?_ ?_ ?_ ?_ ?_ ?_
  · intro j u hj
    match j, hj with
    | 0, hj => simp at hj; subst hj; simp [Addr.add]
  · intro u hu; simp at hu; subst hu; rfl
  · simp only [maxLen]; omega
  · omega
  · have := hk.le; simp; omega
  · intro v' w1 h1 h2 _
    refine hK v' w1 ?_ ?_ ?_
    · unfold OwnP; simpa using h1
    · refine Below.grown (hk.alloc _) h2 (by have := hk.le; simp; omega) ?_
      intro k hk'
      exact (hown.lt k hk').1
    · intro g r hr
      have h3 : Row (wr.alloc (.cells #[.slice p n c] 22)) g r := hr.keep ((Keep.refl wr).alloc _)
      have hne : some g ≠ v.ownBlock := by
        intro he
        rcases hown.2 with ⟨h4, -⟩ | ⟨g', cap, cur, h4, -, hh, -⟩
        · rw [h4] at he; cases he
        · rw [h4] at he
          have he : some g = some g' := he
          simp only [Option.some.injEq] at he
          subst he
          unfold Row at hr
          rw [hh] at hr
          simp at hr
      unfold Row at h3 ⊢
      rw [h2.block g (Row.lt (l := r) h3) hne]
      exact h3
theorem ten_len (l : List Nat) (i : Nat) (hn : Nrm l) (hv : val l = 10 ^ (288 * 2 ^ i)) : l.length ≤ 36 * 2 ^ i := by
  refine len_le_pow hn _ ?_
  rw [hv, show (4294967296 : Nat) = 16 ^ 8 from rfl, ← Nat.pow_mul, show 8 * (36 * 2 ^ i) = 288 * 2 ^ i by omega]
  exact Nat.pow_lt_pow_left (by omega) (by have := Nat.pos_of_ne_zero (show (2 : Nat) ^ i ≠ 0 by simp); omega)
/-- The powers that so many digits want. -/
def Pows (B : Nat) (w : World) (vs : List Value) : Prop := ∀ i x, vs[i]? = some x → NatS B w x (10 ^ (288 * 2 ^ i))
theorem ten_room (j M : Nat) (hj : j ≤ 8 * M) (hM : 0 < M) : 10 ^ j < 4294967296 ^ M := by
  rw [show (4294967296 : Nat) = 16 ^ 8 from rfl, ← Nat.pow_mul]
  exact Nat.lt_of_le_of_lt (Nat.pow_le_pow_right (by omega) hj) (Nat.pow_lt_pow_left (by omega) (by omega))
theorem Pows.snoc {B : Nat} {w w' : World} {vs : List Value} {x : Value} {k : Nat} (h : Pows B w vs) (hr : Rows32 w w') (hk : vs.length = k) (hx : NatS B w' x (10 ^ (288 * 2 ^ k))) : Pows B w' (vs ++ [x]) := by
  intro i y hy
  rw [List.getElem?_append] at hy
  split at hy
  · exact (h i y hy).rows hr
  · rename_i h1
    have h2 : i = k := by
      have := (List.getElem?_eq_some_iff.1 hy).1
      simp at this
      omega
    subst h2
    rw [hk, Nat.sub_self] at hy
    simp at hy
    rw [← hy]; exact hx
/-- A slice's length. -/
def lenOfV : Value → Nat
  | .slice _ n _ => n
  | _ => 0
set_option maxRecDepth 100000 in
set_option maxHeartbeats 800000 in
theorem powersFor_any (n : Nat) (w : World) (hn : n ≤ 1099511627776) :
    Calls Tryd.prog 74 #[.int .i64 (n : Nat)] w fun e w' => ∃ v vs, e = .returned v ∧ OwnP w.heap.size w' v vs ∧ Pows w.heap.size w' vs ∧ n ≤ 288 * 2 ^ vs.length ∧ vs.length ≤ 32 ∧ Keep w w' := by
  go_enter Tryd.func74, Tryd.ntmps74
  go_wp2_with fail
  go_loopw [3] (fun v wr => ∃ vs, OwnP w.heap.size wr v vs ∧ Pows w.heap.size wr vs ∧ vs.length ≤ 32 ∧ Keep w wr) (fun v _ => 40 - lenOfV v)
  case atStart => exact ⟨[], World.ownsRow_nil _ _ _ _, fun i x h => by simp at h, by simp, Keep.refl _⟩
  case round =>
    obtain ⟨vs, hown, hpw, hk32, hkp⟩ := hrel
    obtain ⟨av, cv, rfl, hcv, hcell⟩ := hown.shape
    obtain ⟨k, hk⟩ : ∃ k, vs.length = k := ⟨_, rfl⟩
    rw [hk] at hk32 hcv hown ⊢
    have Hk : Hid (vs.length = k) := hk
    clear hk
    have h2k : 2 ^ k ≤ 4294967296 := Nat.le_trans (Nat.pow_le_pow_right (by omega) hk32) (by decide)
    obtain ⟨P, hP⟩ : ∃ P, 288 * 2 ^ k = P := ⟨_, rfl⟩
    have hPi : (288 : Int) * 2 ^ k = (P : Int) := by rw [← hP]; simp
    have hPw : IntKind.i64.wrap (288 * 2 ^ k) = (P : Int) := by rw [hPi, IntKind.wrap_i64]; omega
    have HP : Hid (288 * 2 ^ k = P) := hP
    have hPb : P ≤ 1236950581248 := by omega
    by_cases hgo : P < n
    · have hgd : decide ((P : Int) < (n : Int)) = true := by simp; omega
      have hk31 : k ≤ 31 := by
        rcases Nat.lt_or_ge k 32 with h | h
        · omega
        · have : 2 ^ 32 ≤ 2 ^ k := Nat.pow_le_pow_right (by omega) h
          omega
      clear hP
      by_cases hk0 : 0 < k
      · obtain ⟨j, hj⟩ : ∃ j, k = j + 1 := ⟨k - 1, by omega⟩
        obtain ⟨x, hx⟩ : ∃ x, vs[j]? = some x := ⟨_, List.getElem?_eq_getElem (by have := Hk.out; omega)⟩
        obtain ⟨gv, rfl, hcx⟩ := hcell j x hx
        have hnx := hpw j x hx
        obtain ⟨gx, rx, lx, rfl, hgx, hrx, hlrx, htx, hrlx, hmrx, hmlx, hnlx, hvlx⟩ := hnx
        have hrdx : Rd wr (some ⟨gx, 0, none⟩) lx := by have := hrx.rd 0 lx.length (by omega); rw [List.drop_zero, htx] at this; exact this
        have hlx : lx.length ≤ 36 * 2 ^ j := ten_len lx j hnlx hvlx
        have h2j : 2 ^ j ≤ 2147483648 := Nat.le_trans (Nat.pow_le_pow_right (by omega) (show j ≤ 31 by omega)) (by decide)
        have hPr := fun wx (h : Rd wx (some ⟨gx, 0, none⟩) lx) => product_any (some ⟨gx, 0, none⟩) (some ⟨gx, 0, none⟩) rx.length rx.length lx lx wx hlrx hlrx (by omega) (by omega) h h hmlx hmlx
        have HV : Hid (val lx * val lx = 10 ^ (288 * 2 ^ k)) := by
          show _ = _
          rw [hj]
          rw [hvlx, ← Nat.pow_add]
          congr 1
          rw [Nat.pow_succ]
          omega
        have hl0 : vs.length < 100 := by rw [Hk.out]; omega
        have hsub : (k : Int) - 1 = (j : Int) := by omega
        have hwj : IntKind.i64.wrap (j : Int) = (j : Int) := by rw [IntKind.wrap_i64]; omega
        have hjk : j < k := by omega
        have hjI : (j : Int) < (k : Int) := by omega
        have hdj : decide ((j : Int) < (k : Int)) = true := by simp; omega
        have hdn : decide (j < k) = true := by simp; omega
        have Hj : Hid (k = j + 1) := hj
        clear hj
        clear hcell hvlx h2k h2j htx hrx hlx
        have hkd : ∀ q, Keep wr (wr.drewN q) := fun q => (Keep.refl wr).drewN q
        go_wp2_with fail
        go_region_law (first | (refine step_app70 rfl _ _ rfl vs _ _ _ _ hown2 hk02 hl0 rfl rfl ?_; intro v' w3 hown' hk' hrows') | (go_simp; go_at_call 79; refine (hPr _ ?_).mono ?_; exact hrdx; rintro e w2 ⟨v2, rfl, hn2, hk2⟩; have hown2 := hown.keep ((Keep.refl wr).drew.trans hk2); have hk02 := hkp.drew.trans hk2; obtain ⟨g2, r2, l2, rfl, hx2⟩ := hn2; dsimp only))
        all_goals
          have HN2 : NatS w.heap.size w2 (.slice (some ⟨g2, 0, none⟩) l2.length r2.length) (10 ^ (288 * 2 ^ k)) := by
            rw [← HV.out]
            exact NatS.mono ⟨g2, r2, l2, rfl, hx2⟩ hkp.drew.le
          have HR : Rows32 wr w2 := ((Keep.refl wr).drew.trans hk2).rows
          obtain ⟨av', cv', rfl, hcv', -⟩ := hown'.shape
          have hlen : (vs ++ [Value.slice (some ⟨g2, 0, none⟩) l2.length r2.length]).length = k + 1 := by simp [Hk.out]
          rw [hlen] at hown' ⊢
          go_simp
          go_wp2_with fail
          refine ⟨⟨_, hown', hpw.snoc (fun g r h => hrows' g r (HR g r h)) Hk.out (HN2.rows hrows'), by have := Hk.out; simp; omega, hk'⟩, ?_⟩
          have := Hk.out
          simp [lenOfV]
          omega
      · have hk00 : k = 0 := by omega
        subst hk00
        have hP288 : P = 288 := by have := HP.out; omega
        have hgd0 : decide ((288 : Int) < (n : Int)) = true := by simp; omega
        clear hcell hPi hPw hgd
        go_wp2_with fail
        have hrow : Row (wr.alloc (.cells #[.int .u32 10] 62)) wr.heap.size [10] := Row.alloc1 wr 10
        have hkw : Keep wr (wr.alloc (.cells #[.int .u32 10] 62)) := (Keep.refl wr).alloc _
        generalize wr.alloc (.cells #[.int .u32 10] 62) = w1 at hrow hkw ⊢
        have hPw := power_any (some ⟨wr.heap.size, 0, none⟩) 1 288 36 [10] w1 (by simp) (by simp) (by omega) (by omega) (by intro j hj; rw [show val [10] = 10 by simp [val]]; exact ten_room j 36 (by omega) (by omega)) hrow.rd0 (by intro x hx; simp at hx; omega)
        refine hPw.mono ?_
        rintro e w2 ⟨v2, rfl, hn2, hk2⟩
        have hk02 := (hkp.trans hkw).trans hk2
        have hown2 := (hown.keep hkw).keep hk2
        have HN2 : Hid (NatS w.heap.size w2 v2 (10 ^ (288 * 2 ^ 0))) := by
          have h1 := hn2.mono (hkp.trans hkw).le
          rw [show val [10] = 10 by simp [val]] at h1
          rw [show 288 * 2 ^ 0 = 288 by omega]
          exact h1
        have HR : Hid (Rows32 wr w2) := (hkw.trans hk2).rows
        obtain ⟨g2, r2, l2, rfl, -⟩ := hn2
        have hl0 : vs.length < 100 := by rw [Hk.out]; omega
        clear hPw
        go_wp2_with (at_builtin; refine wpList_app70 rfl _ _ rfl vs _ rfl _ _ _ rfl hown2 hk02 hl0 ?_; intro v' w3 hown' hk' hrows')
        obtain ⟨av', cv', rfl, hcv', -⟩ := hown'.shape
        go_roundw
        case rel => exact ⟨_, hown', hpw.snoc (fun g r h => hrows' g r (HR.out g r h)) Hk.out (HN2.out.rows hrows'), by have := Hk.out; simp; omega, hk'⟩
        case measure => have := Hk.out; simp [lenOfV]; omega
    · have hgd : decide ((P : Int) < (n : Int)) = false := by simp; omega
      clear hP
      go_wp2_with fail
      go_ret
      exact ⟨_, vs, rfl, hown, hpw, by rw [Hk.out, HP.out]; omega, by rw [Hk.out]; exact hk32, hkp⟩
end Go.Proofs.YtbjidpooociamaaDoor
namespace Go.Proofs.YtbjidpooociamaaDoor
open Go.RowKit Lb
theorem numv_from (b : List Nat) : ∀ s, b.foldl (fun a x => a * 10 + (x - 48)) s = s * 10 ^ b.length + numv b := by
  induction b with
  | nil => intro s; simp [numv]
  | cons x xs ih =>
    intro s
    have h1 := ih (s * 10 + (x - 48))
    have h2 := ih (0 * 10 + (x - 48))
    simp only [List.foldl_cons, numv, List.length_cons] at *
    rw [h1, h2, Nat.pow_succ]
    grind
theorem numv_append (a b : List Nat) : numv (a ++ b) = numv a * 10 ^ b.length + numv b := by
  rw [numv, List.foldl_append]
  exact numv_from b _
theorem numv_lt (l : List Nat) (h : ∀ x ∈ l, 48 ≤ x ∧ x < 58) : numv l < 10 ^ l.length := by
  induction l with
  | nil => simp [numv]
  | cons x xs ih =>
    have h1 := ih (fun y hy => h y (by simp [hy]))
    have h2 := h x (by simp)
    have h3 := numv_append [x] xs
    simp only [List.singleton_append] at h3
    rw [h3, List.length_cons, Nat.pow_succ]
    have h4 : numv [x] = x - 48 := by simp [numv]
    rw [h4]
    have h5 : (x - 48) * 10 ^ xs.length ≤ 9 * 10 ^ xs.length := Nat.mul_le_mul_right _ (by omega)
    omega
/-- Powers as an argument: so many of them, readable. -/
def Pw (w : World) (av : Option Addr) (k : Nat) : Prop := ∀ i, i < k → ∃ g gx cx lx, av = some ⟨g, 0, none⟩ ∧ w.cell? ⟨g, i, none⟩ = some (.slice (some ⟨gx, 0, none⟩) (List.length lx) cx) ∧ lx.length ≤ cx ∧ Rd w (some ⟨gx, 0, none⟩) lx ∧ Lim lx ∧ Nrm lx ∧ val lx = 10 ^ (288 * 2 ^ i)
theorem Pw.keep {w w' : World} {av : Option Addr} {k : Nat} (h : Pw w av k) (hk : Keep w w') : Pw w' av k := by
  intro i hi
  obtain ⟨g, gx, cx, lx, e, hc, hl, hr, r⟩ := h i hi
  exact ⟨g, gx, cx, lx, e, hk.cell hc, hl, hr.keep hk, r⟩
theorem Pw.less {w : World} {av : Option Addr} {k j : Nat} (h : Pw w av k) (hj : j ≤ k) : Pw w av j := fun i hi => h i (by omega)
theorem Pows.pw {B : Nat} {w : World} {av : Option Addr} {c : Nat} {vs : List Value} (ho : OwnP B w (.slice av vs.length c) vs) (h : Pows B w vs) : Pw w av vs.length := by
  intro i hi
  obtain ⟨a, c', e, -, hcell⟩ := ho.shape
  simp only [Value.slice.injEq] at e
  obtain ⟨rfl, -, rfl⟩ := e
  obtain ⟨x, hx⟩ : ∃ x, vs[i]? = some x := ⟨_, List.getElem?_eq_getElem hi⟩
  obtain ⟨g, rfl, hc⟩ := hcell i x hx
  obtain ⟨gx, rx, lx, rfl, hgx, hrx, hlrx, htx, hrlx, hmrx, hmlx, hnlx, hvlx⟩ := h i x hx
  refine ⟨g, gx, rx.length, lx, rfl, hc, hlrx, ?_, hmlx, hnlx, hvlx⟩
  have := hrx.rd 0 lx.length (by omega)
  rw [List.drop_zero, htx] at this
  exact this
set_option maxRecDepth 100000 in
set_option maxHeartbeats 400000 in
theorem joined_zero (av : Option Addr) (c : Nat) (cs : List Nat) (w : World) (hcs : ∀ x ∈ cs, 48 ≤ x ∧ x < 58) (hl : cs.length ≤ 140737488355328) :
    Calls Tryd.prog 73 #[.string (S8 cs), .slice av 0 c] w fun e w' => ∃ v, e = .returned v ∧ NatR w.heap.size w' v (numv cs) ∧ Keep w w' := by
  go_enter Tryd.func73, Tryd.ntmps73
  go_wp2_with fail
  refine (joinedChunks_any cs w hcs hl).mono ?_
  rintro e w1 ⟨v, rfl, hn, hk⟩
  obtain ⟨a, c, l, rfl, -⟩ := hn.shape
  go_wp2_with fail
  go_ret
  exact ⟨_, rfl, hn, hk⟩
end Go.Proofs.YtbjidpooociamaaDoor
namespace Go.Proofs.YtbjidpooociamaaDoor
open Go.RowKit Lb
theorem str_to (cs : List Nat) (q : Nat) (hq : q ≤ cs.length) (wx : World) : (Instr.slice 9 (.string (S8 cs)) none (some (.int .i64 (q : Nat))) none).run Tryd.prog wx = .ok (.string (S8 (cs.take q))) wx := by
  have hsz := S8_size cs
  have h1 : (S8 cs).extract 0 q = S8 (cs.take q) := by
    rw [S8, ByteArray.extract_mk]
    simp [S8, List.map_take]
  simp [Instr.slice, Instr.sliceBounds, Instr.sliceBound, asIntOf, run_underlying Tryd.underlying9, hsz, hq, h1]
theorem str_from (cs : List Nat) (q : Nat) (hq : q ≤ cs.length) (wx : World) : (Instr.slice 9 (.string (S8 cs)) (some (.int .i64 (q : Nat))) none none).run Tryd.prog wx = .ok (.string (S8 (cs.drop q))) wx := by
  have hsz := S8_size cs
  have h1 : (S8 cs).extract q cs.length = S8 (cs.drop q) := by
    rw [S8, ByteArray.extract_mk]
    simp [S8, List.map_drop]
    rw [List.take_of_length_le (by simp)]
  simp [Instr.slice, Instr.sliceBounds, Instr.sliceBound, asIntOf, run_underlying Tryd.underlying9, hsz, hq, h1]
set_option maxRecDepth 100000 in
theorem slice70_to (wx : World) (b n c k : Nat) (hk : k ≤ c) : (Instr.slice 70 (.slice (some ⟨b, 0, none⟩) n c) none (some (.int .i64 (k : Nat))) none).run Tryd.prog wx = .ok (.slice (some ⟨b, 0, none⟩) k c) wx := by
  rw [run_slice_h (P := Tryd.prog) wx 70 (some ⟨b, 0, none⟩) n c Tryd.underlying70 .i64 k (by omega) (by omega)]
  have e2 : (sizeOf (Tryd.prog.elem 70)).run Tryd.prog wx = .ok 1 wx := by kernel_rfl
  rw [e2]
  simp [Result.andThen, sliced, Addr.add]
def JoinedSaid (k : Nat) : Prop := ∀ (av : Option Addr) (c : Nat) (cs : List Nat) (w : World), k ≤ c → Pw w av k → (∀ x ∈ cs, 48 ≤ x ∧ x < 58) → cs.length ≤ 1099511627776 →
    Calls Tryd.prog 73 #[.string (S8 cs), .slice av k c] w fun e w' => ∃ v, e = .returned v ∧ NatR w.heap.size w' v (numv cs) ∧ Keep w w'
set_option maxRecDepth 100000 in
set_option maxHeartbeats 1600000 in
theorem joined_step (k : Nat) (hk : k < 32) (ih : JoinedSaid k) : JoinedSaid (k + 1) := by
  intro av c cs w hc hpw hcs hl
  have hsz := S8_size cs
  obtain ⟨g, gx, cx, lx, rfl, hcell, hlx, hrx, hmx, hnx, hvx⟩ := hpw k (by omega)
  have h2k : 2 ^ k ≤ 2147483648 := Nat.le_trans (Nat.pow_le_pow_right (by omega) (show k ≤ 31 by omega)) (by decide)
  obtain ⟨P, hP⟩ : ∃ P, 288 * 2 ^ k = P := ⟨_, rfl⟩
  have hPi : (288 : Int) * 2 ^ k = (P : Int) := by rw [← hP]; simp
  have hPw : IntKind.i64.wrap (288 * 2 ^ k) = (P : Int) := by rw [hPi, IntKind.wrap_i64]; omega
  have HP : Hid (288 * 2 ^ k = P) := hP
  have hPb : P ≤ 618475290624 := by omega
  clear hP h2k
  by_cases hcut : cs.length ≤ P
  · have hd : decide ((cs.length : Int) - (P : Int) ≤ 0) = true := by simp; omega
    have hJ := ih (some ⟨g, 0, none⟩) c cs w (by omega) (hpw.less (by omega)) hcs hl
    go_enter Tryd.func73, Tryd.ntmps73
    go_wp2_with fail
    refine hJ.mono ?_
    rintro e w1 ⟨v, rfl, hn, hk1⟩
    have hn' := hn
    obtain ⟨a1, c1, l1, rfl, -⟩ := hn.shape
    go_wp2_with fail
    go_ret
    exact ⟨_, rfl, hn', hk1⟩
  · have hd : decide ((cs.length : Int) - (P : Int) ≤ 0) = false := by simp; omega
    obtain ⟨q, hq⟩ : ∃ q, q + P = cs.length := ⟨cs.length - P, by omega⟩
    have hqi : (cs.length : Int) - (P : Int) = (q : Int) := by omega
    have hd0 : decide ((q : Int) ≤ 0) = false := by simp; omega
    have hs1 := str_to cs q (by omega)
    have hs2 := str_from cs q (by omega)
    have hs3 := fun wx => slice70_to wx g (k + 1) c k (by omega)
    have hJ1 := fun wx (h : Pw wx (some ⟨g, 0, none⟩) k) => ih (some ⟨g, 0, none⟩) c (cs.take q) wx (by omega) h (fun x hx => hcs x (List.mem_of_mem_take hx)) (by simp; omega)
    have hJ2 := fun wx (h : Pw wx (some ⟨g, 0, none⟩) k) => ih (some ⟨g, 0, none⟩) c (cs.drop q) wx (by omega) h (fun x hx => hcs x (List.mem_of_mem_drop hx)) (by simp; omega)
    have hp0 := hpw.less (show k ≤ k + 1 by omega)
    have HV : Hid (numv (cs.take q) * 10 ^ P + numv (cs.drop q) = numv cs) := by
      show _ = _
      have h1 := numv_append (cs.take q) (cs.drop q)
      rw [List.take_append_drop] at h1
      rw [h1, List.length_drop, show cs.length - q = P by omega]
    have hlA : (cs.take q).length ≤ 1099511627776 := by simp; omega
    have hlB : (cs.drop q).length ≤ 1099511627776 := by simp; omega
    have hnA0 := numv_lt (cs.take q) (fun x hx => hcs x (List.mem_of_mem_take hx))
    have hnB0 := numv_lt (cs.drop q) (fun x hx => hcs x (List.mem_of_mem_drop hx))
    have hlx2 : lx.length ≤ 77309411328 := by
      have h1 := ten_len lx k hnx hvx
      have h2 : 2 ^ k ≤ 2147483648 := Nat.le_trans (Nat.pow_le_pow_right (by omega) (show k ≤ 31 by omega)) (by decide)
      omega
    clear hd
    generalize cs.take q = ca at *
    generalize cs.drop q = cb at *
    go_enter Tryd.func73, Tryd.ntmps73
    go_wp2_with fail
    go_region_with (first
      | (go_at_call_of 73 (Value.string (S8 ca)); refine (hJ1 _ ?_).mono ?_; (first | exact hp0 | exact Pw.keep (w := w.drew) hp0 hkB); rintro e wA ⟨vA, rfl, hnA, hkA⟩; have hnA' := hnA; obtain ⟨aA, cA, lA, rfl, hcA, rA, mA, pA, eA, -⟩ := hnA.shape)
      | (go_at_call_of 73 (Value.string (S8 cb)); refine (hJ2 _ ?_).mono ?_; (first | exact hp0 | exact Pw.keep (w := w.drew) hp0 hkA); rintro e wB ⟨vB, rfl, hnB, hkB⟩; have hnB' := hnB; obtain ⟨aB, cB, lB, rfl, hcB, rB, mB, pB, eB, -⟩ := hnB.shape))
    have hk1 : Keep w wA := ((Keep.refl w).drew).trans hkA
    have hk2 : Keep w wB := hk1.trans hkB
    have hcw := hk2.cell hcell
    have hLA : lA.length ≤ 1099511627776 := Nat.le_trans (len_le_pow pA ca.length (by rw [eA]; exact Nat.lt_of_lt_of_le hnA0 (Nat.pow_le_pow_left (by omega) _))) hlA
    have hLB : lB.length ≤ 1099511627776 := Nat.le_trans (len_le_pow pB cb.length (by rw [eB]; exact Nat.lt_of_lt_of_le hnB0 (Nat.pow_le_pow_left (by omega) _))) hlB
    have hPr := product_any aA (some ⟨gx, 0, none⟩) cA cx lA lx wB hcA hlx (by omega) (by omega) (rA.keep hkB) (hrx.keep hk2) mA hmx
    have HF : Hid (val lA * val lx + val lB = numv cs) := by
      show _ = _
      rw [eA, eB, hvx, HP.out]; exact HV.out
    clear eA eB hvx hnA0 hnB0 hnA hnB hnA' hnB' hJ1 hJ2 hs1 hs2 hs3
    go_simp
    go_wp2_with fail
    refine hPr.mono ?_
    rintro e wP ⟨vP, rfl, hnP, hkP⟩
    obtain ⟨aP, cP, lP, rfl, hcP, rP, mP, pP, eP, -⟩ := hnP.natR.shape
    have hLP : lP.length ≤ lA.length + lx.length := len_le_pow pP _ (by
      rw [eP, Nat.pow_add]
      exact Nat.mul_lt_mul_of_lt_of_le (val_lt mA) (Nat.le_of_lt (val_lt hmx)) (Nat.pos_of_ne_zero (by simp)))
    have hS := sum_any aP aB cP cB lP lB wP (by omega) (by omega) rP (rB.keep hkP) mP mB
    rw [eP, HF.out] at hS
    clear hPr eP
    go_wp2_with fail
    refine hS.mono ?_
    rintro e wS ⟨vS, rfl, hnS, hkS⟩
    have hnS' := hnS
    obtain ⟨aS, cS, lS, rfl, -⟩ := hnS.shape
    go_wp2_with fail
    go_ret
    exact ⟨_, rfl, hnS'.mono (hk2.trans hkP).le, (hk2.trans hkP).trans hkS⟩
theorem joined_any : ∀ k, k ≤ 32 → JoinedSaid k
  | 0, _ => fun av c cs w _ _ hcs hl => joined_zero av c cs w hcs (by omega)
  | k + 1, h => joined_step k (by omega) (joined_any k (by omega))
end Go.Proofs.YtbjidpooociamaaDoor
namespace Go.Proofs.YtbjidpooociamaaDoor
open Go.RowKit Lb
set_option maxRecDepth 100000 in
set_option maxHeartbeats 400000 in
theorem Read_any (cs : List Nat) (w : World) (hcs : ∀ x ∈ cs, 48 ≤ x ∧ x < 58) (h0 : cs ≠ []) (hl : cs.length ≤ 1099511627776) :
    Calls Tryd.prog 27 #[.string (S8 cs)] w fun e w' => ∃ v, e = .returned (.tuple #[v, .int .i64 0, .int .i64 0]) ∧ NatR w.heap.size w' v (numv cs) ∧ Keep w w' := by
  have hsz := S8_size cs
  have hpos : 0 < cs.length := List.length_pos_iff.2 h0
  have hne : (S8 cs).toList.isEmpty = false := by
    rw [ByteArray.toList_eq]
    simp [S8]
    exact h0
  go_enter Tryd.func27, Tryd.ntmps27
  go_wp2_with fail
  have hit0 : (w.iter (S8 cs) 0).heap[w.heap.size]? = some (.stringIter (S8 cs) 0) := World.iter_heap w _ 0
  have hk0 : Keep w (w.iter (S8 cs) 0) := (Keep.refl w).alloc _
  generalize w.iter (S8 cs) 0 = w2 at hit0 hk0 ⊢
  go_loopw [] (fun wr => ∃ k : Nat, k ≤ cs.length ∧ wr.heap[w.heap.size]? = some (.stringIter (S8 cs) k) ∧ Keep w wr) (fun wr => cs.length - wr.iterPos w.heap.size)
  case atStart => exact ⟨0, by omega, hit0, hk0⟩
  case round =>
    obtain ⟨k, hk, hit, hkp⟩ := hrel
    by_cases hkl : k < cs.length
    · obtain ⟨x, hx⟩ : ∃ x, cs.getD k 0 = x := ⟨_, rfl⟩
      have hxm : x ∈ cs := by rw [← hx]; simp [List.getD, hkl]
      obtain ⟨hx1, hx2⟩ := hcs x hxm
      have hks : k < (S8 cs).size := by rw [hsz]; exact hkl
      have hb : ((S8 cs)[k]'hks).toNat = x := by rw [S8_get cs k hks (by omega)]; exact hx
      have hnx := fun ty => Lib.run_next_ascii_at (P := Tryd.prog) wr w.heap.size (S8 cs) k ty hit hks (by omega)
      rw [hb] at hnx
      have hit1 := Lib.iterAt_heap wr w.heap.size (S8 cs) k (k + 1) hit
      have hkp1 : Keep w (wr.iterAt w.heap.size (S8 cs) (k + 1)) := iterAt_keep hkp (by omega) _ _
      have Hit := hit
      have hd1 : decide ((x : Int) < 48) = false := by simp; omega
      clear hb hx hxm hit hkp hks
      generalize wr.iterAt w.heap.size (S8 cs) (k + 1) = w3 at hnx hit1 hkp1
      go_wp2_with fail
      go_roundw
      case rel => exact ⟨k + 1, by omega, hit1, hkp1⟩
      case measure => rw [iterPos_of hit1, iterPos_of Hit]; omega
    · have hnx := fun ty => Lib.run_next_end_at (P := Tryd.prog) wr w.heap.size (S8 cs) k ty hit (by rw [hsz]; omega)
      have hP := powersFor_any cs.length wr hl
      go_wp2_with fail
      refine hP.mono ?_
      rintro e w4 ⟨v4, vs4, rfl, ho4, hp4, hn4, hl4, hk4⟩
      obtain ⟨a4, c4, rfl, hc4, -⟩ := ho4.shape
      have hJ := joined_any vs4.length hl4 a4 c4 cs w4 hc4 (Pows.pw ho4 hp4) hcs hl
      go_wp2_with fail
      refine hJ.mono ?_
      rintro e w5 ⟨v, rfl, hn, hk5⟩
      obtain ⟨a, c, l, rfl, -⟩ := hn.shape
      go_wp2_with fail
      go_ret3
      exact ⟨_, rfl, hn.mono (hkp.trans hk4).le, (hkp.trans hk4).trans hk5⟩
end Go.Proofs.YtbjidpooociamaaDoor
namespace Go.Proofs.YtbjidpooociamaaDoor
open Go.RowKit Lb
theorem dw_two : ∀ (j h v : Nat), dw (h + j) v = dw h (v / 10 ^ j) ++ dw j v
  | 0, h, v => by simp [dw]
  | j + 1, h, v => by
    rw [← Nat.add_assoc, dw, dw_two j h (v / 10), dw, Nat.div_div_eq_div_mul, Nat.pow_succ, Nat.mul_comm 10, List.append_assoc]
theorem dw_mod : ∀ (j v : Nat), dw j (v % 10 ^ j) = dw j v
  | 0, v => by simp [dw]
  | j + 1, v => by
    have h1 : v % 10 ^ (j + 1) / 10 = v / 10 % 10 ^ j := by
      rw [Nat.pow_succ, Nat.mul_comm, Nat.mod_mul_right_div_self]
    have h2 : v % 10 ^ (j + 1) % 10 = v % 10 := by
      rw [Nat.pow_succ]
      exact Nat.mod_mul_left_mod v (10 ^ j) 10
    rw [dw, dw, h1, h2, dw_mod j (v / 10)]
/-- The digits of the two parts of a halved number. -/
theorem dw_halves (h v : Nat) : dw (2 * h) v = dw h (v / 10 ^ h) ++ dw h (v % 10 ^ h) := by
  rw [show 2 * h = h + h by omega, dw_two, dw_mod]
end Go.Proofs.YtbjidpooociamaaDoor
