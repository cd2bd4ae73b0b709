import Derived.Test.YtgmnadlmejkkpaaDoorF1
import Derived.Deep.RegionLaw
set_option linter.unusedVariables false
set_option linter.unusedSimpArgs false
namespace Go.Proofs.YtgmnadlmejkkpaaDoor
open Go.RowKit
theorem Own.lstA {w w' : World} {v : Value} {L : List Nat} (h : Own w.heap.size w' v L) (k : Keep w w') (E : Int) : LstA w w' (.returned (.tuple #[v, .int .i64 E])) E L := by
  obtain ⟨a, c, rfl, h1, h2⟩ := h.shape
  exact ⟨a, c, rfl, h1, h2, k⟩
/-- out = append(out, x), in a region that draws. -/
theorem step_app64 {w0 wr : World} {ops : Array Oper} {o : Oper} {a : Act} {K : Act → World → Prop} {Q : Exit → Act → World → Prop} {E : Prop} (hgd : o.guard = none) (s x : Operand)
    (ho : o.op = .call { callee := .builtin .append, args := #[s, x], argTypes := #[25, 25] }) (l : List Nat) (v : Value) (Y : Int) (y : Nat) (hY : Y = (y : Int)) (hown : Own w0.heap.size wr v l) (hk : Keep w0 wr) (hlen : l.length < 17592186044416)
    (hs : a.eval s = v) (hx : a.eval x = .slice (some ⟨wr.heap.size, 0, none⟩) 1 1)
    (hK : ∀ v' w1, Own w0.heap.size w1 v' (l ++ [y]) → Keep w0 w1 → K (a.put o.dst v') w1) :
    if Region.wanted o (yielded ops a.tmps) = true then Oper.wp Tryd.prog o a (wr.alloc (.cells #[.int .u64 Y] 59)) K Q else E := by
  have hw : Region.wanted o (yielded ops a.tmps) = true := by simp [Region.wanted, hgd]
  rw [if_pos hw]
  obtain ⟨i0, hi, hz0, hz1, hz2⟩ := info_parts i59
  subst hY
  refine wp_append_own _ s x 25 ho w0.heap.size 59 i0 (.int .u64 0) 1 8 Tryd.underlying25 hi hz0 hz1 hz2 rfl (by decide) v _ _ hs (hown.alloc _) ⟨wr.heap.size, 0, none⟩ 1 1 [.int .u64 (y : Int)] hx rfl ?_ ?_ ?_ ?_ ?_ ?_
  · intro j u hj
    match j, hj with
    | 0, hj => simp at hj; subst hj; simp [Addr.add]
  · intro u hu; simp at hu; subst hu; rfl
  · simp only [maxLen]; omega
  · omega
  · have := hk.le; simp; omega
  · intro v' w1 h1 h2 _
    refine hK v' w1 ?_ ?_
    · unfold Own; simpa [U] using h1
    · refine Below.grown (hk.alloc _) h2 (by have := hk.le; simp; omega) ?_
      intro k hk'
      exact (hown.lt k hk').1
def lenOf (v : Value) : Nat := match v with | .slice _ n _ => n | _ => 0
set_option maxRecDepth 100000 in
set_option maxHeartbeats 400000 in
theorem rDo_and (ca cb : Nat) (a b : Option Addr) (l m : List Nat) (w : World) (hl : l.length ≤ 17592186043904) (hlm : l.length = m.length) (ha : Rd w a l) (hb : Rd w b m) (hwl : W64 l) (hwm : W64 m) :
    Calls Tryd.prog 25 #[.slice a l.length ca, .slice b l.length cb, .int .i64 1] w fun e w' => ∃ v, e = .returned (.tuple #[v, .int .i64 0]) ∧ Own w.heap.size w' v (zw (fun x y => x &&& y) l m) ∧ Keep w w' := by
  have Hlm : Hid (l.length = m.length) := hlm
  clear hlm
  go_enter Tryd.func25, Tryd.ntmps25
  go_wp2_with fail
  go_loopw [8, 17] (fun v i wr => ∃ k : Nat, k ≤ l.length ∧ i = .int .i64 k ∧ Own w.heap.size wr v ((zw (fun x y => x &&& y) l m).take k) ∧ Keep w wr) (fun _ i _ => l.length - (intOf i).toNat)
  case atStart => exact ⟨0, by omega, rfl, by rw [List.take_zero]; exact Own.nil _ _, Keep.refl _⟩
  case round =>
    obtain ⟨k, hkk, rfl, hown, hkp⟩ := hrel
    by_cases hkl : k < l.length
    · obtain ⟨b1, o1, e1, c1⟩ := (ha.keep hkp) k hkl
      obtain ⟨b2, o2, e2, c2⟩ := (hb.keep hkp) k (by have := Hlm.out; omega)
      subst e1 e2
      have hx := W64_getD hwl k
      have hy := W64_getD hwm k
      have Ht : Hid ((zw (fun x y => x &&& y) l m).take (k + 1) = (zw (fun x y => x &&& y) l m).take k ++ [(fun x y => x &&& y) (l.getD k 0) (m.getD k 0)]) := zw_take _ Hlm.out hkl
      have hlen : ((zw (fun x y => x &&& y) l m).take k).length = k := by rw [List.length_take, zw_length _ Hlm.out]; omega
      have Hlen : Hid (((zw (fun x y => x &&& y) l m).take k).length = k) := hlen
      generalize l.getD k 0 = x at c1 hx Ht
      generalize m.getD k 0 = y at c2 hy Ht
      have hb' := u64_and_nat x y hx hy
      obtain ⟨av, cv, rfl, hcv, -⟩ := hown.shape
      rw [hlen] at hown ⊢
      have hbound : ((zw (fun x y => x &&& y) l m).take k).length < 17592186044416 := by rw [hlen]; omega
      generalize (zw (fun x y => x &&& y) l m).take k = z at *
      clear hlen
      go_wp2_with fail
      have hown2 := hown.keep ((Keep.refl wr).drew)
      have hk2 := hkp.drew
      go_region_law (refine step_app64 rfl _ _ rfl z _ _ (x &&& y) rfl hown2 hk2 hbound rfl rfl ?_; intro v' w3 hown' hk')
      all_goals
        obtain ⟨av', cv', rfl, hcv', -⟩ := hown'.shape
        rw [List.length_append, List.length_singleton] at hown'
        go_simp
        go_wp2_with fail
        go_roundw
        case rel => exact ⟨k + 1, by omega, by go_num, by rw [Ht.out]; exact hown', hk'⟩
        case measure => simp [intOf]; omega
    · obtain rfl : k = l.length := by omega
      rw [List.take_of_length_le (by rw [zw_length _ Hlm.out]; exact Nat.le_refl _)] at hown
      obtain ⟨av, cv, rfl, hcv, -⟩ := hown.shape
      go_wp2_with fail
      go_ret2
      exact ⟨_, rfl, hown, hkp⟩
end Go.Proofs.YtgmnadlmejkkpaaDoor
