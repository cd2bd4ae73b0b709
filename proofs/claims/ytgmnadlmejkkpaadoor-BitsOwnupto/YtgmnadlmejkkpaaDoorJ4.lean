import Derived.Test.YtgmnadlmejkkpaaDoorJ3
set_option linter.unusedVariables false
set_option linter.unusedSimpArgs false
namespace Go.Proofs.YtgmnadlmejkkpaaDoor
open Go.RowKit
def Own8 (B : Nat) (w : World) (v : Value) (l : List Nat) : Prop := w.ownsRow B 5 1 v l.length (V8 l)
theorem Own8.keep {B : Nat} {w w' : World} {v : Value} {l : List Nat} (h : Own8 B w v l) (k : Keep w w') : Own8 B w' v l := by
  refine ⟨h.1, ?_⟩
  rcases h.2 with h2 | ⟨g, cap, cur, hv, hg, hh, r⟩
  · exact .inl h2
  · exact .inr ⟨g, cap, cur, hv, hg, by rw [k.block g (Array.getElem?_eq_some_iff.1 hh).1]; exact hh, r⟩
theorem Own8.shape {B : Nat} {w : World} {v : Value} {l : List Nat} (h : Own8 B w v l) : ∃ a c, v = .slice a l.length c ∧ l.length ≤ c ∧ (∀ j, j < l.length → ∃ g, a = some ⟨g, 0, none⟩ ∧ w.cell? ⟨g, j, none⟩ = some (.int .u8 (l.getD j 0 : Nat))) := by
  rcases h.2 with ⟨h1, h2⟩ | ⟨g, cap, cur, hv, hg, hh, h1, h2, h3, h4⟩
  · exact ⟨none, 0, by rw [h1, h2], by omega, fun j hj => by omega⟩
  · refine ⟨some ⟨g, 0, none⟩, cap, hv, h1, ?_⟩
    intro j hj
    refine ⟨g, rfl, ?_⟩
    rw [cell_of_row w g j cur 5 (0, 0) hh, ← V8_get l j hj, ← h4]
    simp [hj]
theorem Own8.nil (B : Nat) (w : World) : Own8 B w (.slice none 0 0) [] := ⟨rfl, .inl ⟨rfl, rfl⟩⟩
/-- out = append(out, c). -/
theorem wpList_app8 {w0 wr : World} {ops : Array Oper} {rest : List Oper} {o : Oper} {a : Act} {Q : Exit → Act → World → Prop} (hgd : o.guard = none) (s x : Operand)
    (ho : o.op = .call { callee := .builtin .append, args := #[s, x], argTypes := #[74, 74] }) (l : List Nat) (v : Value) (hs : a.eval s = v) (Y : Int) (y : Nat) (hY : Y = (y : Int))
    (hx : a.eval x = .slice (some ⟨wr.heap.size, 0, none⟩) 1 1) (hown : Own8 w0.heap.size wr v l) (hk : Keep w0 wr) (hlen : l.length < 17592186044416)
    (hK : ∀ v' w1, Own8 w0.heap.size w1 v' (l ++ [y]) → Keep w0 w1 → wpList Tryd.prog ops Q rest (a.put o.dst v') w1) :
    wpList Tryd.prog ops Q (o :: rest) a (wr.alloc (.cells #[.int .u8 Y] 5)) := by
  obtain ⟨i0, hi, hz0, hz1, hz2⟩ := info_parts i5
  subst hY
  refine wpList_append_own _ hgd s x 74 ho w0.heap.size 5 i0 (.int .u8 0) 1 1 Tryd.underlying74 hi hz0 hz1 hz2 rfl (by decide) v _ _ hs (hown.alloc _) ⟨wr.heap.size, 0, none⟩ 1 1 [.int .u8 (y : Int)] hx rfl ?_ ?_ ?_ ?_ ?_ ?_
  · intro j u hj
    match j, hj with
    | 0, hj => simp at hj; subst hj; simp [Addr.add]
  · intro u hu; simp at hu; subst hu; rfl
  · simp only [maxLen]; omega
  · omega
  · have := hk.le; simp; omega
  · intro v' w1 h1 h2 _
    refine hK v' w1 ?_ ?_
    · unfold Own8; simpa [V8] using h1
    · refine Below.grown (hk.alloc _) h2 (by have := hk.le; simp; omega) ?_
      intro k hk'
      have := hown.lt k hk'
      exact this.1
theorem conv8o {B : Nat} {w : World} {a : Option Addr} {c : Nat} {l : List Nat} (h : Own8 B w (.slice a l.length c) l) : (convert 74 9 (.slice a l.length c)).run Tryd.prog w = .ok (.string (S8 l)) w := by
  by_cases h0 : l.length = 0
  · have e := List.length_eq_zero_iff.1 h0
    subst e
    rcases h.2 with ⟨h1, -⟩ | ⟨g, cap, cur, h1, -⟩
    · injection h1 with e1 e2 e3
      subst e1
      have := run_convert_bytes_nil (P := Tryd.prog) w 74 5 Tryd.underlying74 Tryd.underlying5 0 c 9 Tryd.underlying9
      exact this
    · injection h1 with e1 e2 e3
      subst e1
      have := run_convert_bytes_arg (P := Tryd.prog) w 74 5 Tryd.underlying74 Tryd.underlying5 g 0 0 c [] rfl (fun i hi => absurd hi (by omega)) 9 Tryd.underlying9
      exact this
  · obtain ⟨a', c', e, -, ro⟩ := h.shape
    injection e with e1 e2 e3
    subst e1
    obtain ⟨g, e4, -⟩ := ro 0 (by omega)
    subst e4
    have := run_convert_bytes_arg (P := Tryd.prog) w 74 5 Tryd.underlying74 Tryd.underlying5 g 0 l.length c (l.map (fun x : Nat => (x : Int))) (by simp) (fun i hi => by
      obtain ⟨g', e, hc⟩ := ro i hi
      simp only [Option.some.injEq, Addr.mk.injEq, and_true] at e
      rw [e, Nat.zero_add, hc]; simp [List.getD, hi]) 9 Tryd.underlying9
    rw [this]
    simp [strOfNums, S8]
theorem hi_lt (l : List Nat) : hiI l < 64 * (l.length : Int) ∨ hiI l = -1 := by
  unfold hiI
  by_cases h : (allB l).length = 0
  · rw [if_pos h]; exact .inr rfl
  · rw [if_neg h]
    have := allB_getD (l := l) (k := (allB l).length - 1) (by omega)
    left; omega
set_option maxRecDepth 100000 in
set_option maxHeartbeats 400000 in
theorem rPrint_ok (a : Option Addr) (c n : Nat) (l : List Nat) (w : World) (hn : n ≤ 1048576) (hl : l.length = (n + 63) / 64) (hr : Rd w a l) (hw : W64 l) (hb : ¬ (n : Int) ≤ hiI l) :
    Calls Tryd.prog 49 #[.slice a l.length c, .int .i64 (n : Nat)] w fun e w' => e = .returned (.tuple #[.string (S8 (dg l n)), .int .i64 0]) ∧ Keep w w' := by
  have hH := rHighest_any a c l w (by omega) hr hw
  have hA := fun wx (i : Nat) (h : Rd wx a l) (hi : i ≤ 1048576) => rHas_any a c l (i : Int) wx (by omega) (by omega) h hw
  obtain ⟨L, hL⟩ : ∃ L, l.length = L := ⟨_, rfl⟩
  have h1 : ((n : Int) + 63) / 64 = (L : Int) := by omega
  rw [hL] at hH hA ⊢
  clear hL hl
  generalize hiI l = H at *
  have hbig : ¬ (1048576 : Int) < (n : Int) := by omega
  go_enter Tryd.func49, Tryd.ntmps49
  go_wp2_with (go_at_call 36; refine hH.mono ?_; rintro e w1 ⟨rfl, k1⟩)
  clear hH
  go_loopw [6, 7] (fun v i wr => ∃ k : Nat, k ≤ n ∧ i = .int .i64 k ∧ Own8 w.heap.size wr v (dg l k) ∧ Keep w wr) (fun _ i _ => n - (intOf i).toNat)
  case atStart => exact ⟨0, by omega, rfl, Own8.nil _ _, k1⟩
  case round =>
    clear k1
    obtain ⟨k, hkk, rfl, hown, hkp⟩ := hrel
    have Hlen : Hid ((dg l k).length = k) := dg_length l k
    obtain ⟨av, cv, rfl, hcv, -⟩ := hown.shape
    by_cases hkl : k < n
    · have hH := hA wr k (hr.keep hkp) (by omega)
      rw [show hasI l (k : Int) = hs l k by unfold hasI; simp] at hH
      have Hd : Hid (dg l (k + 1) = dg l k ++ [if hs l k then 49 else 48]) := dg_succ l k
      have hbd : (dg l k).length < 17592186044416 := by rw [Hlen.out]; omega
      cases hb' : hs l k
      · rw [hb'] at hH Hd
        clear hb'
        generalize dg l k = z at *
        go_wp2_with first
          | (go_at_call 32; refine hH.mono ?_; rintro e w3 ⟨rfl, rfl⟩)
          | (at_builtin; refine wpList_app8 rfl _ _ rfl z _ rfl _ 48 rfl rfl hown hkp hbd ?_; intro v' w4 hown' hk')
        obtain ⟨av', cv', rfl, hcv', -⟩ := hown'.shape
        go_roundw
        case rel => exact ⟨k + 1, by omega, by go_num, by rw [Hd.out]; exact hown', hk'⟩
        case measure => simp [intOf]; omega
      · rw [hb'] at hH Hd
        clear hb'
        generalize dg l k = z at *
        go_wp2_with first
          | (go_at_call 32; refine hH.mono ?_; rintro e w3 ⟨rfl, rfl⟩)
          | (at_builtin; refine wpList_app8 rfl _ _ rfl z _ rfl _ 49 rfl rfl hown hkp hbd ?_; intro v' w4 hown' hk')
        obtain ⟨av', cv', rfl, hcv', -⟩ := hown'.shape
        go_roundw
        case rel => exact ⟨k + 1, by omega, by go_num, by rw [Hd.out]; exact hown', hk'⟩
        case measure => simp [intOf]; omega
    · obtain rfl : k = n := by omega
      have hcv2 := conv8o hown
      go_wp2_with fail
      go_ret2
      exact ⟨rfl, hkp⟩
theorem rPrint_any (a : Option Addr) (c : Nat) (l : List Nat) (n : Int) (w : World) (hl : l.length ≤ 17592186044416) (hnb : n ≤ 9223372036854775807) (hr : Rd w a l) (hw : W64 l) :
    Calls Tryd.prog 49 #[.slice a l.length c, .int .i64 n] w fun e w' => e = .returned (.tuple #[.string (prS l n), .int .i64 (prE l n)]) ∧ Keep w w' := by
  by_cases h : n < 0 ∨ 1048576 < n
  · rw [(pr_far h).1, (pr_far h).2]
    by_cases h1 : n < 0
    · go_enter Tryd.func49, Tryd.ntmps49
      go_wp2_with fail
      go_ret2
      exact ⟨rfl, Keep.refl _⟩
    · have h2 : 1048576 < n := by omega
      clear h
      go_enter Tryd.func49, Tryd.ntmps49
      go_wp2_with fail
      go_ret2
      exact ⟨rfl, Keep.refl _⟩
  · by_cases h2 : (l.length : Int) = (n + 63) / 64
    · obtain ⟨m, rfl⟩ := Int.eq_ofNat_of_zero_le (show 0 ≤ n by omega)
      by_cases h3 : (m : Int) ≤ hiI l
      · rw [(pr_bits h h2 h3).1, (pr_bits h h2 h3).2]
        have hH := rHighest_any a c l w (by omega) hr hw
        generalize hiI l = H at *
        have hbig : ¬ (1048576 : Int) < (m : Int) := by omega
        have hq : ((m : Int) + 63) / 64 = (l.length : Int) := h2.symm
        clear h h2
        go_enter Tryd.func49, Tryd.ntmps49
        go_wp2_with (go_at_call 36; refine hH.mono ?_; rintro e w1 ⟨rfl, k1⟩)
        go_ret2
        exact ⟨rfl, k1⟩
      · rw [(pr_ok h h2 h3).1, (pr_ok h h2 h3).2, Int.toNat_natCast]
        exact rPrint_ok a c m l w (by omega) (by omega) hr hw h3
    · rw [(pr_size h h2).1, (pr_size h h2).2]
      obtain ⟨m, rfl⟩ := Int.eq_ofNat_of_zero_le (show 0 ≤ n by omega)
      have hne : ((l.length : Int) != ((m : Int) + 63) / 64) = true := by rw [bne_iff_ne]; exact h2
      have hbig : ¬ (1048576 : Int) < (m : Int) := by omega
      have h0 : ¬ (m : Int) < 0 := by omega
      clear h
      go_enter Tryd.func49, Tryd.ntmps49
      go_wp2_with fail
      go_ret2
      exact ⟨rfl, Keep.refl _⟩
end Go.Proofs.YtgmnadlmejkkpaaDoor
