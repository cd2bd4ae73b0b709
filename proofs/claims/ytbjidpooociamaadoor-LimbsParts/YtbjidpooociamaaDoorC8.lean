import Derived.Test.YtbjidpooociamaaDoorC7
namespace Go.Proofs.YtbjidpooociamaaDoor
open Go.RowKit Lb
/-- A natural without needless limbs, in memory of the call's own. -/
def NatR (B : Nat) (w : World) (v : Value) (n : Nat) : Prop := ∃ l, Res B w v l ∧ Lim l ∧ Nrm l ∧ val l = n
/-- Limbs that came in or were made: the shape of an argument. -/
structure Arg (w : World) (v : Value) (l : List Nat) : Prop where
  sh : ∃ a c, v = .slice a l.length c ∧ l.length ≤ c ∧ c ≤ 35184372087808 ∧ Rd w a l
  lim : Lim l

theorem Lim_snoc {l : List Nat} (h : Lim l) (x : Nat) (hx : x < 4294967296) : Lim (l ++ [x]) := by
  intro y hy
  simp at hy
  rcases hy with hy | hy
  · exact h y hy
  · omega
theorem sum_room (x y : List Nat) (hx : Lim x) (hy : Lim y) (h : y.length ≤ x.length) : val (x ++ [0]) + 4294967296 ^ 0 * val y < 4294967296 ^ (x ++ [0]).length := by
  have h1 := val_lt hx
  have h2 := val_lt hy
  have h3 : 4294967296 ^ y.length ≤ 4294967296 ^ x.length := Nat.pow_le_pow_right (by omega) h
  rw [val_append, List.length_append, Nat.pow_add]
  simp [val]
  omega
set_option maxRecDepth 100000 in
set_option maxHeartbeats 400000 in
theorem sum_any (a b : Option Addr) (ca cb : Nat) (la lb : List Nat) (w : World) (hla : la.length ≤ 70368744177663) (hlb : lb.length ≤ 70368744177663) (hra : Rd w a la) (hrb : Rd w b lb) (hma : Lim la) (hmb : Lim lb) :
    Calls Tryd.prog 78 #[.slice a la.length ca, .slice b lb.length cb] w fun e w' => ∃ v, e = .returned v ∧ NatR w.heap.size w' v (val la + val lb) ∧ Keep w w' := by
  by_cases hlt : la.length < lb.length
  · have hge : decide (la.length < lb.length) = true := by simp; omega
    have hlen : (lb ++ [0]).length = lb.length + 1 := by simp
    have hroom : val (lb ++ [0]) + 4294967296 ^ 0 * val la < 4294967296 ^ (lb ++ [0]).length := sum_room lb la hmb hma (by omega)
    have hmz : Lim (lb ++ [0]) := Lim_snoc hmb 0 (by omega)
    have hsz : lb.length + 1 ≤ 70368744177664 := by omega
    have hdl : lb.length ≤ lb.length + 1 := by omega
    go_enter Tryd.func78, Tryd.ntmps78
    go_wp2_with (first | (at_make; refine wpList_make32 _ rfl _ _ rfl _ _ _ _ (lb.length + 1) rfl rfl ?_ ?_ hsz ?_; rotate_left; rotate_left; intro w1 hrow hk hsz1) | (with_reducible show wpList _ _ _ (Oper.mk _ (Op.call { callee := Callee.builtin Builtin.copy, args := _, argTypes := _ }) _ _ _ _ :: _) _ _; refine wpList_copy32 rfl _ _ rfl _ _ _ _ _ lb rfl rfl w.heap.size 0 _ hrow hdl (fun _ => rfl) (hrb.keep hk) ?_ ?_; rotate_left; intro w2 hrow2 hm2))
    have hrow3 : Row w2 w.heap.size (lb ++ [0]) := by
      rw [show List.replicate (lb.length + 1) 0 = List.replicate lb.length 0 ++ [0] from by rw [List.replicate_succ']] at hrow2
      simpa using hrow2
    have hk2 : Keep w w2 := hk.mut hm2 (Nat.le_refl _)
    have hA := addAt_any w.heap.size _ ca 0 (lb ++ [0]) la w2 (by rw [hlen]; exact hsz) hrow3 (hra.keep hk2) (Off.of_lt hra (Nat.le_refl _)) hmz hma (by rw [hlen]; omega) hroom
    rw [hlen] at hA
    refine hA.mono ?_
    rintro e w3 ⟨rfl, r', hr', hl', hm', hv', hmu'⟩
    go_wp2_with fail
    have hT := trim_any (some ⟨w.heap.size, 0, none⟩) r'.length r' w3 (Nat.le_refl _) (by rw [hl']; omega) (by have := hr'.rd 0 r'.length (by omega); simpa using this)
    rw [hl'] at hT
    refine hT.mono ?_
    rintro e w4 ⟨rfl, rfl⟩
    go_wp2
    go_ret
    refine ⟨_, rfl, ⟨r'.take (nl r'), ?_, Lim_take hm' _, Nrm_take _, ?_⟩, hk2.mut hmu' (Nat.le_refl _)⟩
    · have : Res w.heap.size w4 (.slice (some ⟨w.heap.size, 0, none⟩) r'.length r'.length) r' := .inr ⟨_, r', rfl, Nat.le_refl _, hr', Nat.le_refl _, List.take_of_length_le (Nat.le_refl _)⟩
      have := this.cut (nl_le r')
      rw [hl'] at this
      exact this
    · rw [val_take_nl, hv', val_append]; simp [val]; omega
    all_goals simp
  · have hge : decide (la.length < lb.length) = false := by simp; omega
    have hlen : (la ++ [0]).length = la.length + 1 := by simp
    have hroom : val (la ++ [0]) + 4294967296 ^ 0 * val lb < 4294967296 ^ (la ++ [0]).length := sum_room la lb hma hmb (by omega)
    have hmz : Lim (la ++ [0]) := Lim_snoc hma 0 (by omega)
    have hsz : la.length + 1 ≤ 70368744177664 := by omega
    have hdl : la.length ≤ la.length + 1 := by omega
    go_enter Tryd.func78, Tryd.ntmps78
    go_wp2_with (first | (at_make; refine wpList_make32 _ rfl _ _ rfl _ _ _ _ (la.length + 1) rfl rfl ?_ ?_ hsz ?_; rotate_left; rotate_left; intro w1 hrow hk hsz1) | (with_reducible show wpList _ _ _ (Oper.mk _ (Op.call { callee := Callee.builtin Builtin.copy, args := _, argTypes := _ }) _ _ _ _ :: _) _ _; refine wpList_copy32 rfl _ _ rfl _ _ _ _ _ la rfl rfl w.heap.size 0 _ hrow hdl (fun _ => rfl) (hra.keep hk) ?_ ?_; rotate_left; intro w2 hrow2 hm2))
    have hrow3 : Row w2 w.heap.size (la ++ [0]) := by
      rw [show List.replicate (la.length + 1) 0 = List.replicate la.length 0 ++ [0] from by rw [List.replicate_succ']] at hrow2
      simpa using hrow2
    have hk2 : Keep w w2 := hk.mut hm2 (Nat.le_refl _)
    have hA := addAt_any w.heap.size _ cb 0 (la ++ [0]) lb w2 (by rw [hlen]; exact hsz) hrow3 (hrb.keep hk2) (Off.of_lt hrb (Nat.le_refl _)) hmz hmb (by rw [hlen]; omega) hroom
    rw [hlen] at hA
    refine hA.mono ?_
    rintro e w3 ⟨rfl, r', hr', hl', hm', hv', hmu'⟩
    go_wp2_with fail
    have hT := trim_any (some ⟨w.heap.size, 0, none⟩) r'.length r' w3 (Nat.le_refl _) (by rw [hl']; omega) (by have := hr'.rd 0 r'.length (by omega); simpa using this)
    rw [hl'] at hT
    refine hT.mono ?_
    rintro e w4 ⟨rfl, rfl⟩
    go_wp2
    go_ret
    refine ⟨_, rfl, ⟨r'.take (nl r'), ?_, Lim_take hm' _, Nrm_take _, ?_⟩, hk2.mut hmu' (Nat.le_refl _)⟩
    · have : Res w.heap.size w4 (.slice (some ⟨w.heap.size, 0, none⟩) r'.length r'.length) r' := .inr ⟨_, r', rfl, Nat.le_refl _, hr', Nat.le_refl _, List.take_of_length_le (Nat.le_refl _)⟩
      have := this.cut (nl_le r')
      rw [hl'] at this
      exact this
    · rw [val_take_nl, hv', val_append]; simp [val]
    all_goals simp

end Go.Proofs.YtbjidpooociamaaDoor
