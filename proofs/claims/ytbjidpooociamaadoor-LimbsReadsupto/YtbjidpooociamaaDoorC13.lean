import Derived.Test.YtbjidpooociamaaDoorC12
namespace Go.Proofs.YtbjidpooociamaaDoor
open Go.RowKit Lb
/-- Bytes as cells. -/
def V8 (l : List Nat) : List Value := l.map (fun x => Value.int .u8 (x : Nat))
def Row8 (w : World) (g : Nat) (l : List Nat) : Prop := w.heap[g]? = some (.cells (V8 l).toArray 5 (0, 0))
/-- Of what was there only block g has turned. -/
structure Gr (g : Nat) (w w' : World) : Prop where
  os : w'.os = w.os
  tape : w'.tape = w.tape
  output : w'.output = w.output
  size : w.heap.size ≤ w'.heap.size
  block : ∀ k, k < w.heap.size → k ≠ g → w'.heap[k]? = w.heap[k]?
theorem Gr.refl (g : Nat) (w : World) : Gr g w w := ⟨rfl, rfl, rfl, Nat.le_refl _, fun _ _ _ => rfl⟩
theorem Gr.trans {g : Nat} {a b c : World} (h : Gr g a b) (k : Gr g b c) : Gr g a c :=
  ⟨k.os.trans h.os, k.tape.trans h.tape, k.output.trans h.output, Nat.le_trans h.size k.size, fun i hi hg => (k.block i (Nat.lt_of_lt_of_le hi h.size) hg).trans (h.block i hi hg)⟩
theorem Keep.gr {w w' : World} (h : Keep w w') (g : Nat) : Gr g w w' := ⟨h.os, h.tape, h.output, h.size, fun k hk _ => h.block k hk⟩
theorem Mut.gr {w w' : World} {g : Nat} (h : Mut g w w') : Gr g w w' := ⟨h.os, h.tape, h.output, by rw [h.size]; exact Nat.le_refl _, fun k _ hg => h.block k hg⟩
theorem Gr.mut_new {g g' : Nat} {a b c : World} (h : Gr g a b) (k : Mut g' b c) (hg : a.heap.size ≤ g') : Gr g a c :=
  ⟨k.os.trans h.os, k.tape.trans h.tape, k.output.trans h.output, by rw [k.size]; exact h.size, fun i hi hne => (k.block i (by omega)).trans (h.block i hi hne)⟩
theorem Gr.keep {g : Nat} {a b c : World} (h : Gr g a b) (k : Keep b c) : Gr g a c := h.trans (k.gr g)
theorem Gr.drewN {g : Nat} {a b : World} (h : Gr g a b) (q : Nat) : Gr g a (b.drewN q) := ⟨h.os, h.tape, h.output, h.size, h.block⟩
theorem Row8.lt {w : World} {g : Nat} {l : List Nat} (h : Row8 w g l) : g < w.heap.size := (Array.getElem?_eq_some_iff.1 h).1
theorem V8_get (l : List Nat) (j : Nat) (h : j < l.length) : (V8 l)[j]? = some (.int .u8 (l.getD j 0 : Nat)) := by simp [V8, List.getD, h]
theorem Row8.cell {w : World} {g : Nat} {l : List Nat} (h : Row8 w g l) (j : Nat) (hj : j < l.length) : w.cell? ⟨g, j, none⟩ = some (.int .u8 (l.getD j 0 : Nat)) := by
  rw [cell_of_row w g j _ 5 (0, 0) h]; simpa using V8_get l j hj
theorem Row8.frozen {w : World} {g : Nat} {l : List Nat} (h : Row8 w g l) (j : Nat) : w.frozen? ⟨g, j, none⟩ = false := frozen_of_row w g j _ 5 h
theorem Row8.set {w : World} {g : Nat} {l : List Nat} (h : Row8 w g l) (j x : Nat) : Row8 (w.setCell ⟨g, j, none⟩ (.int .u8 (x : Nat))) g (l.set j x) := by
  have := heap_setCell_same w g j _ 5 (.int .u8 (x : Nat)) h
  unfold Row8
  rw [this]
  simp [V8, List.map_set]
theorem Row8.keep {w w' : World} {g : Nat} {l : List Nat} (h : Row8 w g l) (k : Keep w w') : Row8 w' g l := by
  unfold Row8; rw [k.block g h.lt]; exact h
theorem Row8.mut {w w' : World} {g g' : Nat} {l : List Nat} (h : Row8 w g l) (k : Mut g' w w') (hne : g ≠ g') : Row8 w' g l := by
  unfold Row8; rw [k.block g hne]; exact h
theorem Row.gr {w w' : World} {g g' : Nat} {l : List Nat} (h : Row w g l) (k : Gr g' w w') (hne : g ≠ g') : Row w' g l := by
  unfold Row; rw [k.block g h.lt hne]; exact h

/-- A number's last k decimal digits, noughts ahead, as bytes. -/
def dw : Nat → Nat → List Nat
  | 0, _ => []
  | k + 1, n => dw k (n / 10) ++ [48 + n % 10]
theorem dw_length : ∀ (k n : Nat), (dw k n).length = k
  | 0, _ => rfl
  | k + 1, n => by simp [dw, dw_length k]
theorem dw_cons : ∀ (k n : Nat), dw (k + 1) n = (48 + n / 10 ^ k % 10) :: dw k n
  | 0, n => by simp [dw]
  | k + 1, n => by
    rw [dw, dw_cons k (n / 10), Nat.div_div_eq_div_mul, List.cons_append, Nat.pow_succ, Nat.mul_comm 10]
    rfl
/-- A chunk of up to nine digits is left: how many. -/
def tl (k : Nat) : Nat := (9 - k % 9) % 9
theorem tl_0 (k : Nat) (h : k % 9 = 0) : tl k = 0 := by unfold tl; omega
theorem tl_1 (k : Nat) (h : k % 9 = 0) : tl (k + 1) = 8 := by unfold tl; omega
theorem tl_s (k : Nat) (h : k % 9 ≠ 0) : tl k = tl (k + 1) + 1 := by unfold tl; omega
theorem chunk_step (t C A M : Nat) (h : C + 10 ^ (t + 1) * A = M) : M % 10 = C % 10 ∧ C / 10 + 10 ^ t * A = M / 10 := by
  rw [Nat.pow_succ, Nat.mul_right_comm] at h
  generalize 10 ^ t * A = Z at *
  omega
theorem set_mid' (r q : List Nat) (m y : Nat) (h : m < r.length) : (r.take (m + 1) ++ q).set m y = r.take m ++ (y :: q) := set_mid r q m y h

set_option maxRecDepth 100000 in
set_option maxHeartbeats 800000 in
theorem splitChunks_any (g o n c : Nat) (a : Option Addr) (ca : Nat) (old l : List Nat) (w : World) (hon : o + n ≤ old.length) (hol : old.length ≤ 140737488355328) (hrow : Row8 w g old) (hl : l.length ≤ 70368744177664) (hr : Rd w a l) (hm : Lim l) :
    Calls Tryd.prog 93 #[.slice (some ⟨g, o, none⟩) n c, .slice a l.length ca] w fun e w' => e = .returned (.tuple #[]) ∧ Row8 w' g (old.take o ++ (dw n (val l) ++ old.drop (o + n))) ∧ Gr g w w' := by
  have hf := fresh_any a ca l w hl hr
  go_enter Tryd.func93, Tryd.ntmps93
  go_wp2_with fail
  refine hf.mono ?_
  rintro e w1 ⟨rfl, hr1, hk1, hs1⟩
  have hgs : g < w.heap.size := hrow.lt
  go_wp2
  go_loopw [1, 4, 10] (fun va ch i wr => ∃ (k C na : Nat) (ra : List Nat), k ≤ n ∧ i = .int .i64 k ∧ ch = .int .u32 C ∧ va = .slice (some ⟨w.heap.size, 0, none⟩) na l.length ∧ Row wr w.heap.size ra ∧ Hid (ra.length = l.length) ∧ na ≤ l.length ∧ Lim ra ∧ C < 1000000000 ∧ Hid (C < 10 ^ tl k) ∧ Hid (C + 10 ^ tl k * val (ra.take na) = val l / 10 ^ k) ∧ Row8 wr g (old.take (o + (n - k)) ++ (dw k (val l) ++ old.drop (o + n))) ∧ Gr g w wr) (fun _ _ i _ => n - (intOf i).toNat)
  case atStart => exact ⟨0, 0, l.length, l, by omega, rfl, rfl, rfl, hr1, rfl, Nat.le_refl _, hm, by omega, by show _ < _; simp [tl], by show _ = _; simp [tl], by simpa [dw] using hrow.keep hk1, hk1.gr g⟩
  case round =>
    obtain ⟨k, C, na, ra, hk, rfl, rfl, rfl, hra, hral, hna, hmra, hC, hCt, hv, hr8, hgr⟩ := hrel
    by_cases hkn : k < n
    · obtain ⟨m, hm1⟩ : ∃ m, n - k = m + 1 := ⟨n - k - 1, by omega⟩
      rw [hm1, ← Nat.add_assoc] at hr8
      have hidx : (n : Int) - 1 - (k : Int) = (m : Int) := by omega
      have hml : m < n := by omega
      have hm2 : Hid (n - (k + 1) = m) := by show _ = _; omega
      have hset := fun y => set_mid old (dw k (val l) ++ old.drop (o + n)) (o + m) y (by omega)
      have hlen8 : o + m < (old.take (o + m + 1) ++ (dw k (val l) ++ old.drop (o + n))).length := by simp; omega
      have HS : Hid (∀ y, (old.take (o + m + 1) ++ (dw k (val l) ++ old.drop (o + n))).set (o + m) y = old.take (o + m) ++ (y :: (dw k (val l) ++ old.drop (o + n)))) := hset
      clear hset hm1
      by_cases h9 : k % 9 = 0
      · have hb : ((k : Int) % 9 == 0) = true := by simp; omega
        have hD := divideSmall_any w.heap.size l.length na 1000000000 ra wr (by rw [hral.out]; omega) (by rw [hral.out]; omega) hra hmra (by omega) (by omega)
        go_wp2_with fail
        refine hD.mono ?_
        rintro e w2 ⟨rfl, q, hrq, hql, hmq, hvq, hmu⟩
        clear hD
        have hr82 := hr8.mut hmu (by omega)
        have hgr2 := hgr.mut_new hmu (Nat.le_refl _)
        obtain ⟨C', hC'⟩ : ∃ C', val (ra.take na) % 1000000000 = C' := ⟨_, rfl⟩
        rw [hC']
        have hC2 : C' < 1000000000 := hC' ▸ Nat.mod_lt _ (by omega)
        have HC' : Hid (val (ra.take na) % 1000000000 = C') := hC'
        clear hC'
        have hT := trim_any (some ⟨w.heap.size, 0, none⟩) l.length q w2 (by omega) (by omega) (by have := hrq.rd 0 na (by simp [hql]); simpa [hql] using this)
        rw [hql] at hT
        have Hql : Hid (q.length = na) := hql
        have Hvq : Hid (val q = val (ra.take na) / 1000000000) := hvq
        have hnl := nl_le q
        rw [hql] at hnl
        clear hql hvq
        go_wp2_with fail
        refine hT.mono ?_
        rintro e w3 ⟨rfl, rfl⟩
        have hc := hr82.cell (o + m) hlen8
        have hfz := hr82.frozen (o + m)
        clear hT
        go_wp2
        go_roundw
        case rel =>
          have h10 : (C' + 10 ^ (8 + 1) * val q) = val l / 10 ^ k := by
            have h1 := hv.out
            have h2 : C < 10 ^ tl k := hCt
            rw [tl_0 k h9] at h1 h2
            rw [← h1, Hvq.out, ← HC'.out]
            have h3 := Nat.mod_add_div (val (ra.take na)) 1000000000
            simp only [Nat.pow_zero] at h2 ⊢
            rw [show (10 : Nat) ^ (8 + 1) = 1000000000 from rfl]
            omega
          have hst := chunk_step 8 C' (val q) _ h10
          refine ⟨k + 1, C' / 10, nl q, q ++ ra.drop na, by omega, by go_num, by simp, rfl, hrq.mut ((Mut.refl _ _).setCell _ _) (by omega), ?_, by omega, ?_, by omega, by show _ < _; rw [tl_1 k h9]; omega, ?_, ?_, hgr2.trans ((Mut.refl _ _).setCell _ _).gr⟩
          · show _ = _
            have := hral.out
            have := Hql.out
            simp; omega
          · intro y hy
            rcases List.mem_append.1 hy with hy | hy
            · exact hmq y hy
            · exact hmra y (List.mem_of_mem_drop hy)
          · show _ = _
            rw [tl_1 k h9, List.take_append_of_le_length (nl_le q), val_take_nl, show val l / 10 ^ (k + 1) = val l / 10 ^ k / 10 from by rw [Nat.pow_succ, Nat.div_div_eq_div_mul]]
            exact hst.2
          · rw [hm2.out, dw_cons]
            have h1 := hr82.set (o + m) (48 + C' % 10)
            rw [HS.out] at h1
            rw [hst.1]
            simpa using h1
        case measure => simp [intOf]; omega
      · have hb : ((k : Int) % 9 == 0) = false := by simp; omega
        have hc := hr8.cell (o + m) hlen8
        have hfz := hr8.frozen (o + m)
        go_wp2
        go_roundw
        case rel =>
          have hst := chunk_step (tl (k + 1)) C (val (ra.take na)) (val l / 10 ^ k) (by rw [← tl_s k h9]; exact hv.out)
          refine ⟨k + 1, C / 10, na, ra, by omega, by go_num, by simp, rfl, hra.mut ((Mut.refl _ _).setCell _ _) (by omega), hral, hna, hmra, by omega, ?_, ?_, ?_, hgr.trans ((Mut.refl _ _).setCell _ _).gr⟩
          · show _ < _
            have h2 : C < 10 ^ tl k := hCt
            rw [tl_s k h9, Nat.pow_succ] at h2
            omega
          · show _ = _
            rw [show val l / 10 ^ (k + 1) = val l / 10 ^ k / 10 from by rw [Nat.pow_succ, Nat.div_div_eq_div_mul]]
            exact hst.2
          · rw [hm2.out, dw_cons]
            have h1 := hr8.set (o + m) (48 + C % 10)
            rw [HS.out] at h1
            rw [hst.1]
            simpa using h1
        case measure => simp [intOf]; omega
    · go_wp2
      go_end0
      have hkk : k = n := by omega
      subst hkk
      exact ⟨rfl, by simpa using hr8, hgr⟩
end Go.Proofs.YtbjidpooociamaaDoor
