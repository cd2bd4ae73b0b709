import Derived.Test.YtbjidpooociamaaDoorC12
import Derived.Laws.BytesArg
import Derived.Lib.OthersKept
set_option linter.unusedVariables false
set_option linter.unusedSimpArgs false
namespace Go.Proofs.YtbjidpooociamaaDoor
open Go.RowKit Lb
/-- Bytes as cells. -/
def V8 (l : List Nat) : List Value := l.map (fun x => Value.int .u8 (x : Nat))
def Row8 (w : World) (g : Nat) (l : List Nat) : Prop := w.heap[g]? = some (.cells (V8 l).toArray 5 (0, 0))
/-- Of what was there only block g has turned. -/
structure Gr (g : Nat) (w w' : World) : Prop where
  os : w'.os = w.os
  tape : w'.tape = w.tape
  output : w'.output = w.output
  size : w.heap.size ≤ w'.heap.size
  block : ∀ k, k < w.heap.size → k ≠ g → w'.heap[k]? = w.heap[k]?
theorem Gr.refl (g : Nat) (w : World) : Gr g w w := ⟨rfl, rfl, rfl, Nat.le_refl _, fun _ _ _ => rfl⟩
theorem Gr.trans {g : Nat} {a b c : World} (h : Gr g a b) (k : Gr g b c) : Gr g a c :=
  ⟨k.os.trans h.os, k.tape.trans h.tape, k.output.trans h.output, Nat.le_trans h.size k.size, fun i hi hg => (k.block i (Nat.lt_of_lt_of_le hi h.size) hg).trans (h.block i hi hg)⟩
theorem Keep.gr {w w' : World} (h : Keep w w') (g : Nat) : Gr g w w' := ⟨h.os, h.tape, h.output, h.size, fun k hk _ => h.block k hk⟩
theorem Mut.gr {w w' : World} {g : Nat} (h : Mut g w w') : Gr g w w' := ⟨h.os, h.tape, h.output, by rw [h.size]; exact Nat.le_refl _, fun k _ hg => h.block k hg⟩
theorem Gr.mut_new {g g' : Nat} {a b c : World} (h : Gr g a b) (k : Mut g' b c) (hg : a.heap.size ≤ g') : Gr g a c :=
  ⟨k.os.trans h.os, k.tape.trans h.tape, k.output.trans h.output, by rw [k.size]; exact h.size, fun i hi hne => (k.block i (by omega)).trans (h.block i hi hne)⟩
theorem Gr.keep {g : Nat} {a b c : World} (h : Gr g a b) (k : Keep b c) : Gr g a c := h.trans (k.gr g)
theorem Gr.drewN {g : Nat} {a b : World} (h : Gr g a b) (q : Nat) : Gr g a (b.drewN q) := ⟨h.os, h.tape, h.output, h.size, h.block⟩
theorem Row8.lt {w : World} {g : Nat} {l : List Nat} (h : Row8 w g l) : g < w.heap.size := (Array.getElem?_eq_some_iff.1 h).1
theorem V8_get (l : List Nat) (j : Nat) (h : j < l.length) : (V8 l)[j]? = some (.int .u8 (l.getD j 0 : Nat)) := by simp [V8, List.getD, h]
theorem Row8.cell {w : World} {g : Nat} {l : List Nat} (h : Row8 w g l) (j : Nat) (hj : j < l.length) : w.cell? ⟨g, j, none⟩ = some (.int .u8 (l.getD j 0 : Nat)) := by
  rw [cell_of_row w g j _ 5 (0, 0) h]; simpa using V8_get l j hj
theorem Row8.frozen {w : World} {g : Nat} {l : List Nat} (h : Row8 w g l) (j : Nat) : w.frozen? ⟨g, j, none⟩ = false := frozen_of_row w g j _ 5 h
theorem Row8.set {w : World} {g : Nat} {l : List Nat} (h : Row8 w g l) (j x : Nat) : Row8 (w.setCell ⟨g, j, none⟩ (.int .u8 (x : Nat))) g (l.set j x) := by
  have := heap_setCell_same w g j _ 5 (.int .u8 (x : Nat)) h
  unfold Row8
  rw [this]
  simp [V8, List.map_set]
theorem Row8.keep {w w' : World} {g : Nat} {l : List Nat} (h : Row8 w g l) (k : Keep w w') : Row8 w' g l := by
  unfold Row8; rw [k.block g h.lt]; exact h
theorem Row8.mut {w w' : World} {g g' : Nat} {l : List Nat} (h : Row8 w g l) (k : Mut g' w w') (hne : g ≠ g') : Row8 w' g l := by
  unfold Row8; rw [k.block g hne]; exact h
theorem Row.gr {w w' : World} {g g' : Nat} {l : List Nat} (h : Row w g l) (k : Gr g' w w') (hne : g ≠ g') : Row w' g l := by
  unfold Row; rw [k.block g h.lt hne]; exact h

/-- A number's last k decimal digits, noughts ahead, as bytes. -/
def dw : Nat → Nat → List Nat
  | 0, _ => []
  | k + 1, n => dw k (n / 10) ++ [48 + n % 10]
theorem dw_length : ∀ (k n : Nat), (dw k n).length = k
  | 0, _ => rfl
  | k + 1, n => by simp [dw, dw_length k]
theorem dw_cons : ∀ (k n : Nat), dw (k + 1) n = (48 + n / 10 ^ k % 10) :: dw k n
  | 0, n => by simp [dw]
  | k + 1, n => by
    rw [dw, dw_cons k (n / 10), Nat.div_div_eq_div_mul, List.cons_append, Nat.pow_succ, Nat.mul_comm 10]
    rfl
/-- A chunk of up to nine digits is left: how many. -/
def tl (k : Nat) : Nat := (9 - k % 9) % 9
theorem tl_0 (k : Nat) (h : k % 9 = 0) : tl k = 0 := by unfold tl; omega
theorem tl_1 (k : Nat) (h : k % 9 = 0) : tl (k + 1) = 8 := by unfold tl; omega
theorem tl_s (k : Nat) (h : k % 9 ≠ 0) : tl k = tl (k + 1) + 1 := by unfold tl; omega
theorem chunk_step (t C A M : Nat) (h : C + 10 ^ (t + 1) * A = M) : M % 10 = C % 10 ∧ C / 10 + 10 ^ t * A = M / 10 := by
  rw [Nat.pow_succ, Nat.mul_right_comm] at h
  generalize 10 ^ t * A = Z at *
  omega
theorem set_mid' (r q : List Nat) (m y : Nat) (h : m < r.length) : (r.take (m + 1) ++ q).set m y = r.take m ++ (y :: q) := set_mid r q m y h

set_option maxRecDepth 100000 in
set_option maxHeartbeats 800000 in
theorem splitChunks_any (g o n c : Nat) (a : Option Addr) (ca : Nat) (old l : List Nat) (w : World) (hon : o + n ≤ old.length) (hol : old.length ≤ 140737488355328) (hrow : Row8 w g old) (hl : l.length ≤ 70368744177664) (hr : Rd w a l) (hm : Lim l) :
    Calls Tryd.prog 93 #[.slice (some ⟨g, o, none⟩) n c, .slice a l.length ca] w fun e w' => e = .returned (.tuple #[]) ∧ Row8 w' g (old.take o ++ (dw n (val l) ++ old.drop (o + n))) ∧ Gr g w w' := by
  have hf := fresh_any a ca l w hl hr
  go_enter Tryd.func93, Tryd.ntmps93
  go_wp2_with fail
  refine hf.mono ?_
  rintro e w1 ⟨rfl, hr1, hk1, hs1⟩
  have hgs : g < w.heap.size := hrow.lt
  go_wp2
  go_loopw [1, 4, 10] (fun va ch i wr => ∃ (k C na : Nat) (ra : List Nat), k ≤ n ∧ i = .int .i64 k ∧ ch = .int .u32 C ∧ va = .slice (some ⟨w.heap.size, 0, none⟩) na l.length ∧ Row wr w.heap.size ra ∧ Hid (ra.length = l.length) ∧ na ≤ l.length ∧ Lim ra ∧ C < 1000000000 ∧ Hid (C < 10 ^ tl k) ∧ Hid (C + 10 ^ tl k * val (ra.take na) = val l / 10 ^ k) ∧ Row8 wr g (old.take (o + (n - k)) ++ (dw k (val l) ++ old.drop (o + n))) ∧ Gr g w wr) (fun _ _ i _ => n - (intOf i).toNat)
  case atStart => exact ⟨0, 0, l.length, l, by omega, rfl, rfl, rfl, hr1, rfl, Nat.le_refl _, hm, by omega, by show _ < _; simp [tl], by show _ = _; simp [tl], by simpa [dw] using hrow.keep hk1, hk1.gr g⟩
  case round =>
    obtain ⟨k, C, na, ra, hk, rfl, rfl, rfl, hra, hral, hna, hmra, hC, hCt, hv, hr8, hgr⟩ := hrel
    by_cases hkn : k < n
    · obtain ⟨m, hm1⟩ : ∃ m, n - k = m + 1 := ⟨n - k - 1, by omega⟩
      rw [hm1, ← Nat.add_assoc] at hr8
      have hidx : (n : Int) - 1 - (k : Int) = (m : Int) := by omega
      have hml : m < n := by omega
      have hm2 : Hid (n - (k + 1) = m) := by show _ = _; omega
      have hset := fun y => set_mid old (dw k (val l) ++ old.drop (o + n)) (o + m) y (by omega)
      have hlen8 : o + m < (old.take (o + m + 1) ++ (dw k (val l) ++ old.drop (o + n))).length := by simp; omega
      have HS : Hid (∀ y, (old.take (o + m + 1) ++ (dw k (val l) ++ old.drop (o + n))).set (o + m) y = old.take (o + m) ++ (y :: (dw k (val l) ++ old.drop (o + n)))) := hset
      clear hset hm1
      by_cases h9 : k % 9 = 0
      · have hb : ((k : Int) % 9 == 0) = true := by simp; omega
        have hD := divideSmall_any w.heap.size l.length na 1000000000 ra wr (by rw [hral.out]; omega) (by rw [hral.out]; omega) hra hmra (by omega) (by omega)
        go_wp2_with fail
        refine hD.mono ?_
        rintro e w2 ⟨rfl, q, hrq, hql, hmq, hvq, hmu⟩
        clear hD
        have hr82 := hr8.mut hmu (by omega)
        have hgr2 := hgr.mut_new hmu (Nat.le_refl _)
        obtain ⟨C', hC'⟩ : ∃ C', val (ra.take na) % 1000000000 = C' := ⟨_, rfl⟩
        rw [hC']
        have hC2 : C' < 1000000000 := hC' ▸ Nat.mod_lt _ (by omega)
        have HC' : Hid (val (ra.take na) % 1000000000 = C') := hC'
        clear hC'
        have hT := trim_any (some ⟨w.heap.size, 0, none⟩) l.length q w2 (by omega) (by omega) (by have := hrq.rd 0 na (by simp [hql]); simpa [hql] using this)
        rw [hql] at hT
        have Hql : Hid (q.length = na) := hql
        have Hvq : Hid (val q = val (ra.take na) / 1000000000) := hvq
        have hnl := nl_le q
        rw [hql] at hnl
        clear hql hvq
        go_wp2_with fail
        refine hT.mono ?_
        rintro e w3 ⟨rfl, rfl⟩
        have hc := hr82.cell (o + m) hlen8
        have hfz := hr82.frozen (o + m)
        clear hT
        go_wp2
        go_roundw
        case rel =>
          have h10 : (C' + 10 ^ (8 + 1) * val q) = val l / 10 ^ k := by
            have h1 := hv.out
            have h2 : C < 10 ^ tl k := hCt
            rw [tl_0 k h9] at h1 h2
            rw [← h1, Hvq.out, ← HC'.out]
            have h3 := Nat.mod_add_div (val (ra.take na)) 1000000000
            simp only [Nat.pow_zero] at h2 ⊢
            rw [show (10 : Nat) ^ (8 + 1) = 1000000000 from rfl]
            omega
          have hst := chunk_step 8 C' (val q) _ h10
          refine ⟨k + 1, C' / 10, nl q, q ++ ra.drop na, by omega, by go_num, by simp, rfl, hrq.mut ((Mut.refl _ _).setCell _ _) (by omega), ?_, by omega, ?_, by omega, by show _ < _; rw [tl_1 k h9]; omega, ?_, ?_, hgr2.trans ((Mut.refl _ _).setCell _ _).gr⟩
          · show _ = _
            have := hral.out
            have := Hql.out
            simp; omega
          · intro y hy
            rcases List.mem_append.1 hy with hy | hy
            · exact hmq y hy
            · exact hmra y (List.mem_of_mem_drop hy)
          · show _ = _
            rw [tl_1 k h9, List.take_append_of_le_length (nl_le q), val_take_nl, show val l / 10 ^ (k + 1) = val l / 10 ^ k / 10 from by rw [Nat.pow_succ, Nat.div_div_eq_div_mul]]
            exact hst.2
          · rw [hm2.out, dw_cons]
            have h1 := hr82.set (o + m) (48 + C' % 10)
            rw [HS.out] at h1
            rw [hst.1]
            simpa using h1
        case measure => simp [intOf]; omega
      · have hb : ((k : Int) % 9 == 0) = false := by simp; omega
        have hc := hr8.cell (o + m) hlen8
        have hfz := hr8.frozen (o + m)
        go_wp2
        go_roundw
        case rel =>
          have hst := chunk_step (tl (k + 1)) C (val (ra.take na)) (val l / 10 ^ k) (by rw [← tl_s k h9]; exact hv.out)
          refine ⟨k + 1, C / 10, na, ra, by omega, by go_num, by simp, rfl, hra.mut ((Mut.refl _ _).setCell _ _) (by omega), hral, hna, hmra, by omega, ?_, ?_, ?_, hgr.trans ((Mut.refl _ _).setCell _ _).gr⟩
          · show _ < _
            have h2 : C < 10 ^ tl k := hCt
            rw [tl_s k h9, Nat.pow_succ] at h2
            omega
          · show _ = _
            rw [show val l / 10 ^ (k + 1) = val l / 10 ^ k / 10 from by rw [Nat.pow_succ, Nat.div_div_eq_div_mul]]
            exact hst.2
          · rw [hm2.out, dw_cons]
            have h1 := hr8.set (o + m) (48 + C % 10)
            rw [HS.out] at h1
            rw [hst.1]
            simpa using h1
        case measure => simp [intOf]; omega
    · go_wp2
      go_end0
      have hkk : k = n := by omega
      subst hkk
      exact ⟨rfl, by simpa using hr8, hgr⟩
end Go.Proofs.YtbjidpooociamaaDoor
namespace Go.Proofs.YtbjidpooociamaaDoor
open Go.RowKit Lb
/-- Codes as a string. -/
def S8 (l : List Nat) : ByteArray := ⟨(l.map UInt8.ofNat).toArray⟩
theorem S8_size (l : List Nat) : (S8 l).size = l.length := by simp [S8, ByteArray.size]
def cut0 (l : List Nat) : List Nat := l.dropWhile (· == 48)
/-- A natural's decimal digits. -/
def dec (n : Nat) : List Nat := if n = 0 then [48] else cut0 (dw n n)
theorem dw_range : ∀ (k n x : Nat), x ∈ dw k n → 48 ≤ x ∧ x < 58
  | 0, _, x, h => by simp [dw] at h
  | k + 1, n, x, h => by
    rw [dw, List.mem_append] at h
    rcases h with h | h
    · exact dw_range k _ x h
    · simp at h; omega
theorem cut0_step (k n : Nat) (h : n < 10 ^ k) : cut0 (dw (k + 1) n) = cut0 (dw k n) := by
  rw [dw_cons, Nat.div_eq_of_lt h]; rfl
theorem cut0_add (n k : Nat) (h : n < 10 ^ k) : ∀ j, cut0 (dw (k + j) n) = cut0 (dw k n)
  | 0 => rfl
  | j + 1 => by
    rw [← Nat.add_assoc, cut0_step (k + j) n (Nat.lt_of_lt_of_le h (Nat.pow_le_pow_right (by omega) (by omega))), cut0_add n k h j]
theorem lt_pow (n : Nat) : n < 10 ^ n := Nat.lt_pow_self (by omega)
theorem cut0_eq (n k : Nat) (h : n < 10 ^ k) : cut0 (dw k n) = cut0 (dw n n) := by
  rw [← cut0_add n k h n, ← cut0_add n n (lt_pow n) k, Nat.add_comm]
theorem all48 : ∀ (k n : Nat), (∀ x ∈ dw k n, x = 48) → n < 10 ^ k → n = 0
  | 0, n, _, h => by simp at h; omega
  | k + 1, n, h, hn => by
    rw [dw] at h
    have h1 := all48 k (n / 10) (fun x hx => h x (by simp [hx])) (by rw [Nat.pow_succ] at hn; omega)
    have h2 := h (48 + n % 10) (by simp)
    omega
theorem cut0_nil : ∀ (l : List Nat), cut0 l = [] → ∀ x ∈ l, x = 48
  | [], _, x, hx => by simp at hx
  | y :: ys, h, x, hx => by
    unfold cut0 at h
    rw [List.dropWhile_cons] at h
    split at h
    · rename_i h1
      simp at hx
      rcases hx with rfl | hx
      · simpa using h1
      · exact cut0_nil ys h x hx
    · simp at h
theorem cut0_ne (n k : Nat) (hn : 0 < n) (h : n < 10 ^ k) : cut0 (dw k n) ≠ [] := by
  intro h0
  have := all48 k n (cut0_nil _ h0) h
  omega
theorem cut0_zero : ∀ k, cut0 (dw k 0) = []
  | 0 => rfl
  | k + 1 => by rw [dw_cons, Nat.zero_div]; exact cut0_zero k
theorem trimLeft_map (l : List Nat) (h : ∀ x ∈ l, x < 256) : Lib.trimLeftB (l.map UInt8.ofNat) 48 = (cut0 l).map UInt8.ofNat := by
  unfold Lib.trimLeftB cut0
  induction l with
  | nil => rfl
  | cons x xs ih =>
    have hx := h x (by simp)
    have e : (UInt8.ofNat x == 48) = (x == 48) := by
      rw [Bool.eq_iff_iff]
      simp only [beq_iff_eq]
      constructor
      · intro h1
        have := congrArg UInt8.toNat h1
        simp at this
        omega
      · intro h1; subst h1; rfl
    rw [List.map_cons, List.dropWhile_cons, List.dropWhile_cons, e]
    split
    · exact ih (fun y hy => h y (by simp [hy]))
    · rfl

theorem i5 : (Tryd.prog.info? 5).map (fun i => (i.zero, i.size, i.bytes)) = some (some (.int .u8 0), 1, 1) := by kernel_rfl
theorem made8 (n : Nat) : madeCells (Value.int .u8 0).cells n = (V8 (List.replicate n 0)).toArray := by
  have := toList_madeCells_one (.int .u8 0) n
  rw [← Array.toList_inj]
  simp only [V8, List.map_replicate]
  exact this
/-- make([]byte, n). -/
theorem wpList_make8 (w : World) {ops : Array Oper} {rest : List Oper} {o : Oper} {a : Act} {Q : Exit → Act → World → Prop}
    (hg : o.guard = none) (l c : Operand) (hop : o.op = Op.makeSlice 72 l c) (kl kc : IntKind) (L C : Int) (n : Nat) (hl : a.eval l = .int kl L) (hc : a.eval c = .int kc C) (hL : L = (n : Int)) (hC : C = (n : Int)) (hn : n ≤ 281474976710656)
    (hK : ∀ w', Row8 w' w.heap.size (List.replicate n 0) → Keep w w' → w'.heap.size = w.heap.size + 1 → wpList Tryd.prog ops Q rest (a.put o.dst (.slice (some ⟨w.heap.size, 0, none⟩) n n)) w') :
    wpList Tryd.prog ops Q (o :: rest) a w := by
  refine wpList_plain hg fun K hK' => ?_
  obtain ⟨i, hi, hz0, hz1, hz2⟩ := info_parts i5
  have hr := run_make (P := Tryd.prog) w 72 5 i _ Tryd.underlying72 hi hz0 kl kc n n (by omega) (by omega) (by rw [hz2]; omega) (by omega)
  subst hL
  subst hC
  rw [hz1] at hr
  unfold Oper.wp
  simp only [Int.toNat_natCast, Nat.mul_one, made8] at hr
  simp [execOp, hop, hl, hc, hr, Result.andThen]
  exact hK' _ _ (hK _ (heap_alloc_new w _) ((Keep.refl w).alloc _) (by simp))
theorem conv8 (w : World) (g c : Nat) (l : List Nat) (h : Row8 w g l) : (convert 72 9 (.slice (some ⟨g, 0, none⟩) l.length c)).run Tryd.prog w = .ok (.string (S8 l)) w := by
  have := run_convert_bytes_arg (P := Tryd.prog) w 72 5 Tryd.underlying72 Tryd.underlying5 g 0 l.length c (l.map (fun x : Nat => (x : Int))) (by simp) (fun i hi => by
    rw [Nat.zero_add, h.cell i hi]; simp [List.getD, hi]) 9 Tryd.underlying9
  rw [this]
  simp [strOfNums, S8]

set_option maxRecDepth 100000 in
set_option maxHeartbeats 400000 in
theorem powersFor_few (n : Nat) (w : World) (hn : n ≤ 288) :
    Calls Tryd.prog 74 #[.int .i64 (n : Nat)] w fun e w' => e = .returned (.slice none 0 0) ∧ w' = w := by
  go_enter Tryd.func74, Tryd.ntmps74
  go_wp2_with fail
  refine wp_loop_rounds 1 ?_
  rw [rounds_succ]
  go_wp2_with fail
  go_ret
  exact ⟨rfl, rfl⟩
set_option maxRecDepth 100000 in
set_option maxHeartbeats 400000 in
theorem split_none (g o n c : Nat) (a : Option Addr) (ca : Nat) (old l : List Nat) (w : World) (hon : o + n ≤ old.length) (hol : old.length ≤ 140737488355328) (hrow : Row8 w g old) (hl : l.length ≤ 70368744177664) (hr : Rd w a l) (hm : Lim l) :
    Calls Tryd.prog 75 #[.slice (some ⟨g, o, none⟩) n c, .slice a l.length ca, .slice none 0 0] w fun e w' => e = .returned (.tuple #[]) ∧ Row8 w' g (old.take o ++ (dw n (val l) ++ old.drop (o + n))) ∧ Gr g w w' := by
  go_enter Tryd.func75, Tryd.ntmps75
  go_wp2_with fail
  refine (splitChunks_any g o n c a ca old l w hon hol hrow hl hr hm).mono ?_
  rintro e w1 ⟨rfl, h1, h2⟩
  go_wp2_with fail
  refine bodyPost_ret (results_none rfl _ _ _) rfl ?_
  exact ⟨rfl, h1, h2⟩
set_option maxRecDepth 100000 in
set_option maxHeartbeats 800000 in
theorem Print_few (a : Option Addr) (ca : Nat) (l : List Nat) (w : World) (hc : l.length ≤ ca) (hl : l.length ≤ 70368744177664) (hr : Rd w a l) (hm : Lim l) (hd : lenB l ≤ 900) (hdig : val l < 10 ^ (lenB l * 30103 / 100000 + 1)) :
    Calls Tryd.prog 29 #[.slice a l.length ca] w fun e w' => e = .returned (.string (S8 (dec (val l)))) ∧ Keep w w' := by
  have hL := Len_any a ca l w hc hl hr hm
  generalize lenB l = n at hL hd hdig
  obtain ⟨k, hk⟩ : ∃ k, n * 30103 / 100000 + 1 = k := ⟨_, rfl⟩
  rw [hk] at hdig
  have hkl : k ≤ 288 := by omega
  have hke : (n : Int) * 30103 / 100000 + 1 = (k : Int) := by omega
  go_enter Tryd.func29, Tryd.ntmps29
  go_wp2_with fail
  refine hL.mono ?_
  rintro e w1 ⟨rfl, hd1⟩
  go_wp2_with fail
  refine (powersFor_few k w1 hkl).mono ?_
  rintro e w2 ⟨rfl, rfl⟩
  have hbk : k ≤ 281474976710656 := by omega
  go_wp2_with (at_make; refine wpList_make8 _ rfl _ _ rfl _ _ _ _ k rfl rfl rfl rfl hbk ?_; intro w3 hrow hk3 hsz)
  have hk03 := hd1.keep.trans hk3
  refine (trim_any a ca l w3 hc (by omega) (hr.keep hk03)).mono ?_
  rintro e w4 ⟨rfl, rfl⟩
  have l1 := nl_le l
  have e1 : (l.take (nl l)).length = nl l := by simp; omega
  have hS := split_none w2.heap.size 0 k k a ca (List.replicate k 0) (l.take (nl l)) w4 (by simp) (by simp; omega) hrow (by omega) ((hr.keep hk03).take _) (Lim_take hm _)
  rw [e1, val_take_nl] at hS
  go_wp2_with fail
  refine hS.mono ?_
  rintro e w5 ⟨rfl, h8, hg8⟩
  clear hS
  have h8' : Row8 w5 w2.heap.size (dw k (val l)) := by
    have : List.drop (0 + k) (List.replicate k 0) = [] := List.drop_eq_nil_of_le (by simp)
    rw [this] at h8
    simpa using h8
  have hk05 : Keep w w5 := by
    refine hd1.keep.trans ?_
    exact ⟨(hg8.os.trans hk3.os), (hg8.tape.trans hk3.tape), (hg8.output.trans hk3.output), Nat.le_trans hk3.size hg8.size, fun i hi => (hg8.block i (by omega) (by omega)).trans (hk3.block i hi)⟩
  have hcv := conv8 w5 w2.heap.size k _ h8'
  rw [dw_length] at hcv
  clear h8 hg8 hrow hk3
  have hT := Tryd.strings_TrimLeft_one (S8 (dw k (val l))) 48 (by decide) w5
  rw [show (S8 (dw k (val l))).data.toList = (dw k (val l)).map UInt8.ofNat from by simp [S8], trimLeft_map _ (fun x hx => by have := dw_range _ _ x hx; omega)] at hT
  by_cases h0 : val l = 0
  · have e0 : cut0 (dw k (val l)) = [] := by
      rw [h0, cut0_zero]
    have ed : Hid (dec (val l) = [48]) := by show _ = _; unfold dec; rw [if_pos h0]
    rw [e0] at hT
    clear h0 e0
    go_wp2_with fail
    refine hT.mono ?_
    rintro e w6 ⟨rfl, rfl⟩
    go_wp2
    go_ret
    exact ⟨by rw [ed.out]; rfl, hk05⟩
  · have e0 : cut0 (dw k (val l)) ≠ [] := cut0_ne _ _ (by omega) hdig
    have ed : Hid (dec (val l) = cut0 (dw k (val l))) := by show _ = _; unfold dec; rw [if_neg h0, cut0_eq _ k hdig]
    obtain ⟨x, xs, hx⟩ := List.exists_cons_of_ne_nil e0
    rw [hx] at hT
    have Hx : Hid (cut0 (dw k (val l)) = x :: xs) := hx
    clear h0 e0 hx
    go_wp2_with fail
    refine hT.mono ?_
    rintro e w6 ⟨rfl, rfl⟩
    go_wp2
    go_ret
    exact ⟨by rw [ed.out, Hx.out]; simp [S8], hk05⟩
end Go.Proofs.YtbjidpooociamaaDoor
namespace Go.Proofs.YtbjidpooociamaaDoor
open Go.RowKit Lb
theorem set_at (q r : List Nat) (k y : Nat) (hq : q.length = k) (h : k < r.length) : (q ++ r.drop k).set k y = (q ++ [y]) ++ r.drop (k + 1) := by
  rw [List.set_append_right _ _ (by omega), hq, Nat.sub_self, List.drop_eq_getElem_cons h, List.set_cons_zero]
  simp
theorem get_at (q r : List Nat) (k : Nat) (hq : q.length = k) (_h : k < r.length) : (q ++ r.drop k).getD k 0 = r.getD k 0 := by
  simp only [List.getD]
  rw [List.getElem?_append_right (by omega), hq, Nat.sub_self, List.getElem?_drop, Nat.add_zero]
theorem val_snoc (q : List Nat) (y : Nat) : val (q ++ [y]) = val q + 4294967296 ^ q.length * y := by rw [val_append]; simp [val]
/-- out = append(out, x) within its capacity. -/
theorem wpList_appfits32 {wr : World} {ops : Array Oper} {rest : List Oper} {o : Oper} {a : Act} {Q : Exit → Act → World → Prop} (hgd : o.guard = none) (s x : Operand)
    (ho : o.op = .call { callee := .builtin .append, args := #[s, x], argTypes := #[22, 22] }) (g n : Nat) (rk : List Nat) (hs : a.eval s = .slice (some ⟨g, 0, none⟩) n rk.length) (Y : Int) (y : Nat) (hY : Y = (y : Int))
    (hx : a.eval x = .slice (some ⟨wr.heap.size, 0, none⟩) 1 1) (hrow : Row wr g rk) (hn : n < rk.length)
    (hK : ∀ w1, Row w1 g (rk.set n y) → Gr g wr w1 → wpList Tryd.prog ops Q rest (a.put o.dst (.slice (some ⟨g, 0, none⟩) (n + 1) rk.length)) w1) :
    wpList Tryd.prog ops Q (o :: rest) a (wr.alloc (.cells #[.int .u32 Y] 62)) := by
  obtain ⟨i0, hi, hz0, hz1, hz2⟩ := info_parts i62
  subst hY
  refine wpList_plain hgd fun K hK' => ?_
  have hk : Keep wr (wr.alloc (.cells #[.int .u32 (y : Int)] 62)) := (Keep.refl wr).alloc _
  have hrow1 := hrow.keep hk
  have hrun := run_append_room (P := Tryd.prog) (wr.alloc (.cells #[.int .u32 (y : Int)] 62)) 22 o.type 62 i0 Tryd.underlying22 hi g n rk.length _ hrow1 ⟨wr.heap.size, 0, none⟩ 1 1 [.int .u32 (y : Int)] (by simp [hz1]) (by
    intro j u hj
    match j, hj with
    | 0, hj => simp at hj; subst hj; simp [Addr.add]) (by intro u hu; simp at hu; subst hu; rfl) (by omega) (by simp [hz1, U]; omega)
  unfold Oper.wp
  simp [execOp, ho, resolve, invoke, builtin, hs, hx, hrun, Result.andThen]
  refine hK' _ _ (hK _ ?_ ?_)
  · unfold Row
    have eU : U (rk.set n y) = (U rk).take n ++ ([.int .u32 (y : Int)] ++ (U rk).drop (n + 1)) := by
      unfold U
      rw [List.map_set, List.set_eq_take_append_cons_drop, if_pos (by simpa using hn)]
      rfl
    rw [setRow_heap _ g _ _ 62 _ hrow1, eU]
    simp [hz1]
  · exact (hk.gr g).trans (Mut.setRow _ _ _).gr
theorem prodB (y f : Nat) (hy : y < 4294967296) (hf : f < 4294967296) : y * f ≤ 18446744065119617025 := by
  have := Nat.mul_le_mul (show y ≤ 4294967295 by omega) (show f ≤ 4294967295 by omega)
  omega
theorem pushStep (X V A t y f x z c : Nat) (hv : V + t * X = A * f + x) (h : c * 4294967296 + z = t + y * f) : (V + X * z) + c * (X * 4294967296) = (A + y * X) * f + x := by
  have h2 : (c * 4294967296 + z) * X = (t + y * f) * X := by rw [h]
  grind
set_option maxRecDepth 100000 in
set_option maxHeartbeats 400000 in
theorem pushChunk_any (g : Nat) (n f x : Nat) (r : List Nat) (w : World) (hrl : r.length ≤ 70368744177664) (hn : n < r.length) (hrow : Row w g r) (hm : Lim r) (hf : f < 4294967296) (hx : x < 4294967296) :
    Calls Tryd.prog 117 #[.slice (some ⟨g, 0, none⟩) n r.length, .int .u32 (f : Nat), .int .u32 (x : Nat)] w fun e w' => ∃ n' r', e = .returned (.slice (some ⟨g, 0, none⟩) n' r.length) ∧ n ≤ n' ∧ n' ≤ n + 1 ∧ Row w' g r' ∧ r'.length = r.length ∧ Lim r' ∧ val (r'.take n') = val (r.take n) * f + x ∧ Gr g w w' := by
  go_enter Tryd.func117, Tryd.ntmps117
  go_wp2
  go_loopw [7, 13] (fun c i wr => ∃ (k t : Nat) (q : List Nat), k ≤ n ∧ t < 4294967296 ∧ i = .int .i64 k ∧ c = .int .u64 t ∧ Row wr g (q ++ r.drop k) ∧ Hid (q.length = k) ∧ Lim q ∧ Hid (val q + t * 4294967296 ^ k = val (r.take k) * f + x) ∧ Mut g w wr) (fun _ i _ => n - (intOf i).toNat)
  case atStart => exact ⟨0, x, [], by omega, hx, rfl, rfl, by simpa using hrow, rfl, by intro y hy; simp at hy, by show _ = _; simp [val], Mut.refl _ _⟩
  case round =>
    obtain ⟨k, t, q, hk, ht, rfl, rfl, hrk, hql, hmq, hv, hmut⟩ := hrel
    by_cases hkl : k < n
    · have hc := hrk.cell k (by have := hql.out; simp; omega)
      rw [get_at q r k hql.out (by omega)] at hc
      have hfz := hrk.frozen k
      obtain ⟨y, hy⟩ : ∃ y, r.getD k 0 = y := ⟨_, rfl⟩
      have hyl : y < 4294967296 := hy ▸ Lim_getD hm _
      rw [hy] at hc
      have Hy : Hid (r.getD k 0 = y) := hy; clear hy
      have hp := prodB y f hyl hf
      have hpi : (y : Int) * (f : Int) ≤ 18446744065119617025 := by rw [← Int.natCast_mul]; omega
      have hpi0 : 0 ≤ (y : Int) * (f : Int) := by rw [← Int.natCast_mul]; omega
      go_wp2
      go_roundw
      case rel =>
        have hdm := Nat.div_add_mod' (t + y * f) 4294967296
        refine ⟨k + 1, (t + y * f) / 4294967296, q ++ [(t + y * f) % 4294967296], by omega, by omega, by go_num, by simp, ?_, ?_, Lim_snoc hmq _ (by omega), ?_, hmut.setCell _ _⟩
        · have h1 := hrk.set k ((t + y * f) % 4294967296)
          rw [set_at q r k _ hql.out (by omega)] at h1
          simpa using h1
        · show _ = _
          have := hql.out
          simp; omega
        · show _ = _
          rw [val_snoc, hql.out, val_take_succ, Hy.out, Nat.pow_succ]
          exact pushStep _ _ _ _ _ _ _ _ _ hv.out hdm
      case measure => simp [intOf]; omega
    · have hkn : k = n := by omega
      subst hkn
      by_cases ht0 : 0 < t
      · have hlen : (q ++ r.drop k).length = r.length := by have := hql.out; simp; omega
        have hlt : k < (q ++ r.drop k).length := by omega
        rw [← hlen]
        go_wp2_with (at_builtin; refine wpList_appfits32 rfl _ _ rfl g k (q ++ r.drop k) rfl _ t ?_ rfl hrk hlt ?_; rotate_left; intro w1 hrow1 hgr1)
        go_ret
        · refine ⟨k + 1, (q ++ r.drop k).set k t, rfl, by omega, Nat.le_refl _, hrow1, by simp only [List.length_set]; exact hlen, ?_, ?_, hmut.gr.trans hgr1⟩
          · refine Lim_set ?_ _ _ ht
            intro y hy
            rcases List.mem_append.1 hy with hy | hy
            · exact hmq y hy
            · exact hm y (List.mem_of_mem_drop hy)
          · have h1 := hv.out
            have h2 := hql.out
            rw [set_at q r k t h2 hn, List.take_append_of_le_length (by simp; omega), List.take_of_length_le (by simp; omega), val_snoc, h2, Nat.mul_comm]
            exact h1
        · omega
      · go_wp2_with fail
        go_ret
        have ht1 : t = 0 := by omega
        subst ht1
        refine ⟨k, q ++ r.drop k, rfl, Nat.le_refl _, by omega, hrk, ?_, ?_, ?_, hmut.gr⟩
        · have := hql.out; simp; omega
        · intro y hy
          rcases List.mem_append.1 hy with hy | hy
          · exact hmq y hy
          · exact hm y (List.mem_of_mem_drop hy)
        · have h1 := hv.out
          rw [List.take_append_of_le_length (by have := hql.out; omega), List.take_of_length_le (by have := hql.out; omega)]
          omega
end Go.Proofs.YtbjidpooociamaaDoor
namespace Go.Proofs.YtbjidpooociamaaDoor
open Go.RowKit Lb
def numv (l : List Nat) : Nat := l.foldl (fun a x => a * 10 + (x - 48)) 0
theorem numv_snoc (l : List Nat) (x : Nat) : numv (l ++ [x]) = numv l * 10 + (x - 48) := by simp [numv, List.foldl_append]
theorem S8_get (cs : List Nat) (k : Nat) (h : k < (S8 cs).size) (hx : cs.getD k 0 < 256) : ((S8 cs)[k]'h).toNat = cs.getD k 0 := by
  have hk : k < cs.length := by rw [S8_size] at h; exact h
  have e : (S8 cs)[k]'h = UInt8.ofNat (cs.getD k 0) := by
    show (S8 cs).data[k]'_ = _
    simp [S8, List.getD, hk]
  rw [e]
  exact UInt8.toNat_ofNat_of_lt hx
theorem iterAt_keep {a w : World} (h : Keep a w) {k : Nat} (hk : a.heap.size ≤ k) (s : ByteArray) (pos : Nat) : Keep a (w.iterAt k s pos) := Lib.below_iterAt h hk s pos
theorem Row.iterAt {w : World} {g k : Nat} {l : List Nat} (h : Row w g l) (hne : g ≠ k) (s : ByteArray) (pos : Nat) : Row (w.iterAt k s pos) g l := by
  unfold Row; rw [Lib.iterAt_other w k g s pos hne]; exact h
theorem iter_gr {w w' : World} {g k : Nat} {o : Obj} (h : w.heap[k]? = some o) (hg : Gr g w w') (hne : k ≠ g) : w'.heap[k]? = some o := by
  rw [hg.block k (Array.getElem?_eq_some_iff.1 h).1 hne]; exact h
theorem Keep.trans_gr {a b c : World} {g : Nat} (h : Keep a b) (k : Gr g b c) (hg : a.heap.size ≤ g) : Keep a c :=
  ⟨k.os.trans h.os, k.tape.trans h.tape, k.output.trans h.output, Nat.le_trans h.size k.size, fun i hi => (k.block i (Nat.lt_of_lt_of_le hi h.size) (by omega)).trans (h.block i hi)⟩
set_option maxRecDepth 100000 in
set_option maxHeartbeats 800000 in
theorem joinedChunks_any (cs : List Nat) (w : World) (hcs : ∀ x ∈ cs, 48 ≤ x ∧ x < 58) (hl : cs.length ≤ 140737488355328) :
    Calls Tryd.prog 92 #[.string (S8 cs)] w fun e w' => ∃ v, e = .returned v ∧ NatR w.heap.size w' v (numv cs) ∧ Keep w w' := by
  have hsz := S8_size cs
  have hcap : cs.length / 9 + 1 ≤ 70368744177664 := by omega
  go_enter Tryd.func92, Tryd.ntmps92
  go_wp2_with (at_make; refine wpList_make32_0 _ rfl _ _ rfl _ _ _ (cs.length / 9 + 1) rfl rfl ?_ hcap ?_; rotate_left; intro w1 hrow hk hsz1)
  · have hrow0 : Row (w1.iter (S8 cs) 0) w.heap.size (List.replicate (cs.length / 9 + 1) 0) := by
      have : Keep w1 (w1.iter (S8 cs) 0) := (Keep.refl w1).alloc _
      exact hrow.keep this
    have hit0 : (w1.iter (S8 cs) 0).heap[w.heap.size + 1]? = some (.stringIter (S8 cs) 0) := by rw [← hsz1]; exact World.iter_heap w1 _ 0
    have hk0 : Keep w (w1.iter (S8 cs) 0) := hk.alloc _
    generalize w1.iter (S8 cs) 0 = w2 at hrow0 hit0 hk0 ⊢
    clear hrow hk hsz1
    go_loopw [3, 4, 5] (fun vo vc vf wr => ∃ (k m C F p : Nat) (r : List Nat), k ≤ cs.length ∧ wr.heap[w.heap.size + 1]? = some (.stringIter (S8 cs) k) ∧ vo = .slice (some ⟨w.heap.size, 0, none⟩) m (cs.length / 9 + 1) ∧ vc = .int .u32 (C : Nat) ∧ vf = .int .u32 (F : Nat) ∧ C < F ∧ F ≤ 100000000 ∧ p ≤ 8 ∧ Hid (F ≤ 10 ^ p) ∧ Hid ((cs.length - k + p) % 9 = 0) ∧ Hid (9 * m + (cs.length - k) + p ≤ cs.length + 8) ∧ Row wr w.heap.size r ∧ Hid (r.length = cs.length / 9 + 1) ∧ Lim r ∧ Hid (val (r.take m) * F + C = numv (cs.take k)) ∧ Keep w wr) (fun _ _ _ wr => cs.length - wr.iterPos (w.heap.size + 1))
    case atStart => exact ⟨0, 0, 0, 1, (9 - cs.length % 9) % 9, _, by omega, hit0, rfl, rfl, rfl, by omega, by omega, by omega, Nat.one_le_pow _ _ (by omega), by show _ = _; omega, by show _ ≤ _; omega, hrow0, by show _ = _; simp, by intro x hx; simp at hx; omega, by show _ = _; simp [val, numv], hk0⟩
    case round =>
      obtain ⟨k, m, C, F, p, r, hk, hit, rfl, rfl, rfl, hCF, hF, hp, hFp, hmod, hsize, hrow, hrl, hmr, hval, hkp⟩ := hrel
      by_cases hkl : k < cs.length
      · obtain ⟨x, hx⟩ : ∃ x, cs.getD k 0 = x := ⟨_, rfl⟩
        have hxm : x ∈ cs := by rw [← hx]; simp [List.getD, hkl]
        have hxr := hcs x hxm
        obtain ⟨hx1, hx2⟩ := hxr
        have hks : k < (S8 cs).size := by rw [hsz]; exact hkl
        have hb : ((S8 cs)[k]'hks).toNat = x := by rw [S8_get cs k hks (by omega)]; exact hx
        have hnx := fun ty => Lib.run_next_ascii_at (P := Tryd.prog) wr (w.heap.size + 1) (S8 cs) k ty hit hks (by omega)
        rw [hb] at hnx
        have hit1 := Lib.iterAt_heap wr (w.heap.size + 1) (S8 cs) k (k + 1) hit
        have hrow1 : Row (wr.iterAt (w.heap.size + 1) (S8 cs) (k + 1)) w.heap.size r := hrow.iterAt (by omega) _ _
        have hkp1 : Keep w (wr.iterAt (w.heap.size + 1) (S8 cs) (k + 1)) := iterAt_keep hkp (by omega) _ _
        have Htk : Hid (numv (cs.take (k + 1)) = numv (cs.take k) * 10 + (x - 48)) := by show _ = _; rw [take_snoc cs k hkl, hx, numv_snoc]
        have Hit := hit
        clear hb hx hxm hcs hit hrow hkp hks
        generalize wr.iterAt (w.heap.size + 1) (S8 cs) (k + 1) = w3 at hnx hit1 hrow1 hkp1
        by_cases h9 : (cs.length - 1 - k) % 9 = 0
        · have h9' : (((cs.length : Int) - 1 - (k : Int)) % 9 == 0) = true := by simp; omega
          have hF9 : F * 10 < 4294967296 := by omega
          have hC9 : C * 10 + (x - 48) < F * 10 := by omega
          have hmm : m < cs.length / 9 + 1 := by have h1 := hmod.out; have h2 := hsize.out; omega
          have hP := pushChunk_any w.heap.size m (F * 10) (C * 10 + (x - 48)) r w3 (by rw [hrl.out]; omega) (by rw [hrl.out]; exact hmm) hrow1 hmr hF9 (by omega)
          rw [show ((F * 10 : Nat) : Int) = (F : Int) * 10 from by omega, show ((C * 10 + (x - 48) : Nat) : Int) = (C : Int) * 10 + ((x : Int) - 48) from by omega, hrl.out] at hP
          go_wp2_with fail
          refine hP.mono ?_
          rintro e w4 ⟨m', r', rfl, hm1, hm2, hrow4, hrl4, hmr4, hval4, hgr4⟩
          have hit4 := iter_gr hit1 hgr4 (by omega)
          have hkp4 : Keep w w4 := hkp1.trans_gr hgr4 (Nat.le_refl _)
          clear hP hnx hit1 hrow1
          go_wp2_with fail
          go_roundw
          case rel =>
            refine ⟨k + 1, m', 0, 1, 0, r', by omega, hit4, rfl, rfl, rfl, by omega, by omega, by omega, by show _ ≤ _; simp, by show _ = _; omega, ?_, hrow4, hrl4, hmr4, ?_, hkp4⟩
            · show _ ≤ _
              have h1 := hmod.out
              have h2 := hsize.out
              omega
            · show _ = _
              rw [hval4, Htk.out, ← hval.out]
              grind
          case measure => rw [iterPos_of hit4, iterPos_of Hit]; omega
        · have h9' : (((cs.length : Int) - 1 - (k : Int)) % 9 == 0) = false := by simp; omega
          have hp7 : p ≤ 7 := by have h1 := hmod.out; omega
          have hF7 : F * 10 ≤ 10 ^ (p + 1) := by have h1 : F ≤ 10 ^ p := hFp; rw [Nat.pow_succ]; omega
          have hF8 : F * 10 ≤ 100000000 := Nat.le_trans hF7 (Nat.pow_le_pow_right (by omega) (show p + 1 ≤ 8 by omega))
          have HF7 : Hid (F * 10 ≤ 10 ^ (p + 1)) := hF7
          clear hF7
          go_wp2_with fail
          go_roundw
          case rel =>
            refine ⟨k + 1, m, C * 10 + (x - 48), F * 10, p + 1, r, by omega, hit1, rfl, by go_num, by go_num, by omega, hF8, by omega, HF7, by show _ = _; have h1 := hmod.out; omega, by show _ ≤ _; have h2 := hsize.out; omega, hrow1, hrl, hmr, ?_, hkp1⟩
            show _ = _
            rw [Htk.out, ← hval.out]
            grind
          case measure => rw [iterPos_of hit1, iterPos_of Hit]; omega
      · have hke : k = cs.length := by omega
        have hnx := fun ty => Lib.run_next_end_at (P := Tryd.prog) wr (w.heap.size + 1) (S8 cs) k ty hit (by rw [hsz]; omega)
        have hp0 : p = 0 := by have h1 := hmod.out; omega
        have hF1 : F ≤ 1 := by have h1 : F ≤ 10 ^ p := hFp; rw [hp0] at h1; simpa using h1
        have hml : m ≤ cs.length / 9 + 1 := by have h2 := hsize.out; omega
        have hlm : (r.take m).length = m := by rw [List.length_take, hrl.out]; omega
        have hT := trim_any (some ⟨w.heap.size, 0, none⟩) (cs.length / 9 + 1) (r.take m) wr (by omega) (by omega) (by have := hrow.rd 0 m (by rw [hrl.out]; omega); simpa using this)
        rw [hlm] at hT
        have hvv : val (r.take m) = numv cs := by
          have h1 := hval.out
          rw [hke, List.take_of_length_le (Nat.le_refl _), show F = 1 by omega, show C = 0 by omega] at h1
          omega
        have Hv : Hid (val (r.take m) = numv cs) := hvv
        clear hvv
        go_wp2_with fail
        refine hT.mono ?_
        rintro e w5 ⟨rfl, rfl⟩
        go_wp2_with fail
        go_ret
        refine ⟨_, rfl, ?_, hkp⟩
        have hres : Res w.heap.size w5 (.slice (some ⟨w.heap.size, 0, none⟩) m (cs.length / 9 + 1)) (r.take m) := by
          have := (hrow.res (Nat.le_refl w.heap.size)).cut (show m ≤ r.length by rw [hrl.out]; exact hml)
          rw [hrl.out] at this
          exact this
        rw [← Hv.out]
        exact NatR.of_trim hres (Lim_take hmr m)
  · simp
end Go.Proofs.YtbjidpooociamaaDoor
namespace Go.Proofs.YtbjidpooociamaaDoor
open Go.RowKit Lb
set_option maxRecDepth 100000 in
set_option maxHeartbeats 400000 in
theorem joined_none (cs : List Nat) (w : World) (hcs : ∀ x ∈ cs, 48 ≤ x ∧ x < 58) (hl : cs.length ≤ 140737488355328) :
    Calls Tryd.prog 73 #[.string (S8 cs), .slice none 0 0] w fun e w' => ∃ v, e = .returned v ∧ NatR w.heap.size w' v (numv cs) ∧ Keep w w' := by
  go_enter Tryd.func73, Tryd.ntmps73
  go_wp2_with fail
  refine (joinedChunks_any cs w hcs hl).mono ?_
  rintro e w1 ⟨v, rfl, hn, hk⟩
  obtain ⟨a, c, l, rfl, -⟩ := hn.shape
  go_wp2_with fail
  go_ret
  exact ⟨_, rfl, hn, hk⟩
set_option maxRecDepth 100000 in
set_option maxHeartbeats 400000 in
theorem Read_few (cs : List Nat) (w : World) (hcs : ∀ x ∈ cs, 48 ≤ x ∧ x < 58) (h0 : cs ≠ []) (hl : cs.length ≤ 288) :
    Calls Tryd.prog 27 #[.string (S8 cs)] w fun e w' => ∃ v, e = .returned (.tuple #[v, .int .i64 0, .int .i64 0]) ∧ NatR w.heap.size w' v (numv cs) ∧ Keep w w' := by
  have hsz := S8_size cs
  have hpos : 0 < cs.length := List.length_pos_iff.2 h0
  have hne : (S8 cs).toList.isEmpty = false := by
    rw [ByteArray.toList_eq]
    simp [S8]
    exact h0
  go_enter Tryd.func27, Tryd.ntmps27
  go_wp2_with fail
  have hit0 : (w.iter (S8 cs) 0).heap[w.heap.size]? = some (.stringIter (S8 cs) 0) := World.iter_heap w _ 0
  have hk0 : Keep w (w.iter (S8 cs) 0) := (Keep.refl w).alloc _
  generalize w.iter (S8 cs) 0 = w2 at hit0 hk0 ⊢
  go_loopw [] (fun wr => ∃ k : Nat, k ≤ cs.length ∧ wr.heap[w.heap.size]? = some (.stringIter (S8 cs) k) ∧ Keep w wr) (fun wr => cs.length - wr.iterPos w.heap.size)
  case atStart => exact ⟨0, by omega, hit0, hk0⟩
  case round =>
    obtain ⟨k, hk, hit, hkp⟩ := hrel
    by_cases hkl : k < cs.length
    · obtain ⟨x, hx⟩ : ∃ x, cs.getD k 0 = x := ⟨_, rfl⟩
      have hxm : x ∈ cs := by rw [← hx]; simp [List.getD, hkl]
      obtain ⟨hx1, hx2⟩ := hcs x hxm
      have hks : k < (S8 cs).size := by rw [hsz]; exact hkl
      have hb : ((S8 cs)[k]'hks).toNat = x := by rw [S8_get cs k hks (by omega)]; exact hx
      have hnx := fun ty => Lib.run_next_ascii_at (P := Tryd.prog) wr w.heap.size (S8 cs) k ty hit hks (by omega)
      rw [hb] at hnx
      have hit1 := Lib.iterAt_heap wr w.heap.size (S8 cs) k (k + 1) hit
      have hkp1 : Keep w (wr.iterAt w.heap.size (S8 cs) (k + 1)) := iterAt_keep hkp (by omega) _ _
      have Hit := hit
      have hd1 : decide ((x : Int) < 48) = false := by simp; omega
      clear hb hx hxm hit hkp hks
      generalize wr.iterAt w.heap.size (S8 cs) (k + 1) = w3 at hnx hit1 hkp1
      go_wp2_with fail
      go_roundw
      case rel => exact ⟨k + 1, by omega, hit1, hkp1⟩
      case measure => rw [iterPos_of hit1, iterPos_of Hit]; omega
    · have hnx := fun ty => Lib.run_next_end_at (P := Tryd.prog) wr w.heap.size (S8 cs) k ty hit (by rw [hsz]; omega)
      have hP := powersFor_few cs.length wr hl
      go_wp2_with fail
      refine hP.mono ?_
      rintro e w4 ⟨rfl, rfl⟩
      go_wp2_with fail
      refine (joined_none cs w4 hcs (by omega)).mono ?_
      rintro e w5 ⟨v, rfl, hn, hk5⟩
      obtain ⟨a, c, l, rfl, -⟩ := hn.shape
      go_wp2_with fail
      go_ret3
      exact ⟨_, rfl, hn.mono hkp.le, hkp.trans hk5⟩
end Go.Proofs.YtbjidpooociamaaDoor
