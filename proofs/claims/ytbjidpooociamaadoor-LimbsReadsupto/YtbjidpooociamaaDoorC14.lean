import Derived.Test.YtbjidpooociamaaDoorC13
import Derived.Laws.BytesArg
namespace Go.Proofs.YtbjidpooociamaaDoor
open Go.RowKit Lb
/-- Codes as a string. -/
def S8 (l : List Nat) : ByteArray := ⟨(l.map UInt8.ofNat).toArray⟩
theorem S8_size (l : List Nat) : (S8 l).size = l.length := by simp [S8, ByteArray.size]
def cut0 (l : List Nat) : List Nat := l.dropWhile (· == 48)
/-- A natural's decimal digits. -/
def dec (n : Nat) : List Nat := if n = 0 then [48] else cut0 (dw n n)
theorem dw_range : ∀ (k n x : Nat), x ∈ dw k n → 48 ≤ x ∧ x < 58
  | 0, _, x, h => by simp [dw] at h
  | k + 1, n, x, h => by
    rw [dw, List.mem_append] at h
    rcases h with h | h
    · exact dw_range k _ x h
    · simp at h; omega
theorem cut0_step (k n : Nat) (h : n < 10 ^ k) : cut0 (dw (k + 1) n) = cut0 (dw k n) := by
  rw [dw_cons, Nat.div_eq_of_lt h]; rfl
theorem cut0_add (n k : Nat) (h : n < 10 ^ k) : ∀ j, cut0 (dw (k + j) n) = cut0 (dw k n)
  | 0 => rfl
  | j + 1 => by
    rw [← Nat.add_assoc, cut0_step (k + j) n (Nat.lt_of_lt_of_le h (Nat.pow_le_pow_right (by omega) (by omega))), cut0_add n k h j]
theorem lt_pow (n : Nat) : n < 10 ^ n := Nat.lt_pow_self (by omega)
theorem cut0_eq (n k : Nat) (h : n < 10 ^ k) : cut0 (dw k n) = cut0 (dw n n) := by
  rw [← cut0_add n k h n, ← cut0_add n n (lt_pow n) k, Nat.add_comm]
theorem all48 : ∀ (k n : Nat), (∀ x ∈ dw k n, x = 48) → n < 10 ^ k → n = 0
  | 0, n, _, h => by simp at h; omega
  | k + 1, n, h, hn => by
    rw [dw] at h
    have h1 := all48 k (n / 10) (fun x hx => h x (by simp [hx])) (by rw [Nat.pow_succ] at hn; omega)
    have h2 := h (48 + n % 10) (by simp)
    omega
theorem cut0_nil : ∀ (l : List Nat), cut0 l = [] → ∀ x ∈ l, x = 48
  | [], _, x, hx => by simp at hx
  | y :: ys, h, x, hx => by
    unfold cut0 at h
    rw [List.dropWhile_cons] at h
    split at h
    · rename_i h1
      simp at hx
      rcases hx with rfl | hx
      · simpa using h1
      · exact cut0_nil ys h x hx
    · simp at h
theorem cut0_ne (n k : Nat) (hn : 0 < n) (h : n < 10 ^ k) : cut0 (dw k n) ≠ [] := by
  intro h0
  have := all48 k n (cut0_nil _ h0) h
  omega
theorem cut0_zero : ∀ k, cut0 (dw k 0) = []
  | 0 => rfl
  | k + 1 => by rw [dw_cons, Nat.zero_div]; exact cut0_zero k
theorem trimLeft_map (l : List Nat) (h : ∀ x ∈ l, x < 256) : Lib.trimLeftB (l.map UInt8.ofNat) 48 = (cut0 l).map UInt8.ofNat := by
  unfold Lib.trimLeftB cut0
  induction l with
  | nil => rfl
  | cons x xs ih =>
    have hx := h x (by simp)
    have e : (UInt8.ofNat x == 48) = (x == 48) := by
      rw [Bool.eq_iff_iff]
      simp only [beq_iff_eq]
      constructor
      · intro h1
        have := congrArg UInt8.toNat h1
        simp at this
        omega
      · intro h1; subst h1; rfl
    rw [List.map_cons, List.dropWhile_cons, List.dropWhile_cons, e]
    split
    · exact ih (fun y hy => h y (by simp [hy]))
    · rfl

theorem i5 : (Tryd.prog.info? 5).map (fun i => (i.zero, i.size, i.bytes)) = some (some (.int .u8 0), 1, 1) := by kernel_rfl
theorem made8 (n : Nat) : madeCells (Value.int .u8 0).cells n = (V8 (List.replicate n 0)).toArray := by
  have := toList_madeCells_one (.int .u8 0) n
  rw [← Array.toList_inj]
  simp only [V8, List.map_replicate]
  exact this
/-- make([]byte, n). -/
theorem wpList_make8 (w : World) {ops : Array Oper} {rest : List Oper} {o : Oper} {a : Act} {Q : Exit → Act → World → Prop}
    (hg : o.guard = none) (l c : Operand) (hop : o.op = Op.makeSlice 72 l c) (kl kc : IntKind) (L C : Int) (n : Nat) (hl : a.eval l = .int kl L) (hc : a.eval c = .int kc C) (hL : L = (n : Int)) (hC : C = (n : Int)) (hn : n ≤ 281474976710656)
    (hK : ∀ w', Row8 w' w.heap.size (List.replicate n 0) → Keep w w' → w'.heap.size = w.heap.size + 1 → wpList Tryd.prog ops Q rest (a.put o.dst (.slice (some ⟨w.heap.size, 0, none⟩) n n)) w') :
    wpList Tryd.prog ops Q (o :: rest) a w := by
  refine wpList_plain hg fun K hK' => ?_
  obtain ⟨i, hi, hz0, hz1, hz2⟩ := info_parts i5
  have hr := run_make (P := Tryd.prog) w 72 5 i _ Tryd.underlying72 hi hz0 kl kc n n (by omega) (by omega) (by rw [hz2]; omega) (by omega)
  subst hL
  subst hC
  rw [hz1] at hr
  unfold Oper.wp
  simp only [Int.toNat_natCast, Nat.mul_one, made8] at hr
  simp [execOp, hop, hl, hc, hr, Result.andThen]
  exact hK' _ _ (hK _ (heap_alloc_new w _) ((Keep.refl w).alloc _) (by simp))
theorem conv8 (w : World) (g c : Nat) (l : List Nat) (h : Row8 w g l) : (convert 72 9 (.slice (some ⟨g, 0, none⟩) l.length c)).run Tryd.prog w = .ok (.string (S8 l)) w := by
  have := run_convert_bytes_arg (P := Tryd.prog) w 72 5 Tryd.underlying72 Tryd.underlying5 g 0 l.length c (l.map (fun x : Nat => (x : Int))) (by simp) (fun i hi => by
    rw [Nat.zero_add, h.cell i hi]; simp [List.getD, hi]) 9 Tryd.underlying9
  rw [this]
  simp [strOfNums, S8]

set_option maxRecDepth 100000 in
set_option maxHeartbeats 400000 in
theorem powersFor_few (n : Nat) (w : World) (hn : n ≤ 288) :
    Calls Tryd.prog 74 #[.int .i64 (n : Nat)] w fun e w' => e = .returned (.slice none 0 0) ∧ w' = w := by
  go_enter Tryd.func74, Tryd.ntmps74
  go_wp2_with fail
  refine wp_loop_rounds 1 ?_
  rw [rounds_succ]
  go_wp2_with fail
  go_ret
  exact ⟨rfl, rfl⟩
set_option maxRecDepth 100000 in
set_option maxHeartbeats 400000 in
theorem split_none (g o n c : Nat) (a : Option Addr) (ca : Nat) (old l : List Nat) (w : World) (hon : o + n ≤ old.length) (hol : old.length ≤ 140737488355328) (hrow : Row8 w g old) (hl : l.length ≤ 70368744177664) (hr : Rd w a l) (hm : Lim l) :
    Calls Tryd.prog 75 #[.slice (some ⟨g, o, none⟩) n c, .slice a l.length ca, .slice none 0 0] w fun e w' => e = .returned (.tuple #[]) ∧ Row8 w' g (old.take o ++ (dw n (val l) ++ old.drop (o + n))) ∧ Gr g w w' := by
  go_enter Tryd.func75, Tryd.ntmps75
  go_wp2_with fail
  refine (splitChunks_any g o n c a ca old l w hon hol hrow hl hr hm).mono ?_
  rintro e w1 ⟨rfl, h1, h2⟩
  go_wp2_with fail
  refine bodyPost_ret (results_none rfl _ _ _) rfl ?_
  exact ⟨rfl, h1, h2⟩
set_option maxRecDepth 100000 in
set_option maxHeartbeats 800000 in
theorem Print_few (a : Option Addr) (ca : Nat) (l : List Nat) (w : World) (hc : l.length ≤ ca) (hl : l.length ≤ 70368744177664) (hr : Rd w a l) (hm : Lim l) (hd : lenB l ≤ 900) (hdig : val l < 10 ^ (lenB l * 30103 / 100000 + 1)) :
    Calls Tryd.prog 29 #[.slice a l.length ca] w fun e w' => e = .returned (.string (S8 (dec (val l)))) ∧ Keep w w' := by
  have hL := Len_any a ca l w hc hl hr hm
  generalize lenB l = n at hL hd hdig
  obtain ⟨k, hk⟩ : ∃ k, n * 30103 / 100000 + 1 = k := ⟨_, rfl⟩
  rw [hk] at hdig
  have hkl : k ≤ 288 := by omega
  have hke : (n : Int) * 30103 / 100000 + 1 = (k : Int) := by omega
  go_enter Tryd.func29, Tryd.ntmps29
  go_wp2_with fail
  refine hL.mono ?_
  rintro e w1 ⟨rfl, hd1⟩
  go_wp2_with fail
  refine (powersFor_few k w1 hkl).mono ?_
  rintro e w2 ⟨rfl, rfl⟩
  have hbk : k ≤ 281474976710656 := by omega
  go_wp2_with (at_make; refine wpList_make8 _ rfl _ _ rfl _ _ _ _ k rfl rfl rfl rfl hbk ?_; intro w3 hrow hk3 hsz)
  have hk03 := hd1.keep.trans hk3
  refine (trim_any a ca l w3 hc (by omega) (hr.keep hk03)).mono ?_
  rintro e w4 ⟨rfl, rfl⟩
  have l1 := nl_le l
  have e1 : (l.take (nl l)).length = nl l := by simp; omega
  have hS := split_none w2.heap.size 0 k k a ca (List.replicate k 0) (l.take (nl l)) w4 (by simp) (by simp; omega) hrow (by omega) ((hr.keep hk03).take _) (Lim_take hm _)
  rw [e1, val_take_nl] at hS
  go_wp2_with fail
  refine hS.mono ?_
  rintro e w5 ⟨rfl, h8, hg8⟩
  clear hS
  have h8' : Row8 w5 w2.heap.size (dw k (val l)) := by
    have : List.drop (0 + k) (List.replicate k 0) = [] := List.drop_eq_nil_of_le (by simp)
    rw [this] at h8
    simpa using h8
  have hk05 : Keep w w5 := by
    refine hd1.keep.trans ?_
    exact ⟨(hg8.os.trans hk3.os), (hg8.tape.trans hk3.tape), (hg8.output.trans hk3.output), Nat.le_trans hk3.size hg8.size, fun i hi => (hg8.block i (by omega) (by omega)).trans (hk3.block i hi)⟩
  have hcv := conv8 w5 w2.heap.size k _ h8'
  rw [dw_length] at hcv
  clear h8 hg8 hrow hk3
  have hT := Tryd.strings_TrimLeft_one (S8 (dw k (val l))) 48 (by decide) w5
  rw [show (S8 (dw k (val l))).data.toList = (dw k (val l)).map UInt8.ofNat from by simp [S8], trimLeft_map _ (fun x hx => by have := dw_range _ _ x hx; omega)] at hT
  by_cases h0 : val l = 0
  · have e0 : cut0 (dw k (val l)) = [] := by
      rw [h0, cut0_zero]
    have ed : Hid (dec (val l) = [48]) := by show _ = _; unfold dec; rw [if_pos h0]
    rw [e0] at hT
    clear h0 e0
    go_wp2_with fail
    refine hT.mono ?_
    rintro e w6 ⟨rfl, rfl⟩
    go_wp2
    go_ret
    exact ⟨by rw [ed.out]; rfl, hk05⟩
  · have e0 : cut0 (dw k (val l)) ≠ [] := cut0_ne _ _ (by omega) hdig
    have ed : Hid (dec (val l) = cut0 (dw k (val l))) := by show _ = _; unfold dec; rw [if_neg h0, cut0_eq _ k hdig]
    obtain ⟨x, xs, hx⟩ := List.exists_cons_of_ne_nil e0
    rw [hx] at hT
    have Hx : Hid (cut0 (dw k (val l)) = x :: xs) := hx
    clear h0 e0 hx
    go_wp2_with fail
    refine hT.mono ?_
    rintro e w6 ⟨rfl, rfl⟩
    go_wp2
    go_ret
    exact ⟨by rw [ed.out, Hx.out]; simp [S8], hk05⟩
end Go.Proofs.YtbjidpooociamaaDoor
