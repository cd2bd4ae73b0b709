import Derived.Test.YtaogjiffnebnkaaProg
import Derived.WalkKit
import Derived.WalkSpells
import Derived.WalkLawsBesides
import Derived.Deep.Draws
import Derived.Deep.QuietTactic
import Derived.BigQuiet
import Derived.Laws.Externs
import Derived.Laws.CopyOwn
import Derived.RangeFuncBox
import Derived.RangeFuncLeaves
import Derived.RangeFuncCalls
import Derived.RangeFuncRecord
import Derived.Below
import Derived.Shelf.Abstract
import Derived.OwnWalkIn
import Derived.TacticsInMore
import Derived.LoopNIn
import Derived.LoopIn
import Derived.Sort.LoopGhostIn
set_option linter.unusedVariables false
set_option linter.unusedSimpArgs false
namespace Go.Proofs.Ytaogjiffnebnkaa.Mk
/-- What a list of nodes is to a reader of its shape: which are inner, and the two below each. -/
structure Sh where
  K : Nat → Bool
  A : Nat → Nat
  B : Nat → Nat
/-- Reached from node 0. -/
inductive Rch (t : Sh) : Nat → Prop
  | zero : Rch t 0
  | left {i : Nat} : Rch t i → t.K i = true → Rch t (t.A i)
  | right {i : Nat} : Rch t i → t.K i = true → Rch t (t.B i)
/-- The children lie within. -/
def In (t : Sh) (n : Nat) : Prop := 0 < n ∧ ∀ i, i < n → t.K i = true → t.A i < n ∧ t.B i < n
theorem Rch.lt {t : Sh} {n i : Nat} (h : In t n) (r : Rch t i) : i < n := by
  induction r with
  | zero => exact h.1
  | left _ hk ih => exact (h.2 _ ih hk).1
  | right _ hk ih => exact (h.2 _ ih hk).2
/-- Going through the nodes: what was met, what waits. -/
def go (t : Sh) : Nat → List Nat → List Nat → List Nat
  | 0, out, _ => out
  | _ + 1, out, [] => out
  | f + 1, out, i :: s => if i ∈ out then go t f out s else go t f (out ++ [i]) (if t.K i = true then t.A i :: t.B i :: s else s)
theorem go_nil (t : Sh) (f : Nat) (out : List Nat) : go t f out [] = out := by cases f <;> rfl
/-- The numbers in the order in which they are met. -/
def ord (t : Sh) (n : Nat) : List Nat := go t (3 * n + 1) [] [0]
/-- What holds on the way. -/
structure Way (t : Sh) (n : Nat) (out S : List Nat) : Prop where
  nd : out.Nodup
  lo : ∀ i ∈ out, i < n
  ls : ∀ i ∈ S, i < n
  ro : ∀ i ∈ out, Rch t i
  rs : ∀ i ∈ S, Rch t i
  cl : ∀ i ∈ out, t.K i = true → (t.A i ∈ out ∨ t.A i ∈ S) ∧ (t.B i ∈ out ∨ t.B i ∈ S)
  z : 0 ∈ out ∨ 0 ∈ S
theorem nodup_len {n : Nat} {l : List Nat} (h : l.Nodup) (hl : ∀ i ∈ l, i < n) : l.length ≤ n := by
  have := List.Nodup.length_le_of_subset h (l₂ := List.range n) (fun i hi => List.mem_range.2 (hl i hi))
  simpa using this
theorem Way.start {t : Sh} {n : Nat} (h : In t n) : Way t n [] [0] :=
  ⟨List.nodup_nil, by simp, by simpa using h.1, by simp, by intro i hi; simp at hi; subst hi; exact .zero, by simp, .inr (by simp)⟩
theorem Way.old {t : Sh} {n i : Nat} {out S : List Nat} (w : Way t n out (i :: S)) (hi : i ∈ out) : Way t n out S := by
  refine ⟨w.nd, w.lo, fun j hj => w.ls j (List.mem_cons_of_mem _ hj), w.ro, fun j hj => w.rs j (List.mem_cons_of_mem _ hj), ?_, ?_⟩
  · intro j hj hk
    obtain ⟨h1, h2⟩ := w.cl j hj hk
    refine ⟨?_, ?_⟩
    · rcases h1 with h | h
      · exact .inl h
      · rcases List.mem_cons.1 h with e | e
        · exact .inl (e ▸ hi)
        · exact .inr e
    · rcases h2 with h | h
      · exact .inl h
      · rcases List.mem_cons.1 h with e | e
        · exact .inl (e ▸ hi)
        · exact .inr e
  · rcases w.z with h | h
    · exact .inl h
    · rcases List.mem_cons.1 h with e | e
      · exact .inl (e ▸ hi)
      · exact .inr e
theorem Way.new {t : Sh} {n i : Nat} {out S : List Nat} (ht : In t n) (w : Way t n out (i :: S)) (hi : i ∉ out) : Way t n (out ++ [i]) (if t.K i = true then t.A i :: t.B i :: S else S) := by
  have hin : i < n := w.ls i List.mem_cons_self
  have hri : Rch t i := w.rs i List.mem_cons_self
  refine ⟨?_, ?_, ?_, ?_, ?_, ?_, ?_⟩
  · rw [List.nodup_append]
    refine ⟨w.nd, by simp, ?_⟩
    intro a ha b hb
    simp at hb
    subst hb
    intro e
    subst e
    exact hi ha
  · intro j hj
    rcases List.mem_append.1 hj with h | h
    · exact w.lo j h
    · simp at h; subst h; exact hin
  · intro j hj
    split at hj
    · rename_i hk
      rcases List.mem_cons.1 hj with rfl | hj
      · exact (ht.2 i hin hk).1
      · rcases List.mem_cons.1 hj with rfl | hj
        · exact (ht.2 i hin hk).2
        · exact w.ls j (List.mem_cons_of_mem _ hj)
    · exact w.ls j (List.mem_cons_of_mem _ hj)
  · intro j hj
    rcases List.mem_append.1 hj with h | h
    · exact w.ro j h
    · simp at h; subst h; exact hri
  · intro j hj
    split at hj
    · rename_i hk
      rcases List.mem_cons.1 hj with rfl | hj
      · exact .left hri hk
      · rcases List.mem_cons.1 hj with rfl | hj
        · exact .right hri hk
        · exact w.rs j (List.mem_cons_of_mem _ hj)
    · exact w.rs j (List.mem_cons_of_mem _ hj)
  · have up : ∀ c, (c ∈ out ∨ c ∈ i :: S) → (c ∈ out ++ [i] ∨ c ∈ (if t.K i = true then t.A i :: t.B i :: S else S)) := by
      intro c hc
      rcases hc with h | h
      · exact .inl (List.mem_append_left _ h)
      · rcases List.mem_cons.1 h with rfl | h
        · exact .inl (by simp)
        · right
          split
          · exact List.mem_cons_of_mem _ (List.mem_cons_of_mem _ h)
          · exact h
    intro j hj hk
    rcases List.mem_append.1 hj with h | h
    · obtain ⟨h1, h2⟩ := w.cl j h hk
      exact ⟨up _ h1, up _ h2⟩
    · simp at h
      subst h
      rw [if_pos hk]
      exact ⟨.inr (by simp), .inr (by simp)⟩
  · rcases w.z with h | h
    · exact .inl (List.mem_append_left _ h)
    · rcases List.mem_cons.1 h with e | h
      · exact .inl (by simp [e])
      · right
        split
        · exact List.mem_cons_of_mem _ (List.mem_cons_of_mem _ h)
        · exact h
theorem Way.done {t : Sh} {n : Nat} {out : List Nat} (w : Way t n out []) (i : Nat) : i ∈ out ↔ Rch t i := by
  refine ⟨w.ro i, ?_⟩
  intro h
  induction h with
  | zero => simpa using w.z
  | left _ hk ih => simpa using (w.cl _ ih hk).1
  | right _ hk ih => simpa using (w.cl _ ih hk).2
theorem go_mem {t : Sh} {n : Nat} (ht : In t n) : ∀ (f : Nat) (out S : List Nat), Way t n out S → 3 * (n - out.length) + S.length ≤ f → (∀ i, i ∈ go t f out S ↔ Rch t i) ∧ (go t f out S).Nodup
  | f, out, [], w, _ => by rw [go_nil]; exact ⟨w.done, w.nd⟩
  | 0, out, i :: S, w, h => by simp at h
  | f + 1, out, i :: S, w, h => by
    rw [go]
    by_cases hi : i ∈ out
    · rw [if_pos hi]
      exact go_mem ht f out S (w.old hi) (by simp at h; omega)
    · rw [if_neg hi]
      have w' := w.new ht hi
      have hl := nodup_len w'.nd w'.lo
      rw [List.length_append, List.length_singleton] at hl
      refine go_mem ht f _ _ w' ?_
      rw [List.length_append, List.length_singleton]
      simp only [List.length_cons] at h
      split
      · simp only [List.length_cons]; omega
      · omega
theorem ord_mem {t : Sh} {n : Nat} (ht : In t n) (i : Nat) : i ∈ ord t n ↔ Rch t i := (go_mem ht _ _ _ (Way.start ht) (by simp)).1 i
theorem ord_nodup {t : Sh} {n : Nat} (ht : In t n) : (ord t n).Nodup := (go_mem ht _ _ _ (Way.start ht) (by simp)).2
theorem ord_lt {t : Sh} {n : Nat} (ht : In t n) (i : Nat) (h : i ∈ ord t n) : i < n := ((ord_mem ht i).1 h).lt ht
theorem ord_len {t : Sh} {n : Nat} (ht : In t n) : (ord t n).length ≤ n := nodup_len (ord_nodup ht) (ord_lt ht)
/-- How often a number stands below one of the first m. -/
def cnt (t : Sh) (j : Nat) : Nat → Nat
  | 0 => 0
  | m + 1 => cnt t j m + (if t.K m = true ∧ t.A m = j then 1 else 0) + (if t.K m = true ∧ t.B m = j then 1 else 0)
theorem cnt_mono (t : Sh) (j : Nat) {a b : Nat} (h : a ≤ b) : cnt t j a ≤ cnt t j b := by
  induction h with
  | refl => exact Nat.le_refl _
  | step _ ih => simp only [cnt]; omega
theorem cnt_one {t : Sh} {j i m : Nat} (hi : i < m) (hk : t.K i = true) (hc : t.A i = j ∨ t.B i = j) : cnt t j i + 1 ≤ cnt t j m := by
  have h1 := cnt_mono t j (show i + 1 ≤ m by omega)
  have h2 : cnt t j i + 1 ≤ cnt t j (i + 1) := by
    rw [cnt]
    rcases hc with h | h
    · rw [if_pos ⟨hk, h⟩]; omega
    · rw [if_pos (c := t.K i = true ∧ t.B i = j) ⟨hk, h⟩]; omega
  omega
theorem cnt_two {t : Sh} {j i m : Nat} (hi : i < m) (hk : t.K i = true) (h1 : t.A i = j) (h2 : t.B i = j) : cnt t j i + 2 ≤ cnt t j m := by
  have h3 := cnt_mono t j (show i + 1 ≤ m by omega)
  have h4 : cnt t j i + 2 ≤ cnt t j (i + 1) := by
    rw [cnt, if_pos ⟨hk, h1⟩, if_pos ⟨hk, h2⟩]; omega
  omega
/-- A right tree: each number but 0 is below just one, once, and reached; 0 is below none. -/
structure Tr (t : Sh) (n : Nat) : Prop where
  wi : In t n
  z : ∀ i, i < n → t.K i = true → t.A i ≠ 0 ∧ t.B i ≠ 0
  one : ∀ j, 0 < j → j < n → cnt t j n = 1
  re : ∀ j, j < n → Rch t j
theorem Tr.par {t : Sh} {n i k j : Nat} (h : Tr t n) (hj : 0 < j) (hjn : j < n) (hi : i < n) (hk : k < n) (ki : t.K i = true) (kk : t.K k = true) (h1 : t.A i = j ∨ t.B i = j) (h2 : t.A k = j ∨ t.B k = j) : i = k := by
  have ho := h.one j hj hjn
  rcases Nat.lt_trichotomy i k with h3 | h3 | h3
  · have a := cnt_one h3 ki h1
    have b := cnt_one hk kk h2
    omega
  · exact h3
  · have a := cnt_one h3 kk h2
    have b := cnt_one hi ki h1
    omega
theorem Tr.ab {t : Sh} {n i : Nat} (h : Tr t n) (hi : i < n) (ki : t.K i = true) : t.A i ≠ t.B i := by
  intro e
  have h1 := h.one (t.A i) (by have := (h.z i hi ki).1; omega) (h.wi.2 i hi ki).1
  have h2 := cnt_two (j := t.A i) hi ki rfl e.symm
  omega
/-- In a right tree nothing waits twice. -/
structure Str (t : Sh) (n : Nat) (out S : List Nat) : Prop where
  nd : (out ++ S).Nodup
  pa : ∀ j ∈ out ++ S, j = 0 ∨ ∃ i ∈ out, t.K i = true ∧ (t.A i = j ∨ t.B i = j)
theorem Str.start (t : Sh) (n : Nat) : Str t n [] [0] := ⟨by simp, by simp⟩
theorem Str.fresh {t : Sh} {n i : Nat} {out S : List Nat} (h : Str t n out (i :: S)) : i ∉ out := by
  intro hi
  have := h.nd
  rw [List.nodup_append] at this
  exact this.2.2 i hi i List.mem_cons_self rfl
theorem Str.next {t : Sh} {n i : Nat} {out S : List Nat} (ht : Tr t n) (w : Way t n out (i :: S)) (h : Str t n out (i :: S)) : Str t n (out ++ [i]) (if t.K i = true then t.A i :: t.B i :: S else S) := by
  have hin : i < n := w.ls i List.mem_cons_self
  have hf := h.fresh
  have e1 : (out ++ [i]) ++ S = out ++ i :: S := by simp
  by_cases hk : t.K i = true
  · rw [if_pos hk]
    have hab := ht.ab hin hk
    obtain ⟨ha, hb⟩ := ht.wi.2 i hin hk
    obtain ⟨za, zb⟩ := ht.z i hin hk
    have nw : ∀ j, (t.A i = j ∨ t.B i = j) → j ≠ 0 → j < n → j ∉ out ++ i :: S := by
      intro j hj h0 hn hm
      rcases h.pa j hm with e | ⟨p, hp, kp, cp⟩
      · exact h0 e
      · have := ht.par (by omega) hn (w.lo p hp) hin kp hk cp hj
        subst this
        exact hf hp
    have na := nw _ (.inl rfl) za ha
    have nb := nw _ (.inr rfl) zb hb
    refine ⟨?_, ?_⟩
    · have hnd := h.nd
      rw [← e1] at hnd na nb
      rw [List.nodup_append] at hnd ⊢
      obtain ⟨q1, q2, q3⟩ := hnd
      refine ⟨q1, ?_, ?_⟩
      · rw [List.nodup_cons, List.nodup_cons]
        refine ⟨?_, ?_, q2⟩
        · intro hm
          rcases List.mem_cons.1 hm with e | e
          · exact hab e
          · exact na (List.mem_append_right _ e)
        · intro hm
          exact nb (List.mem_append_right _ hm)
      · intro a hao b hbs
        rcases List.mem_cons.1 hbs with rfl | hbs
        · intro e; subst e; exact na (List.mem_append_left _ hao)
        · rcases List.mem_cons.1 hbs with rfl | hbs
          · intro e; subst e; exact nb (List.mem_append_left _ hao)
          · exact q3 a hao b hbs
    · intro j hj
      rcases List.mem_append.1 hj with h1 | h1
      · rcases h.pa j (by rw [← e1]; exact List.mem_append_left _ h1) with e | ⟨p, hp, q⟩
        · exact .inl e
        · exact .inr ⟨p, List.mem_append_left _ hp, q⟩
      · rcases List.mem_cons.1 h1 with rfl | h1
        · exact .inr ⟨i, by simp, hk, .inl rfl⟩
        · rcases List.mem_cons.1 h1 with rfl | h1
          · exact .inr ⟨i, by simp, hk, .inr rfl⟩
          · rcases h.pa j (by rw [← e1]; exact List.mem_append_right _ h1) with e | ⟨p, hp, q⟩
            · exact .inl e
            · exact .inr ⟨p, List.mem_append_left _ hp, q⟩
  · rw [if_neg hk]
    refine ⟨by rw [e1]; exact h.nd, ?_⟩
    intro j hj
    rw [e1] at hj
    rcases h.pa j hj with e | ⟨p, hp, q⟩
    · exact .inl e
    · exact .inr ⟨p, List.mem_append_left _ hp, q⟩
end Go.Proofs.Ytaogjiffnebnkaa.Mk
set_option linter.unusedVariables false
set_option linter.unusedSimpArgs false
namespace Go.Proofs.Ytaogjiffnebnkaa.Mk
open Go.RowKit
/-- An equation laid aside. -/
def Hid (p : Prop) : Prop := p
theorem Hid.out {p : Prop} (h : Hid p) : p := h
theorem ret_int {k : IntKind} {a b : Int} (h : a = b) : Ending.returned (.int k a) = .returned (.int k b) := by rw [h]
theorem ret_bool {a b : Bool} (h : a = b) : Ending.returned (.bool a) = .returned (.bool b) := by rw [h]
/-- Nothing that was there has turned. -/
def Keep (w w' : World) : Prop := Below w.heap.size w w'
theorem Keep.refl (w : World) : Keep w w := Below.refl _ _
theorem Keep.trans {a b c : World} (h : Keep a b) (k : Keep b c) : Keep a c := Below.trans h (Below.mono k h.size)
theorem Keep.drew {a b : World} (h : Keep a b) : Keep a b.drew := Below.drew h
theorem Keep.alloc {a b : World} (h : Keep a b) (o : Obj) : Keep a (b.alloc o) := Below.alloc h h.size o
theorem Keep.setCell {a b : World} (h : Keep a b) {p : Addr} (hp : a.heap.size ≤ p.block) (u : Value) : Keep a (b.setCell p u) := Below.setCell h hp u
theorem Keep.cell {a b : World} (h : Keep a b) {p : Addr} {v : Value} (hc : a.cell? p = some v) : b.cell? p = some v :=
  (Below.cell h (World.block_lt_of_cell? a p hc)).trans hc
theorem Keep.le {a b : World} (h : Keep a b) : a.heap.size ≤ b.heap.size := h.size
/-- A node. -/
structure Nd where
  kd : Nat
  vl : Int
  ft : Int
  th : Nat
  cs : List Int
  ms : Nat
  lf : Int
  rt : Int
/-- Its numbers fit. -/
structure Nd.Fit (n : Nd) : Prop where
  kd : n.kd < 256
  vl : -9223372036854775808 ≤ n.vl ∧ n.vl ≤ 9223372036854775807
  ft : -9223372036854775808 ≤ n.ft ∧ n.ft ≤ 9223372036854775807
  th : n.th < 18446744073709551616
  cs : ∀ x ∈ n.cs, -9223372036854775808 ≤ x ∧ x ≤ 9223372036854775807
  ms : n.ms < 256
  lf : -9223372036854775808 ≤ n.lf ∧ n.lf ≤ 9223372036854775807
  rt : -9223372036854775808 ≤ n.rt ∧ n.rt ≤ 9223372036854775807
/-- Whole numbers that can be read. -/
def RdI (w : World) (a : Option Addr) (l : List Int) : Prop :=
  ∀ j, j < l.length → ∃ b o, a = some ⟨b, o, none⟩ ∧ w.cell? ⟨b, o + j, none⟩ = some (.int .i64 (l.getD j 0))
theorem RdI.keep {w w' : World} {a : Option Addr} {l : List Int} (h : RdI w a l) (k : Keep w w') : RdI w' a l := by
  intro j hj
  obtain ⟨b, o, e, hc⟩ := h j hj
  exact ⟨b, o, e, k.cell hc⟩
theorem RdI.nil (w : World) (a : Option Addr) : RdI w a [] := by intro j hj; simp at hj
/-- A node in memory. -/
structure NdAt (w : World) (b o : Nat) (n : Nd) (ca : Option Addr) (cap : Nat) : Prop where
  c0 : w.cell? ⟨b, o, none⟩ = some (.int .u8 n.kd)
  c1 : w.cell? ⟨b, o + 1, none⟩ = some (.int .i64 n.vl)
  c2 : w.cell? ⟨b, o + 2, none⟩ = some (.int .i64 n.ft)
  c3 : w.cell? ⟨b, o + 3, none⟩ = some (.float .f64 n.th)
  c4 : w.cell? ⟨b, o + 4, none⟩ = some (.slice ca n.cs.length cap)
  c5 : w.cell? ⟨b, o + 5, none⟩ = some (.int .u8 n.ms)
  c6 : w.cell? ⟨b, o + 6, none⟩ = some (.int .i64 n.lf)
  c7 : w.cell? ⟨b, o + 7, none⟩ = some (.int .i64 n.rt)
  rd : RdI w ca n.cs
  cp : n.cs.length ≤ cap
  sz : n.cs.length ≤ 17592186044416
  ok : n.Fit
theorem NdAt.keep {w w' : World} {b o : Nat} {n : Nd} {ca : Option Addr} {cap : Nat} (h : NdAt w b o n ca cap) (k : Keep w w') : NdAt w' b o n ca cap :=
  ⟨k.cell h.c0, k.cell h.c1, k.cell h.c2, k.cell h.c3, k.cell h.c4, k.cell h.c5, k.cell h.c6, k.cell h.c7, h.rd.keep k, h.cp, h.sz, h.ok⟩
def nd0 : Nd := ⟨0, 0, 0, 0, [], 0, 0, 0⟩
/-- Nodes that can be read. -/
def RdN (w : World) (a : Option Addr) (L : List Nd) : Prop :=
  ∀ j, j < L.length → ∃ b o ca cap, a = some ⟨b, o, none⟩ ∧ NdAt w b (o + j * 8) (L.getD j nd0) ca cap
theorem RdN.keep {w w' : World} {a : Option Addr} {L : List Nd} (h : RdN w a L) (k : Keep w w') : RdN w' a L := by
  intro j hj
  obtain ⟨b, o, ca, cap, e, hc⟩ := h j hj
  exact ⟨b, o, ca, cap, e, hc.keep k⟩
theorem f64bits (x : Nat) (w : World) : (callFunc 24 #[.float .f64 x]).run Try.prog w = .ok (.value (.int .u64 (x : Nat))) w := by
  rw [run_callFunc_extern Try.func24 (by kernel_rfl) (by kernel_rfl) (by kernel_rfl) (e := Extern.MathFloatBits.float64bits) (by kernel_rfl)]
  rfl
theorem isZero_any (x : Nat) (w : World) :
    Calls Try.prog 130 #[.float .f64 x] w fun e w' => e = .returned (.bool (decide (x = 0))) ∧ w' = w := by
  have hb := f64bits x
  go_enter Try.func130, Try.ntmps130
  go_wp2
  go_ret
  exact ⟨ret_bool (by rw [Bool.eq_iff_iff]; simp), rfl⟩
theorem isSide_any (s : Nat) (w : World) :
    Calls Try.prog 132 #[.int .u8 s] w fun e w' => e = .returned (.bool (decide (s = 1 ∨ s = 2))) ∧ w' = w := by
  by_cases h1 : s = 1
  · subst h1
    go_enter Try.func132, Try.ntmps132
    go_wp2
    go_ret
    exact ⟨rfl, rfl⟩
  · have hb : ((s : Int) == 1) = false := by rw [beq_eq_false_iff_ne]; omega
    go_enter Try.func132, Try.ntmps132
    go_wp2
    go_ret
    exact ⟨ret_bool (by rw [Bool.eq_iff_iff]; simp; omega), rfl⟩
theorem isBelow_any (i : Int) (n : Nat) (w : World) :
    Calls Try.prog 133 #[.int .i64 i, .int .i64 (n : Nat)] w fun e w' => e = .returned (.bool (decide (1 ≤ i ∧ i < (n : Int)))) ∧ w' = w := by
  by_cases h1 : 1 ≤ i
  · go_enter Try.func133, Try.ntmps133
    go_wp2
    go_ret
    exact ⟨ret_bool (by rw [Bool.eq_iff_iff]; simp; omega), rfl⟩
  · go_enter Try.func133, Try.ntmps133
    go_wp2
    go_ret
    exact ⟨ret_bool (by rw [Bool.eq_iff_iff]; simp; omega), rfl⟩
theorem isInner_any (k : Nat) (w : World) :
    Calls Try.prog 94 #[.int .u8 k] w fun e w' => e = .returned (.bool (decide (k = 2 ∨ k = 3))) ∧ w' = w := by
  by_cases h1 : k = 2
  · subst h1
    go_enter Try.func94, Try.ntmps94
    go_wp2
    go_ret
    exact ⟨rfl, rfl⟩
  · have hb : ((k : Int) == 2) = false := by rw [beq_eq_false_iff_ne]; omega
    go_enter Try.func94, Try.ntmps94
    go_wp2
    go_ret
    exact ⟨ret_bool (by rw [Bool.eq_iff_iff]; simp; omega), rfl⟩
end Go.Proofs.Ytaogjiffnebnkaa.Mk
set_option linter.unusedVariables false
set_option linter.unusedSimpArgs false
namespace Go.Proofs.Ytaogjiffnebnkaa.Mk
open Go.RowKit
/-- No number: as the language compares. -/
def nanB (x : Nat) : Bool := !(FloatKind.f64.format.order x x == some .eq)
theorem IsNaN_any (x : Nat) (w : World) :
    Calls Try.prog 39 #[.float .f64 x] w fun e w' => e = .returned (.bool (nanB x)) ∧ w' = w := by
  go_enter Try.func39, Try.ntmps39
  go_wp2
  go_ret
  exact ⟨ret_bool rfl, rfl⟩
/-- Right categories. -/
@[reducible] def Cats (l : List Int) : Prop := 0 < l.length ∧ ∀ i, i < l.length → (0 ≤ l.getD i 0 ∧ l.getD i 0 < 1024 ∧ (0 < i → l.getD (i - 1) 0 < l.getD i 0))
def catsB (l : List Int) : Bool := decide (Cats l)
theorem catsB_iff (l : List Int) : catsB l = true ↔ Cats l := by unfold catsB; rw [decide_eq_true_eq]
theorem catsB_no {l : List Int} (h : ¬ Cats l) : catsB l = false := by unfold catsB; rw [decide_eq_false h]
set_option maxRecDepth 100000 in
theorem areCats_any (a : Option Addr) (c : Nat) (l : List Int) (w : World) (hl : l.length ≤ 17592186044416) (hr : RdI w a l) :
    Calls Try.prog 131 #[.slice a l.length c] w fun e w' => e = .returned (.bool (catsB l)) ∧ w' = w := by
  go_enter Try.func131, Try.ntmps131
  go_wp2
  go_loop [7] (fun i => ∃ k : Nat, k ≤ l.length ∧ i = .int .i64 k ∧ Hid (∀ i, i < k → (0 ≤ l.getD i 0 ∧ l.getD i 0 < 1024 ∧ (0 < i → l.getD (i - 1) 0 < l.getD i 0)))) (fun i => l.length - (intOf i).toNat)
  case atStart => exact ⟨0, by omega, rfl, by intro i hi; omega⟩
  case round =>
    obtain ⟨k, hk, rfl, hinv⟩ := hrel
    by_cases hkl : k < l.length
    · obtain ⟨b, o, rfl, hc⟩ := hr k hkl
      obtain ⟨x, hx⟩ : ∃ x, l.getD k 0 = x := ⟨_, rfl⟩
      rw [hx] at hc
      have Hx : Hid (l.getD k 0 = x) := hx
      clear hx
      by_cases hg : 0 ≤ x ∧ x < 1024 ∧ (0 < k → l.getD (k - 1) 0 < x)
      · obtain ⟨g1, g2, g3⟩ := hg
        have hn : Hid (∀ i, i < k + 1 → (0 ≤ l.getD i 0 ∧ l.getD i 0 < 1024 ∧ (0 < i → l.getD (i - 1) 0 < l.getD i 0))) := by
          intro i hi
          by_cases e : i = k
          · subst e; rw [Hx.out]; exact ⟨g1, g2, g3⟩
          · exact hinv.out i (by omega)
        by_cases hk0 : 0 < k
        · obtain ⟨b', o', e', hc'⟩ := hr (k - 1) (by omega)
          simp only [Option.some.injEq, Addr.mk.injEq, and_true] at e'
          obtain ⟨rfl, rfl⟩ := e'
          have g4 := g3 hk0
          obtain ⟨y, hy⟩ : ∃ y, l.getD (k - 1) 0 = y := ⟨_, rfl⟩
          rw [hy] at hc' g4
          clear hy g3
          go_wp2
          go_round
          case rel => exact ⟨k + 1, by omega, by go_num, hn⟩
          case measure => simp [intOf]; omega
        · have e0 : k = 0 := by omega
          subst e0
          clear g3
          rw [Nat.add_zero] at hc
          go_wp2
          go_round
          case rel => exact ⟨1, by omega, by go_num, hn⟩
          case measure => simp [intOf]; omega
      · have hf : Hid (¬ Cats l) := by
          intro h
          have := h.2 k hkl
          rw [Hx.out] at this
          exact hg this
        by_cases g1 : 0 ≤ x
        · by_cases g2 : x < 1024
          · have hk0 : 0 < k := by
              rcases Nat.eq_zero_or_pos k with e | e
              · exact absurd ⟨g1, g2, fun h => by omega⟩ hg
              · exact e
            have g4 : ¬ l.getD (k - 1) 0 < x := fun h => hg ⟨g1, g2, fun _ => h⟩
            obtain ⟨b', o', e', hc'⟩ := hr (k - 1) (by omega)
            simp only [Option.some.injEq, Addr.mk.injEq, and_true] at e'
            obtain ⟨rfl, rfl⟩ := e'
            obtain ⟨y, hy⟩ : ∃ y, l.getD (k - 1) 0 = y := ⟨_, rfl⟩
            rw [hy] at hc' g4
            clear hy hg
            go_wp2
            go_ret
            exact ⟨ret_bool (catsB_no hf.out).symm, rfl⟩
          · clear hg
            go_wp2
            go_ret
            exact ⟨ret_bool (catsB_no hf.out).symm, rfl⟩
        · clear hg
          go_wp2
          go_ret
          exact ⟨ret_bool (catsB_no hf.out).symm, rfl⟩
    · have hke : k = l.length := by omega
      have hR : Hid (catsB l = decide (0 < l.length)) := by
        show _ = _
        rw [Bool.eq_iff_iff, decide_eq_true_eq, catsB_iff]
        have := hinv.out
        rw [hke] at this
        exact ⟨fun h => by have := h.1; omega, fun h => ⟨by omega, this⟩⟩
      clear hke
      go_wp2
      go_ret
      exact ⟨ret_bool hR.out.symm, rfl⟩
end Go.Proofs.Ytaogjiffnebnkaa.Mk
set_option linter.unusedVariables false
set_option linter.unusedSimpArgs false
namespace Go.Proofs.Ytaogjiffnebnkaa.Mk
open Go.RowKit
def bareB (n : Nd) : Bool := decide (n.th = 0) && decide (n.cs.length = 0)
theorem isBare_any (w : World) (n : Nd) (b o : Nat) (ca : Option Addr) (cap : Nat) (h : NdAt w b o n ca cap) :
    Calls Try.prog 128 #[.pointer (some ⟨b, o, none⟩)] w fun e w' => e = .returned (.bool (bareB n)) ∧ w' = w := by
  have h3 := h.c3
  have h4 := h.c4
  have hZ := fun w => isZero_any n.th w
  have HB : Hid (bareB n = (decide (n.th = 0) && decide (n.cs.length = 0))) := rfl
  generalize bareB n = B at HB ⊢
  go_enter Try.func128, Try.ntmps128
  go_wp2_with (go_at_call 130; refine (hZ _).mono ?_; rintro e w' ⟨rfl, rfl⟩)
  all_goals
    go_ret
    refine ⟨ret_bool ?_, rfl⟩
    rw [HB.out, Bool.eq_iff_iff]
    clear HB hZ
    simp_all
    try omega
def spl (n : Nd) (N : Nat) : Bool := decide (n.vl = 0 ∧ 0 ≤ n.ft ∧ n.ft < 65536 ∧ (n.ms = 1 ∨ n.ms = 2) ∧ (1 ≤ n.lf ∧ n.lf < (N : Int)) ∧ (1 ≤ n.rt ∧ n.rt < (N : Int)))
set_option maxRecDepth 100000 in
theorem isSplit_any (w : World) (n : Nd) (b o N : Nat) (ca : Option Addr) (cap : Nat) (h : NdAt w b o n ca cap) :
    Calls Try.prog 129 #[.pointer (some ⟨b, o, none⟩), .int .i64 (N : Nat)] w fun e w' => e = .returned (.bool (spl n N)) ∧ w' = w := by
  have h1 := h.c1
  have h2 := h.c2
  have h5 := h.c5
  have h6 := h.c6
  have h7 := h.c7
  have hS := fun w => isSide_any n.ms w
  have hL := fun w => isBelow_any n.lf N w
  have hR := fun w => isBelow_any n.rt N w
  have HB : Hid (spl n N = decide (n.vl = 0 ∧ 0 ≤ n.ft ∧ n.ft < 65536 ∧ (n.ms = 1 ∨ n.ms = 2) ∧ (1 ≤ n.lf ∧ n.lf < (N : Int)) ∧ (1 ≤ n.rt ∧ n.rt < (N : Int)))) := rfl
  generalize spl n N = B at HB ⊢
  obtain ⟨s, hs⟩ : ∃ s, decide (n.ms = 1 ∨ n.ms = 2) = s := ⟨_, rfl⟩
  obtain ⟨l, hl⟩ : ∃ s, decide (1 ≤ n.lf ∧ n.lf < (N : Int)) = s := ⟨_, rfl⟩
  obtain ⟨r, hr⟩ : ∃ s, decide (1 ≤ n.rt ∧ n.rt < (N : Int)) = s := ⟨_, rfl⟩
  rw [hs] at hS
  rw [hl] at hL
  rw [hr] at hR
  have H1 : Hid (decide (n.ms = 1 ∨ n.ms = 2) = s ∧ decide (1 ≤ n.lf ∧ n.lf < (N : Int)) = l ∧ decide (1 ≤ n.rt ∧ n.rt < (N : Int)) = r) := ⟨hs, hl, hr⟩
  clear hs hl hr
  obtain ⟨c, hc⟩ : ∃ c, n.lf = c := ⟨_, rfl⟩
  have HC : Hid (n.lf = c) := hc
  rw [hc] at hL h6
  clear hc
  go_enter Try.func129, Try.ntmps129
  go_wp2_with first
    | (go_at_call 132; refine (hS _).mono ?_; rintro e w' ⟨rfl, rfl⟩)
    | (go_at_call_of 133 (Value.int .i64 c); refine (hL _).mono ?_; rintro e w' ⟨rfl, rfl⟩)
    | (go_at_call 133; refine (hR _).mono ?_; rintro e w' ⟨rfl, rfl⟩)
  all_goals
    go_ret
    refine ⟨ret_bool ?_, rfl⟩
    have H2 := H1.out
    rw [HB.out]
    clear HB H1 hL hR hS
    grind
/-- A right node of so many. -/
def rightB (n : Nd) (N : Nat) : Bool :=
  if n.kd = 1 then decide (n.ft = 0) && bareB n && decide (n.ms = 0) && decide (n.lf = 0) && decide (n.rt = 0)
  else if n.kd = 2 then spl n N && !nanB n.th && decide (n.cs.length = 0)
  else if n.kd = 3 then spl n N && decide (n.th = 0) && catsB n.cs
  else false
set_option maxRecDepth 100000 in
set_option maxHeartbeats 1000000 in
theorem isRight_any (w : World) (n : Nd) (b o N : Nat) (ca : Option Addr) (cap : Nat) (h : NdAt w b o n ca cap) :
    Calls Try.prog 120 #[.pointer (some ⟨b, o, none⟩), .int .i64 (N : Nat)] w fun e w' => e = .returned (.bool (rightB n N)) ∧ w' = w := by
  have h0 := h.c0
  have h2 := h.c2
  have h3 := h.c3
  have h4 := h.c4
  have h5 := h.c5
  have h6 := h.c6
  have h7 := h.c7
  have hB := fun (wx : World) (e : wx = w) => isBare_any wx n b o ca cap (e ▸ h)
  have hS := fun (wx : World) (e : wx = w) => isSplit_any wx n b o N ca cap (e ▸ h)
  have hN := fun wx => IsNaN_any n.th wx
  have hZ := fun wx => isZero_any n.th wx
  have hC := fun (wx : World) (e : wx = w) => areCats_any ca cap n.cs wx h.sz (e ▸ h.rd)
  have HR : Hid (rightB n N = (if n.kd = 1 then decide (n.ft = 0) && bareB n && decide (n.ms = 0) && decide (n.lf = 0) && decide (n.rt = 0)
    else if n.kd = 2 then spl n N && !nanB n.th && decide (n.cs.length = 0)
    else if n.kd = 3 then spl n N && decide (n.th = 0) && catsB n.cs
    else false)) := rfl
  generalize rightB n N = R at HR ⊢
  generalize bareB n = bb at *
  generalize spl n N = sp at *
  generalize nanB n.th = nn at *
  generalize catsB n.cs = cc at *
  generalize decide (n.th = 0) = zz at *
  by_cases k1 : n.kd = 1
  · rw [k1] at h0
    rw [if_pos k1] at HR
    clear h
    go_enter Try.func120, Try.ntmps120
    go_wp2_with (go_at_call 128; refine (hB _ rfl).mono ?_; rintro e w' ⟨rfl, rfl⟩)
    all_goals
      go_ret
      refine ⟨ret_bool ?_, rfl⟩
      rw [HR.out]
      clear HR hB hS hN hZ hC
      simp_all
      try first | rfl | (rw [Bool.eq_iff_iff]; simp)
  · rw [if_neg k1] at HR
    by_cases k2 : n.kd = 2
    · rw [k2] at h0
      rw [if_pos k2] at HR
      clear h
      go_enter Try.func120, Try.ntmps120
      go_wp2_with first
        | (go_at_call 129; refine (hS _ rfl).mono ?_; rintro e w' ⟨rfl, rfl⟩)
        | (go_at_call 39; refine (hN _).mono ?_; rintro e w' ⟨rfl, rfl⟩)
      all_goals
        go_ret
        refine ⟨ret_bool ?_, rfl⟩
        rw [HR.out]
        clear HR hB hS hN hZ hC
        simp_all
        try first | rfl | (rw [Bool.eq_iff_iff]; simp)
    · rw [if_neg k2] at HR
      by_cases k3 : n.kd = 3
      · rw [k3] at h0
        rw [if_pos k3] at HR
        clear h
        go_enter Try.func120, Try.ntmps120
        go_wp2_with first
          | (go_at_call 129; refine (hS _ rfl).mono ?_; rintro e w' ⟨rfl, rfl⟩)
          | (go_at_call 130; refine (hZ _).mono ?_; rintro e w' ⟨rfl, rfl⟩)
          | (go_at_call 131; refine (hC _ rfl).mono ?_; rintro e w' ⟨rfl, rfl⟩)
        all_goals
          go_ret
          refine ⟨ret_bool ?_, rfl⟩
          rw [HR.out]
          clear HR hB hS hN hZ hC
          simp_all
          try first | rfl | (rw [Bool.eq_iff_iff]; simp)
      · rw [if_neg k3] at HR
        have q1 : ((n.kd : Int) == 1) = false := by rw [beq_eq_false_iff_ne]; omega
        have q2 : ((n.kd : Int) == 2) = false := by rw [beq_eq_false_iff_ne]; omega
        have q3 : ((n.kd : Int) == 3) = false := by rw [beq_eq_false_iff_ne]; omega
        clear h
        go_enter Try.func120, Try.ntmps120
        go_wp2_with fail
        go_ret
        exact ⟨ret_bool HR.out.symm, rfl⟩
end Go.Proofs.Ytaogjiffnebnkaa.Mk
set_option linter.unusedVariables false
set_option linter.unusedSimpArgs false
namespace Go.Proofs.Ytaogjiffnebnkaa.Mk
open Go.RowKit
/-- What an iterator with memory of its own does: it turns its own blocks and lays new ones. -/
structure Stp (T : Nat → Prop) (A B : World) : Prop where
  os : B.os = A.os
  tape : B.tape = A.tape
  output : B.output = A.output
  size : A.heap.size ≤ B.heap.size
  block : ∀ g, g < A.heap.size → ¬ T g → B.heap[g]? = A.heap[g]?
/-- Its blocks, and those laid since. -/
def more (T : Nat → Prop) (A B : World) : Nat → Prop := fun g => T g ∨ (A.heap.size ≤ g ∧ g < B.heap.size)
/-- What a round leaves as it is: what lies below, and the iterator's blocks. -/
structure Kpt (n0 : Nat) (T : Nat → Prop) (A B : World) : Prop where
  os : B.os = A.os
  tape : B.tape = A.tape
  output : B.output = A.output
  size : A.heap.size ≤ B.heap.size
  block : ∀ g, g < A.heap.size → (g < n0 ∨ T g) → B.heap[g]? = A.heap[g]?
theorem Kpt.trans {n0 : Nat} {T : Nat → Prop} {A B C : World} (h : Kpt n0 T A B) (k : Kpt n0 T B C) : Kpt n0 T A C :=
  ⟨k.os.trans h.os, k.tape.trans h.tape, k.output.trans h.output, Nat.le_trans h.size k.size, fun g hg ht => (k.block g (Nat.lt_of_lt_of_le hg h.size) ht).trans (h.block g hg ht)⟩
theorem Kpt.put {n0 : Nat} {T : Nat → Prop} (A : World) (r : Nat) (o : Obj) (hr : n0 ≤ r) (ht : ¬ T r) : Kpt n0 T A (A.putObj r o) :=
  ⟨rfl, rfl, rfl, by simp, fun g _ hg => World.putObj_heap_other (fun e => by subst e; rcases hg with h | h; omega; exact ht h)⟩
/-- An iterator with memory of its own. -/
def SeqT {α : Type} (n : Nat) (P : Program) (gf : Nat) (lb : Array Value) (encs : α → Array Value) (n0 : Nat) (T0 : Nat → Prop) (S Sp : List α → Prop) (N : Nat) (w : World) : Prop :=
  ∀ (l : Nat) (J : List α → (Nat → Prop) → World → Prop) (Jx : List α → World → Prop) (W : World), Below w.heap.size w W →
    (∀ pre T A B, J pre T A → Stp T A B → J pre (more T A B) B) →
    (∀ pre x T A, J pre T A → pre.length < N → YieldAt Fence.wide (n - 1) P l (encs x) A fun e A' =>
      (e = .returned (.bool true) ∧ J (pre ++ [x]) T A' ∧ Kpt n0 T A A') ∨ (e = .returned (.bool false) ∧ Jx (pre ++ [x]) A')) →
    J [] T0 W →
    CallsIn Fence.wide n P gf (#[.func (.yield l) #[] #[]] ++ lb) W fun e W' => (∃ v, e = .returned v) ∧ ((∃ xs T, S xs ∧ J xs T W') ∨ (∃ pre, Sp pre ∧ Jx pre W'))
/-- How a round may be left. -/
def postT {α : Type} (s n0 : Nat) (T : Nat → Prop) (I : List α → (Nat → Prop) → World → Prop) (Ix : Code → List α → World → Prop) (xs : List α) (W : World) : Exit → Act → World → Prop
  | .normal, _, W' => (W'.heap[s]? = W.heap[s]? ∧ W'.heap[s + 1]? = W.heap[s + 1]?) ∧ Kpt n0 T W W' ∧ I xs T W'
  | .ret, _, W' => (W'.heap[s]? = W.heap[s]? ∧ W'.heap[s + 1]? = W.heap[s + 1]?) ∧ Ix .ret xs W'
  | .exit id, _, W' => (W'.heap[s]? = W.heap[s]? ∧ W'.heap[s + 1]? = W.heap[s + 1]?) ∧ Ix (.exit id) xs W'
  | .goto t, _, W' => (W'.heap[s]? = W.heap[s]? ∧ W'.heap[s + 1]? = W.heap[s + 1]?) ∧ Ix (.goto t) xs W'
  | .panic _, _, _ => False
  | .outgrown, _, _ => False
theorem wp_rangeT {α : Type} {P : Program} {n : Nat} {g : Operand} {ps : Array Tmp} {assign body : Code} {Q : Exit → Act → World → Prop} {a : Act} {w : World} (h1 : 1 ≤ n) {gf : Nat} {lb : Array Value}
    (hg : a.eval g = .func (.func gf) #[] lb) (eg : ∀ args w, (callFunc gf args).run P w = .ok (.enter gf args) w) {encs : α → Array Value} {n0 : Nat} {T0 : Nat → Prop} {S Sp : List α → Prop} {N : Nat} {w0 : World}
    (hseq : SeqT (n - 1) P gf lb encs n0 T0 S Sp N w0) (hb0 : Below w0.heap.size w0 w) (hps : ∀ x, (encs x).size = ps.size) (hn0 : n0 ≤ w.heap.size) (hT0 : ∀ g, T0 g → g < w.heap.size)
    (I : List α → (Nat → Prop) → World → Prop) (Ix : Code → List α → World → Prop) (hI1 : ∀ pre T A B, I pre T A → Stp T A B → I pre (more T A B) B)
    (hI2 : ∀ pre T A r o', I pre T A → w.heap.size ≤ r → r < w.heap.size + 2 → r < A.heap.size → I pre T (A.putObj r o')) (hIx2 : ∀ c pre A r o', Ix c pre A → w.heap.size ≤ r → r < w.heap.size + 2 → r < A.heap.size → Ix c pre (A.putObj r o'))
    (h0 : ∀ W, Stp (fun _ => False) w W → I [] T0 W) (a₁ : α → Act)
    (hassign : ∀ (l : Nat) (x : α) (W : World) (K : Act → World → Prop), K (a₁ x) W → assign.wpIn (Fence.wide.inRound l) (n - 1 - 1) P (Exit.then K (fun _ _ _ => False)) { tmps := (ps.zip (encs x)).foldl (fun t (p, v) => t.setIfInBounds p v) a.tmps, defers := [] } W)
    (hbody : ∀ (l : Nat) (pre : List α) (x : α) (T : Nat → Prop) (W : World), I pre T W → pre.length < N → (∀ g, T g → g < w.heap.size ∨ w.heap.size + 2 ≤ g) → w.heap.size + 2 ≤ W.heap.size → body.wpIn (Fence.wide.inRound l) (n - 1 - 1) P (postT w.heap.size n0 T I Ix (pre ++ [x]) W) (a₁ x) W)
    (hdone : ∀ xs T W, S xs → I xs T W → W.heap[w.heap.size]? = some (.deferred (some [])) → Q .normal { a with defers := { target := .collected w.heap.size, args := #[] } :: a.defers } W)
    (hstop : ∀ c pre W, Sp pre → Ix c pre W → W.heap[w.heap.size]? = some (.deferred (some [])) → c.wpIn Fence.wide n P Q { a with defers := { target := .collected w.heap.size, args := #[] } :: a.defers } W) :
    (Code.rangeFunc g ps assign body).wpIn Fence.wide n P Q a w := by
  refine wpIn_rangeFunc fun fn hfn => ?_
  obtain ⟨s, hs⟩ : ∃ s, w.heap.size = s := ⟨_, rfl⟩
  let rec0 (st : LoopState) (pe : Option Code) : Loop := { state := st, pending := pe, fn, tmps := a.tmps, params := ps, assign, body, defers := s }
  obtain ⟨W1, hW1⟩ : ∃ W1, (w.alloc (.deferred (some []))).alloc (.loop (rec0 .ready none)) = W1 := ⟨_, rfl⟩
  have e0 : (Instr.enterLoop fn a.tmps ps assign body Fence.wide.round).run P w = .ok (s + 1, [{ target := .collected s, args := #[] }]) W1 := by
    rw [← hW1, ← hs]
    have := run_enterLoop_outer (P := P) (w := w) fn a.tmps ps assign body
    simp only [rec0, ← hs]
    exact this
  have sz1 : W1.heap.size = s + 2 := by rw [← hW1]; simp [hs]
  have d1 : W1.heap[s]? = some (.deferred (some [])) := by
    rw [← hW1, ← hs]
    exact (Below.heap_alloc _ _ _ (by simp)).trans (World.alloc_heap_new w _)
  have l1 : W1.heap[s + 1]? = some (.loop (rec0 .ready none)) := by
    rw [← hW1, ← hs]
    have := World.alloc_heap_new (w.alloc (.deferred (some []))) (.loop (rec0 .ready none))
    rw [World.size_alloc] at this
    exact this
  have st1 : Stp (fun _ => False) w W1 := by
    have hb : Below w.heap.size w W1 := by rw [← hW1]; exact ((Below.refl _ w).alloc (Nat.le_refl _) _).alloc (by simp) _
    exact ⟨hb.os, hb.tape, hb.output, hb.size, fun g hg _ => hb.block g hg⟩
  have b1 : Below w0.heap.size w0 W1 := by
    refine hb0.trans (Below.mono ?_ hb0.size)
    rw [← hW1]
    exact ((Below.refl _ w).alloc (Nat.le_refl _) _).alloc (by simp) _
  refine ⟨s + 1, [{ target := .collected s, args := #[] }], W1, { target := .fn (.func gf) lb, args := #[.func (.yield (s + 1)) #[] #[]] }, W1, gf, #[.func (.yield (s + 1)) #[] #[]] ++ lb, W1, e0, ?_, ?_, ?_, fun _ => h1, ?_⟩
  · simp only [resolve, hg]
    simp [go_sem]
  · intro f' hf'
    trivial
  · simp [invoke, go_sem, eg]
  · rw [hs] at hn0 hT0 hI2 hIx2 hbody hdone hstop
    have hT1 : ∀ T A B, (∀ g, T g → g < s ∨ s + 2 ≤ g) → s + 2 ≤ A.heap.size → ∀ g, more T A B g → g < s ∨ s + 2 ≤ g := by
      intro T A B h h2 g hg
      rcases hg with hg | hg
      · exact h g hg
      · omega
    refine (hseq (s + 1) (fun pre T W => I pre T W ∧ W.heap[s + 1]? = some (.loop (rec0 .ready none)) ∧ W.heap[s]? = some (.deferred (some [])) ∧ (∀ g, T g → g < s ∨ s + 2 ≤ g) ∧ s + 2 ≤ W.heap.size)
      (fun pre W => ∃ c, Ix c pre W ∧ W.heap[s + 1]? = some (.loop (rec0 .done (some c))) ∧ W.heap[s]? = some (.deferred (some []))) W1 b1 ?_ ?_ ⟨h0 W1 st1, l1, d1, fun g hg => .inl (hT0 g hg), by omega⟩).mono ?_
    · rintro pre T A B ⟨hi, hl, hd, ht, hz⟩ hst
      refine ⟨hI1 pre T A B hi hst, ?_, ?_, hT1 T A B ht hz, Nat.le_trans hz hst.size⟩
      · rw [hst.block (s + 1) (by omega) (fun h => by have := ht _ h; omega)]; exact hl
      · rw [hst.block s (by omega) (fun h => by have := ht _ h; omega)]; exact hd
    · rintro pre x T A ⟨hi, hl, hd, ht, hz⟩ hlen
      have nT0 : ¬ T s := fun h => by have := ht _ h; omega
      have nT1 : ¬ T (s + 1) := fun h => by have := ht _ h; omega
      refine ⟨fn, _, assign, body, run_yield (P := P) (args := encs x) hl (hps x), roundIn_of_wpIn hfn (hassign _ x A _ ⟨_, run_beginRound hl rfl, ?_⟩)⟩
      have sB : (A.putObj (s + 1) (.loop { rec0 .ready none with state := .busy })).heap.size = A.heap.size := World.putObj_size
      have lB : (A.putObj (s + 1) (.loop { rec0 .ready none with state := .busy })).heap[s + 1]? = some (.loop { rec0 .ready none with state := .busy }) := World.putObj_heap_same (by omega)
      have dB : (A.putObj (s + 1) (.loop { rec0 .ready none with state := .busy })).heap[s]? = some (.deferred (some [])) := (World.putObj_heap_other (by omega)).trans hd
      have kB : Kpt n0 T A (A.putObj (s + 1) (.loop { rec0 .ready none with state := .busy })) := Kpt.put A (s + 1) _ (by omega) nT1
      have iB := hI2 pre T A (s + 1) (.loop { rec0 .ready none with state := .busy }) hi (by omega) (by omega) (by omega)
      generalize A.putObj (s + 1) (.loop { rec0 .ready none with state := .busy }) = A2 at sB lB dB kB iB
      refine wpIn_mono (hbody _ pre x T A2 iB hlen ht (by omega)) ?_
      intro e a3 W3 hp
      have fin : ∀ jump : Option Code, (W3.heap[s]? = A2.heap[s]? ∧ W3.heap[s + 1]? = A2.heap[s + 1]?) →
          (Instr.endRound (s + 1) jump).run P W3 = .ok (.bool jump.isNone) (W3.putObj (s + 1) (.loop (rec0 (if jump.isNone then .ready else .done) jump))) ∧ s + 1 < W3.heap.size ∧
          (W3.putObj (s + 1) (.loop (rec0 (if jump.isNone then .ready else .done) jump))).heap[s + 1]? = some (.loop (rec0 (if jump.isNone then .ready else .done) jump)) ∧
          (W3.putObj (s + 1) (.loop (rec0 (if jump.isNone then .ready else .done) jump))).heap[s]? = some (.deferred (some [])) := by
        intro jump hh
        have l3 : W3.heap[s + 1]? = some (.loop { rec0 .ready none with state := .busy }) := hh.2.trans lB
        have hlt : s + 1 < W3.heap.size := (Array.getElem?_eq_some_iff.1 l3).1
        exact ⟨run_endRound (P := P) jump l3, hlt, World.putObj_heap_same hlt, (World.putObj_heap_other (by omega)).trans (hh.1.trans dB)⟩
      cases e with
      | normal =>
        obtain ⟨hh, hk, hi3⟩ := hp
        obtain ⟨q1, q2, q3, q4⟩ := fin none hh
        refine ⟨_, _, q1, .inl ⟨rfl, ⟨hI2 _ T W3 (s + 1) _ hi3 (by omega) (by omega) q2, q3, q4, ht, ?_⟩, (kB.trans hk).trans (Kpt.put W3 (s + 1) _ (by omega) nT1)⟩⟩
        have := hk.size
        rw [World.putObj_size]
        omega
      | ret =>
        obtain ⟨hh, hi3⟩ := hp
        obtain ⟨q1, q2, q3, q4⟩ := fin (some .ret) hh
        exact ⟨_, _, q1, .inr ⟨rfl, .ret, hIx2 _ _ W3 (s + 1) _ hi3 (by omega) (by omega) q2, q3, q4⟩⟩
      | exit id =>
        obtain ⟨hh, hi3⟩ := hp
        obtain ⟨q1, q2, q3, q4⟩ := fin (some (.exit id)) hh
        exact ⟨_, _, q1, .inr ⟨rfl, .exit id, hIx2 _ _ W3 (s + 1) _ hi3 (by omega) (by omega) q2, q3, q4⟩⟩
      | goto t =>
        obtain ⟨hh, hi3⟩ := hp
        obtain ⟨q1, q2, q3, q4⟩ := fin (some (.goto t)) hh
        exact ⟨_, _, q1, .inr ⟨rfl, .goto t, hIx2 _ _ W3 (s + 1) _ hi3 (by omega) (by omega) q2, q3, q4⟩⟩
      | panic ch => exact hp.elim
      | outgrown => exact hp.elim
    · rintro e W2 ⟨⟨v, rfl⟩, (⟨xs, T, hS, hi, hl, hd, ht, hz⟩ | ⟨pre, hSp, c, hi, hl, hd⟩)⟩
      · refine ⟨none, _, run_endLoop (P := P) hl (by simp [rec0]), ?_⟩
        exact hdone xs T _ hS (hI2 _ T W2 (s + 1) _ hi (by omega) (by omega) (by omega)) ((World.putObj_heap_other (by omega)).trans hd)
      · have hlt : s + 1 < W2.heap.size := (Array.getElem?_eq_some_iff.1 hl).1
        refine ⟨some c, _, run_endLoop (P := P) hl (by simp [rec0]), ?_⟩
        exact hstop c pre _ hSp (hIx2 c pre W2 (s + 1) _ hi (by omega) (by omega) hlt) ((World.putObj_heap_other (by omega)).trans hd)
end Go.Proofs.Ytaogjiffnebnkaa.Mk
set_option linter.unusedVariables false
set_option linter.unusedSimpArgs false
namespace Go.Proofs.Ytaogjiffnebnkaa.Mk
open Go.RowKit Go.Shelf
attribute [local go_sem] Oper.semAt_some
/-- Naturals as cells. -/
def UI (l : List Nat) : List Value := l.map (fun x => Value.int .i64 (x : Nat))
theorem UI_length (l : List Nat) : (UI l).length = l.length := by simp [UI]
theorem UI_get (l : List Nat) (j : Nat) (h : j < l.length) : (UI l)[j]? = some (.int .i64 (l.getD j 0 : Nat)) := by simp [UI, List.getD, h]
/-- Truths as cells. -/
def UB (l : List Bool) : List Value := l.map (fun x => Value.bool x)
theorem UB_get (l : List Bool) (j : Nat) (h : j < l.length) : (UB l)[j]? = some (.bool (l.getD j false)) := by simp [UB, List.getD, h]
def RowB (w : World) (g : Nat) (l : List Bool) : Prop := w.heap[g]? = some (.cells (UB l).toArray 4 (0, 0))
theorem RowB.lt {w : World} {g : Nat} {l : List Bool} (h : RowB w g l) : g < w.heap.size := (Array.getElem?_eq_some_iff.1 h).1
theorem RowB.cell {w : World} {g : Nat} {l : List Bool} (h : RowB w g l) (j : Nat) (hj : j < l.length) : w.cell? ⟨g, j, none⟩ = some (.bool (l.getD j false)) := by
  rw [cell_of_row w g j _ 4 (0, 0) h]; simpa using UB_get l j hj
theorem RowB.frozen {w : World} {g : Nat} {l : List Bool} (h : RowB w g l) (j : Nat) : w.frozen? ⟨g, j, none⟩ = false := frozen_of_row w g j _ 4 h
theorem RowB.set {w : World} {g : Nat} {l : List Bool} (h : RowB w g l) (j : Nat) (x : Bool) : RowB (w.setCell ⟨g, j, none⟩ (.bool x)) g (l.set j x) := by
  have := heap_setCell_same w g j _ 4 (.bool x) h
  unfold RowB
  rw [this]
  simp [UB, List.map_set]
theorem i4 : (Try.prog.info? 4).map (fun i => (i.zero, i.size, i.bytes)) = some (some (.bool false), 1, 1) := by kernel_rfl
theorem i3 : (Try.prog.info? 3).map (fun i => (i.zero, i.size, i.bytes)) = some (some (.int .i64 0), 1, 8) := by kernel_rfl
theorem made4 (n : Nat) : madeCells (Value.bool false).cells n = (UB (List.replicate n false)).toArray := by
  have := toList_madeCells_one (.bool false) n
  rw [← Array.toList_inj]
  simp only [UB, List.map_replicate]
  exact this
theorem made3 (n : Nat) : madeCells (Value.int .i64 0).cells n = (UI (List.replicate n 0)).toArray := by
  have := toList_madeCells_one (.int .i64 0) n
  rw [← Array.toList_inj]
  simp only [UI, List.map_replicate]
  exact this
/-- make([]bool, n). -/
theorem wpListIn_makeB {F : Fence} {m : Nat} (w : World) {ops : Array Oper} {rest : List Oper} {o : Oper} {a : Act} {Q : Exit → Act → World → Prop} (hg : o.guard = none) (l c : Operand) (hop : o.op = Op.makeSlice 48 l c) (kl kc : IntKind) (X C : Int) (n : Nat) (hl : a.eval l = .int kl X) (hc : a.eval c = .int kc C) (hL : X = (n : Int)) (hC : C = (n : Int)) (hn : n ≤ 17592186044416)
    (hK : wpListIn F m Try.prog ops Q rest (a.put o.dst (.slice (some ⟨w.heap.size, 0, none⟩) n n)) (w.alloc (.cells (UB (List.replicate n false)).toArray 4))) :
    wpListIn F m Try.prog ops Q (o :: rest) a w := by
  refine wpListIn_plain hg fun K hK' => ?_
  obtain ⟨i, hi, hz0, hz1, hz2⟩ := info_parts i4
  have hr := run_make (P := Try.prog) w 48 4 i _ Try.underlying48 hi hz0 kl kc n n (by omega) (by omega) (by rw [hz2]; omega) (by omega)
  subst hL
  subst hC
  rw [hz1] at hr
  simp only [Int.toNat_natCast, Nat.mul_one, made4] at hr
  unfold Oper.wpIn
  refine ⟨?_, ?_⟩
  · simp [Oper.about, hop]
  · rw [Oper.semAt_plain F _ _ (by rw [hop]; intro c hc'; cases hc')]
    simp [execOp, hop, hl, hc, hr, Result.andThen]
    exact hK' _ _ hK
/-- A list of naturals with memory of its own. -/
def OwnI (w : World) (v : Value) (l : List Nat) : Prop := w.ownsRow 0 3 1 v l.length (UI l)
theorem OwnI.same {w w' : World} {v : Value} {l : List Nat} (h : OwnI w v l) (k : ∀ b, v.ownBlock = some b → w'.heap[b]? = w.heap[b]?) : OwnI w' v l := by
  refine ⟨h.1, ?_⟩
  rcases h.2 with h2 | ⟨g, cap, cur, hv, hg, hh, r⟩
  · exact .inl h2
  · exact .inr ⟨g, cap, cur, hv, hg, by rw [k g (by rw [hv]; rfl)]; exact hh, r⟩
theorem OwnI.block {w : World} {v : Value} {l : List Nat} (h : OwnI w v l) {b : Nat} (hb : v.ownBlock = some b) : ∃ cur, w.heap[b]? = some (.cells cur 3 (0, 0)) := by
  rcases h.2 with ⟨h1, _⟩ | ⟨g, cap, cur, hv, hg, hh, r⟩
  · rw [h1] at hb; cases hb
  · rw [hv] at hb
    have hb : some g = some b := hb
    simp only [Option.some.injEq] at hb
    subst hb
    exact ⟨cur, hh⟩
theorem OwnI.nil (w : World) : OwnI w (.slice none 0 0) [] := ⟨rfl, .inl ⟨rfl, rfl⟩⟩
theorem OwnI.cells {w : World} {v : Value} {l : List Nat} (h : OwnI w v l) (h0 : 0 < l.length) : ∃ g cap, v = .slice (some ⟨g, 0, none⟩) l.length cap ∧ l.length ≤ cap ∧ g < w.heap.size ∧ ∀ j, j < l.length → w.cell? ⟨g, j, none⟩ = some (.int .i64 (l.getD j 0 : Nat)) := by
  rcases h.2 with ⟨h1, h2⟩ | ⟨g, cap, cur, hv, hg, hh, h1, h2, h3, h4⟩
  · omega
  · refine ⟨g, cap, hv, h1, (Array.getElem?_eq_some_iff.1 hh).1, ?_⟩
    intro j hj
    rw [cell_of_row w g j cur 3 (0, 0) hh, ← UI_get l j hj, ← h4]
    simp [hj]
theorem OwnI.shape {w : World} {v : Value} {l : List Nat} (h : OwnI w v l) : ∃ a c, v = .slice a l.length c ∧ l.length ≤ c := by
  rcases h.2 with ⟨h1, h2⟩ | ⟨g, cap, cur, hv, hg, hh, h1, h2, h3, h4⟩
  · exact ⟨none, 0, by rw [h1, h2], by omega⟩
  · exact ⟨_, cap, hv, h1⟩
/-- The last one taken off. -/
theorem OwnI.pop {w : World} {g cap : Nat} {l : List Nat} {x : Nat} (h : OwnI w (.slice (some ⟨g, 0, none⟩) (l ++ [x]).length cap) (l ++ [x])) : OwnI w (.slice (some ⟨g, 0, none⟩) l.length cap) l := by
  rcases h.2 with ⟨h1, h2⟩ | ⟨g', cap', cur, hv, hg, hh, h1, h2, h3, h4⟩
  · cases h1
  · simp only [Value.slice.injEq, Option.some.injEq, Addr.mk.injEq, and_true, true_and] at hv
    obtain ⟨rfl, rfl⟩ := hv
    refine ⟨by simp [UI], .inr ⟨g, cap, cur, rfl, hg, hh, by simp at h1; omega, h2, h3, ?_⟩⟩
    have := congrArg (List.take l.length) h4
    rw [List.take_take, Nat.mul_one, Nat.min_eq_left (by simp)] at this
    rw [Nat.mul_one, this]
    simp [UI]
/-- What append leaves: the same block, or a new one. -/
theorem appI_sep (w : World) (ty : Nat) (v : Value) (l ys : List Nat) (hown : OwnI w v l) (ad : Addr) (c : Nat) (hm : 0 < ys.length) (hnews : ∀ j u, (UI ys)[j]? = some u → w.cell? (ad.add j) = some u) (hlen : l.length + ys.length ≤ 17592186044416) :
    ∃ v' w', (Builtin.append_ #[55, 55] ty #[v, .slice (some ad) ys.length c]).run Try.prog w = .ok v' w' ∧ OwnI w' v' (l ++ ys) ∧ w.grownBy w' v.ownBlock ∧ (v'.ownBlock = v.ownBlock ∨ v'.ownBlock = some w.heap.size) := by
  obtain ⟨i0, hi, hz0, hz1, hz2⟩ := info_parts i3
  have h1 : ∀ u ∈ UI ys, u.oneCell' = true := by intro u hu; obtain ⟨_, _, rfl⟩ := List.mem_map.1 hu; rfl
  have hl : (UI ys).length = ys.length * 1 := by simp [UI]
  obtain ⟨v', w', hr, h2, h3, -⟩ := run_append_own (P := Try.prog) w 0 55 ty 3 i0 (.int .i64 0) 1 8 Try.underlying55 hi hz0 hz1 hz2 rfl (by decide) v _ _ hown ad ys.length c (UI ys) hl hnews h1 (by simp only [maxLen]; omega) (by omega) (by omega)
  refine ⟨v', w', hr, ?_, h3, ?_⟩
  · unfold OwnI; rw [List.length_append]; simpa [UI] using h2
  rcases hown.2 with ⟨rfl, hn⟩ | ⟨g, cap, cur, rfl, hbg, hg, hnc, hcm, hcs, htake⟩
  · have e := run_append_nil (P := Try.prog) w 55 ty 3 i0 _ Try.underlying55 hi hz0 ad ys.length c (UI ys) (by rw [hz1]; exact hl) hnews hm (by omega) (by rw [hz2]; omega)
    rw [hr] at e
    simp only [Result.ok.injEq] at e
    rw [e.1]
    exact .inr rfl
  · by_cases hroom : l.length + ys.length ≤ cap
    · have e := run_append_room (P := Try.prog) w 55 ty 3 i0 Try.underlying55 hi g l.length cap cur hg ad ys.length c (UI ys) (by rw [hz1]; exact hl) hnews h1 hroom (by rw [hz1, UI_length]; omega)
      rw [hr] at e
      simp only [Result.ok.injEq] at e
      rw [e.1]
      exact .inl rfl
    · have holds : ∀ j u, (UI l)[j]? = some u → w.cell? ((⟨g, 0, none⟩ : Addr).add j) = some u := World.ownsRow.cells (v := .slice (some ⟨g, 0, none⟩) l.length cap) hown (g := g) rfl
      have e := run_append_grow (P := Try.prog) w 55 ty 3 i0 _ Try.underlying55 hi hz0 ⟨g, 0, none⟩ l.length cap (UI l) (by rw [hz1, UI_length]; omega) holds ad ys.length c (UI ys) (by rw [hz1]; exact hl) hnews (by omega) (by omega) (growslice_fits (by omega) (by rw [hz2]; omega))
      rw [hr] at e
      simp only [Result.ok.injEq] at e
      rw [e.1]
      exact .inr rfl
/-- append(l, ys...). -/
theorem wpListIn_appI {F : Fence} {m : Nat} (w : World) {ops : Array Oper} {rest : List Oper} {o : Oper} {a : Act} {Q : Exit → Act → World → Prop} (hgd : o.guard = none) (s x : Operand)
    (hop : o.op = .call { callee := .builtin .append, args := #[s, x], argTypes := #[55, 55] }) (l ys : List Nat) (v : Value) (hs : a.eval s = v) (hown : OwnI w v l) (ad : Addr) (k c : Nat) (hx : a.eval x = .slice (some ad) k c) (hk : k = ys.length) (hm : 0 < ys.length)
    (hnews : ∀ j u, (UI ys)[j]? = some u → w.cell? (ad.add j) = some u) (hlen : l.length + ys.length ≤ 17592186044416)
    (hK : ∀ v' w', OwnI w' v' (l ++ ys) → w.grownBy w' v.ownBlock → (v'.ownBlock = v.ownBlock ∨ v'.ownBlock = some w.heap.size) → wpListIn F m Try.prog ops Q rest (a.put o.dst v') w') :
    wpListIn F m Try.prog ops Q (o :: rest) a w := by
  subst hk
  refine wpListIn_plain hgd fun K hK' => ?_
  obtain ⟨v', w', hrun, r1, r2, r3⟩ := appI_sep w o.type v l ys hown ad c hm hnews hlen
  unfold Oper.wpIn
  refine ⟨?_, ?_⟩
  · simp [Oper.about, hop, resolve, Target.leads, Sem.run_pure]
  · rw [Oper.semAt_plain F _ _ (by rw [hop]; intro c hc'; cases hc')]
    simp [execOp, hop, resolve, invoke, builtin, hs, hx, hrun, Result.andThen]
    exact hK' _ _ (hK v' w' r1 r2 r3)
end Go.Proofs.Ytaogjiffnebnkaa.Mk
set_option linter.unusedVariables false
set_option linter.unusedSimpArgs false
namespace Go.Proofs.Ytaogjiffnebnkaa.Mk
open Go.RowKit Go.Shelf
attribute [local go_sem] Oper.semAt_some
/-- The shape of nodes. -/
def shp (L : List Nd) : Sh := ⟨fun i => decide ((L.getD i nd0).kd = 2 ∨ (L.getD i nd0).kd = 3), fun i => (L.getD i nd0).lf.toNat, fun i => (L.getD i nd0).rt.toNat⟩
/-- All of them are right. -/
def Rgt (L : List Nd) : Prop := 0 < L.length ∧ ∀ i, i < L.length → rightB (L.getD i nd0) L.length = true
theorem Rgt.kids {L : List Nd} (h : Rgt L) {i : Nat} (hi : i < L.length) (hk : (shp L).K i = true) :
    ((L.getD i nd0).lf = ((shp L).A i : Nat) ∧ (shp L).A i < L.length ∧ 0 < (shp L).A i) ∧ ((L.getD i nd0).rt = ((shp L).B i : Nat) ∧ (shp L).B i < L.length ∧ 0 < (shp L).B i) := by
  have hr := h.2 i hi
  simp only [shp, decide_eq_true_eq] at hk ⊢
  generalize L.getD i nd0 = n at *
  unfold rightB spl at hr
  rcases hk with hk | hk
  · rw [if_neg (by omega), if_pos hk] at hr
    simp only [Bool.and_eq_true, decide_eq_true_eq] at hr
    omega
  · rw [if_neg (by omega), if_neg (by omega), if_pos hk] at hr
    simp only [Bool.and_eq_true, decide_eq_true_eq] at hr
    omega
theorem Rgt.wi {L : List Nd} (h : Rgt L) : In (shp L) L.length := ⟨h.1, fun i hi hk => ⟨(h.kids hi hk).1.2.1, (h.kids hi hk).2.2.1⟩⟩
/-- Kinds and children can be read, from blocks below n0. -/
def RdB (n0 : Nat) (w : World) (a : Option Addr) (L : List Nd) : Prop :=
  ∀ j, j < L.length → ∃ b o, a = some ⟨b, o, none⟩ ∧ b < n0 ∧ w.cell? ⟨b, o + j * 8, none⟩ = some (.int .u8 ((L.getD j nd0).kd : Nat)) ∧ w.cell? ⟨b, o + j * 8 + 6, none⟩ = some (.int .i64 (L.getD j nd0).lf) ∧ w.cell? ⟨b, o + j * 8 + 7, none⟩ = some (.int .i64 (L.getD j nd0).rt)
theorem RdB.same {n0 : Nat} {w w' : World} {a : Option Addr} {L : List Nd} (h : RdB n0 w a L) (k : ∀ g, g < n0 → w'.heap[g]? = w.heap[g]?) : RdB n0 w' a L := by
  intro j hj
  obtain ⟨b, o, e, hb, c0, c1, c2⟩ := h j hj
  have hk := k b hb
  exact ⟨b, o, e, hb, by rw [World.cell?_of_block (a := ⟨b, o + j * 8, none⟩) hk]; exact c0, by rw [World.cell?_of_block (a := ⟨b, o + j * 8 + 6, none⟩) hk]; exact c1, by rw [World.cell?_of_block (a := ⟨b, o + j * 8 + 7, none⟩) hk]; exact c2⟩
/-- Which have been met. -/
def mets (N : Nat) (out : List Nat) : List Bool := (List.range N).map fun j => decide (j ∈ out)
theorem mets_len (N : Nat) (out : List Nat) : (mets N out).length = N := by simp [mets]
theorem mets_get {N : Nat} {out : List Nat} {j : Nat} (h : j < N) : (mets N out).getD j false = decide (j ∈ out) := by simp [mets, List.getD, h]
theorem mets_nil (N : Nat) : mets N [] = List.replicate N false := by
  apply List.ext_getElem
  · simp [mets]
  · intro i h1 h2; simp [mets]
theorem mets_set {N : Nat} {out : List Nat} {i : Nat} (h : i < N) : (mets N out).set i true = mets N (out ++ [i]) := by
  apply List.ext_getElem
  · simp [mets]
  · intro j h1 h2
    simp only [mets, List.getElem_set, List.getElem_map, List.getElem_range]
    by_cases e : i = j
    · subst e; simp
    · rw [if_neg e]
      have : ¬ j = i := fun h => e h.symm
      simp [this]
abbrev nums {N : Nat} (xs : List (Fin N)) : List Nat := xs.map (·.val)
/-- What the iterator holds between two rounds. -/
structure Itr (L : List Nd) (n0 Bs gm : Nat) (a : Option Addr) (cap : Nat) (J : List (Fin L.length) → (Nat → Prop) → World → Prop) (f : Nat) (vw : Value) (wr : World) (out : List (Fin L.length)) (S : List Nat) (T : Nat → Prop) : Prop where
  own : OwnI wr vw S.reverse
  inT : ∀ b, vw.ownBlock = some b → T b
  row : RowB wr gm (mets L.length (nums out))
  gmT : T gm
  BsT : T Bs
  lt : ∀ g, T g → n0 ≤ g ∧ g < wr.heap.size
  j : J out T wr
  way : Way (shp L) L.length (nums out) S
  eq : go (shp L) f (nums out) S = ord (shp L) L.length
  fuel : 3 * (L.length - out.length) + S.length ≤ f
  top : f ≤ 3 * L.length + 1
  box : wr.cell? ⟨Bs, 0, none⟩ = some (.slice a L.length cap)
  rd : RdB n0 wr a L
end Go.Proofs.Ytaogjiffnebnkaa.Mk
