import Derived.Test.YtbchinfmdioijaaS50
import Derived.Test.YtbchinfmdioijaaS45
import Derived.Test.YtbchinfmdioijaaS26
import Derived.Test.YtbchinfmdioijaaS53
import Derived.Test.YtbchinfmdioijaaS9
import Derived.Test.YtbchinfmdioijaaS40
import Derived.Test.YtbchinfmdioijaaS41
import Derived.Test.YtbchinfmdioijaaS5
import Derived.Test.YtbchinfmdioijaaR6
set_option linter.unusedVariables false
set_option linter.unusedSimpArgs false
namespace Go.Proofs.Ytbchinfmdioijaa
open Go.RowKit Go.Shelf
theorem SpB.of {B : Nat} {w : World} {fa : Option Addr} {fs : List ByteArray} {cf : Nat} {ba : Option Addr} {bs : List Int} {cb : Nat} {ta : Option Addr} {ts : List (Int × List Nd)} {ct : Nat} {K : List (Int × Option Addr × Nat × Nat)} {CN CC : Nat}
    (hs : OwnS B w (.slice fa fs.length cf) fs) (hz : OwnZ 2 B w (.slice ba bs.length cb) bs) (hK : K.length = ts.length) (hap : ∀ i j, i < j → j < ts.length → ∀ b, (Value.slice (K.getD i tt0).2.1 0 0).ownBlock = some b → (Value.slice (K.getD j tt0).2.1 0 0).ownBlock ≠ some b) (ht : OwnT B w (.slice ta ts.length ct) K) (hl : ∀ j, j < ts.length → (K.getD j tt0).2.2.1 = (ts.getD j (0, [])).2.length)
    (hc : ∀ j, j < ts.length → CT w (fun b => B ≤ b ∧ b < w.heap.size) (K.getD j tt0).2.1 (K.getD j tt0).2.2.2 (ts.getD j (0, [])).2) (hn : ∀ j, j < ts.length → (ts.getD j (0, [])).2.length ≤ CN ∧ ∀ i, i < (ts.getD j (0, [])).2.length → ((ts.getD j (0, [])).2.getD i nd0).cs.length ≤ CC) :
    SpB (fun b => B ≤ b ∧ b < w.heap.size) w fs.length bs.length ts.length (.slice fa fs.length cf) (.slice ba bs.length cb) (.slice ta ts.length ct) ts.length (fun i => .slice (K.getD i tt0).2.1 (K.getD i tt0).2.2.1 (K.getD i tt0).2.2.2) (fun i => (K.getD i tt0).2.2.1) (fun _ => CN) (fun _ _ => CC) := by
  have ht' : w.ownsRow B 24 2 (.slice ta ts.length ct) ts.length (UT K) := by have := ht; unfold OwnT at this; rw [hK] at this; exact this
  obtain ⟨c1, h1, -⟩ := WS.of_own (M := fs.length) hs (fun g hg => World.ownsRow.lt hs g hg) (Nat.le_refl _)
  obtain ⟨c2, h2, -⟩ := WS.of_own (M := bs.length) hz (fun g hg => World.ownsRow.lt hz g hg) (Nat.le_refl _)
  obtain ⟨c3, h3, hx⟩ := WS.of_own (M := ts.length) ht' (fun g hg => World.ownsRow.lt ht g hg) (Nat.le_refl _)
  refine ⟨⟨_, c1, h1⟩, ⟨_, c2, h2⟩, ⟨c3, h3, fun i hi => ?_⟩, fun i hi => ?_, fun i j hi hj hij b hb => ?_⟩
  · rw [hx (i * 2 + 1) (by omega), UT_get K i 1 (by omega) (by omega)]; rfl
  · have h := NdW.of_ct (A := fun b => B ≤ b ∧ b < w.heap.size) (hc i hi) (fun _ h => h) (hn i hi).1 (hn i hi).2
    try simp only
    rw [hl i hi]; exact h
  · try simp only at hb ⊢
    rw [own_any _ _ _ 0 0] at hb ⊢
    rcases Nat.lt_or_gt_of_ne hij with h | h
    · exact hap i j h hj b hb
    · exact fun h2 => hap j i h hi b h2 hb
end Go.Proofs.Ytbchinfmdioijaa
set_option linter.unusedVariables false
set_option linter.unusedSimpArgs false
namespace Go.Proofs.Ytbchinfmdioijaa
open Go.RowKit Go.Shelf
/-- What Model answers, of whatever ensemble: its five fields. -/
def mlN (nm : ByteArray) (ts : List (Int × List Nd)) : ByteArray := if mdE ts = 0 then nm else ⟨#[]⟩
def mlF (fs : List ByteArray) (ts : List (Int × List Nd)) : List ByteArray := if mdE ts = 0 then fs else []
def mlO (N : Int) (ts : List (Int × List Nd)) : Int := if mdE ts = 0 then N else 0
def mlB (bs : List Int) (ts : List (Int × List Nd)) : List Int := if mdE ts = 0 then bs else []
def mlT (ts : List (Int × List Nd)) : List (Int × List Nd) := if mdE ts = 0 then mdT ts else []
theorem ml_post {nm : ByteArray} {fs : List ByteArray} {N : Int} {base : List Int} {ts : List (Int × List Nd)} {e : Ending} {w w' : World}
    (h : ((mdE ts = 0 ∧ ∃ fa' cf' ba' cb' ta' ct', e = .returned (.tuple #[ens nm fa' fs.length cf' N ba' base.length cb' ta' ts.length ct', .int .i64 0]) ∧ RdS w' fa' fs ∧ fs.length ≤ cf' ∧ RdI w' ba' base ∧ base.length ≤ cb' ∧ RdT w' ta' (mdT ts) ∧ ts.length ≤ ct') ∨ (mdE ts ≠ 0 ∧ e = .returned (.tuple #[ens ⟨#[]⟩ none 0 0 0 none 0 0 none 0 0, .int .i64 (mdE ts)]))) ∧ Keep w w') :
    ∃ fa' cf' ba' cb' ta' ct', e = .returned (.tuple #[ens (mlN nm ts) fa' (mlF fs ts).length cf' (mlO N ts) ba' (mlB base ts).length cb' ta' (mlT ts).length ct', .int .i64 (mdE ts)]) ∧ RdS w' fa' (mlF fs ts) ∧ RdI w' ba' (mlB base ts) ∧ RdT w' ta' (mlT ts) ∧ Keep w w' := by
  obtain ⟨h | ⟨h0, rfl⟩, k⟩ := h
  · obtain ⟨h0, fa', cf', ba', cb', ta', ct', rfl, h1, -, h2, -, h3, -⟩ := h
    have hl : (mdT ts).length = ts.length := by simp [mdT]
    refine ⟨fa', cf', ba', cb', ta', ct', ?_, ?_, ?_, ?_, k⟩
    · unfold mlN mlF mlO mlB mlT; rw [if_pos h0, if_pos h0, if_pos h0, if_pos h0, if_pos h0, h0, hl]
    · unfold mlF; rw [if_pos h0]; exact h1
    · unfold mlB; rw [if_pos h0]; exact h2
    · unfold mlT; rw [if_pos h0]; exact h3
  · refine ⟨none, 0, none, 0, none, 0, ?_, ?_, ?_, ?_, k⟩
    · unfold mlN mlF mlO mlB mlT; rw [if_neg h0, if_neg h0, if_neg h0, if_neg h0, if_neg h0]; rfl
    · unfold mlF; rw [if_neg h0]; intro j hj; simp at hj
    · unfold mlB; rw [if_neg h0]; intro j hj; simp at hj
    · unfold mlT; rw [if_neg h0]; intro j hj; simp at hj
theorem ml_len {fs : List ByteArray} {base : List Int} {ts : List (Int × List Nd)} (h1 : fs.length ≤ 8796093022208) (h2 : base.length ≤ 17592186044416) (h3 : ts.length ≤ 4398046511104) : (mlF fs ts).length ≤ 8796093022208 ∧ (mlB base ts).length ≤ 17592186044416 ∧ (mlT ts).length ≤ 4398046511104 := by
  unfold mlF mlB mlT
  split
  · refine ⟨h1, h2, ?_⟩
    simp [mdT]; exact h3
  · simp
end Go.Proofs.Ytbchinfmdioijaa
set_option linter.unusedVariables false
set_option linter.unusedSimpArgs false
namespace Go.Proofs.Ytbchinfmdioijaa
open Go.RowKit Go.Shelf
/-- Blocks of P alone have turned, beside new ones. -/
structure Oth (P : Nat → Prop) (w w' : World) : Prop where
  os : w'.os = w.os
  tape : w'.tape = w.tape
  output : w'.output = w.output
  size : w.heap.size ≤ w'.heap.size
  blk : ∀ b, b < w.heap.size → ¬ P b → w'.heap[b]? = w.heap[b]?
section
variable {P Q : Nat → Prop} {a w w' w'' : World}
theorem Oth.refl (P : Nat → Prop) (w : World) : Oth P w w := ⟨rfl, rfl, rfl, Nat.le_refl _, fun _ _ _ => rfl⟩
theorem Oth.trans (h : Oth P w w') (k : Oth P w' w'') : Oth P w w'' := ⟨k.os.trans h.os, k.tape.trans h.tape, k.output.trans h.output, Nat.le_trans h.size k.size, fun b hb hn => (k.blk b (Nat.lt_of_lt_of_le hb h.size) hn).trans (h.blk b hb hn)⟩
theorem Oth.of_keep (k : Keep w w') : Oth P w w' := ⟨k.os, k.tape, k.output, k.size, fun b hb _ => k.block b hb⟩
theorem Oth.of_one {g : Nat} (k : One g w w') (h : P g ∨ w.heap.size ≤ g) : Oth P w w' := ⟨k.os, k.tape, k.output, k.size, fun b hb hn => k.oth b hb (fun e => by
  rcases h with h | h
  · exact hn (e ▸ h)
  · omega)⟩
theorem Oth.mono (h : Oth P w w') (hP : ∀ b, b < w.heap.size → P b → Q b) : Oth Q w w' := ⟨h.os, h.tape, h.output, h.size, fun b hb hn => h.blk b hb (fun hp => hn (hP b hb hp))⟩
theorem Oth.keep (h : Oth P w w') (k : Keep a w) (hP : ∀ b, P b → a.heap.size ≤ b) : Keep a w' :=
  ⟨h.os.trans k.os, h.tape.trans k.tape, h.output.trans k.output, Nat.le_trans k.size h.size, fun b hb => (h.blk b (Nat.lt_of_lt_of_le hb k.size) (fun hp => by have := hP b hp; omega)).trans (k.block b hb)⟩
end
theorem Oth.one {P : Nat → Prop} {w w' w'' : World} {g : Nat} (h : Oth P w w') (k : One g w' w'') (hg : P g ∨ w.heap.size ≤ g) : Oth P w w'' := ⟨k.os.trans h.os, k.tape.trans h.tape, k.output.trans h.output, Nat.le_trans h.size k.size, fun b hb hn => (k.oth b (Nat.lt_of_lt_of_le hb h.size) (fun e => by
  rcases hg with hg | hg
  · exact hn (e ▸ hg)
  · omega)).trans (h.blk b hb hn)⟩
/-- A list of numbers all of which have been written over so far. -/
def LW (A : Nat → Prop) (w : World) (v : Value) (n k : Nat) (x : Int) : Prop := ∃ cur, WS A w 3 1 n v n cur ∧ ∀ i, i < k → cur[i]? = some (.int .i64 x)
theorem LW.set {A : Nat → Prop} {w : World} {g n cap k : Nat} {x : Int} (h : LW A w (.slice (some ⟨g, 0, none⟩) n cap) n k x) (hk : k < n) : LW A (w.setCell ⟨g, k, none⟩ (.int .i64 x)) (.slice (some ⟨g, 0, none⟩) n cap) n (k + 1) x := by
  obtain ⟨cur, h1, h2⟩ := h
  have hs := h1.room.1
  refine ⟨_, h1.set k (.int .i64 x), fun i hi => ?_⟩
  simp only [Array.getElem?_setIfInBounds]
  by_cases e : k = i
  · rw [if_pos e, if_pos (by omega)]
  · rw [if_neg e]; exact h2 i (by omega)
theorem LW.same {A : Nat → Prop} {w w' : World} {v : Value} {n k : Nat} {x : Int} (h : LW A w v n k x) (hs : ∀ b, v.ownBlock = some b → w'.heap[b]? = w.heap[b]?) : LW A w' v n k x := by
  obtain ⟨cur, h1, h2⟩ := h
  exact ⟨cur, h1.same hs, h2⟩
theorem LW.one {A : Nat → Prop} {w w' : World} {v : Value} {n k g : Nat} {x : Int} (h : LW A w v n k x) (hO : One g w w') (hne : v.ownBlock ≠ some g) : LW A w' v n k x := by
  obtain ⟨cur, h1, h2⟩ := h
  exact ⟨cur, h1.same (fun b hb => hO.oth b (Array.getElem?_eq_some_iff.1 (h1.blk hb).2).1 (fun e => hne (by rw [hb, e]))), h2⟩
theorem LW.at {A : Nat → Prop} {w : World} {g n cap k : Nat} {x : Int} (h : LW A w (.slice (some ⟨g, 0, none⟩) n cap) n k x) {i : Nat} (hi : i < n) : (∃ u, w.cell? ⟨g, i, none⟩ = some u) ∧ w.frozen? ⟨g, i, none⟩ = false ∧ A g ∧ (i < k → w.cell? ⟨g, i, none⟩ = some (.int .i64 x)) := by
  obtain ⟨cur, h1, h2⟩ := h
  obtain ⟨u, e, hc, hf⟩ := h1.at (i := i) (by omega)
  refine ⟨⟨u, hc⟩, hf, (h1.blk rfl).1, fun hk => ?_⟩
  rw [hc, ← h2 i hk, e]
theorem wpList_appLW {A : Nat → Prop} {w : World} {ops : Array Oper} {rest : List Oper} {o : Oper} {a : Act} {Q : Exit → Act → World → Prop} (hgd : o.guard = none) (s x : Operand)
    (hop : o.op = .call { callee := .builtin .append, args := #[s, x], argTypes := #[29, 29] }) (n k : Nat) (y : Int) (v : Value) (hs : a.eval s = v) (hr : LW A w v n k y) (hkn : k ≤ n) (hA : ∀ b, w.heap.size ≤ b → A b) (ad : Addr) (m c : Nat) (hx : a.eval x = .slice (some ad) m c) (hm : 0 < m) (ys : List Value) (hl : ys.length = m) (hnews : ∀ j u, ys[j]? = some u → w.cell? (ad.add j) = some u) (h1 : ∀ u ∈ ys, u.oneCell' = true) (hn : n + m ≤ 17592186044500)
    (hK : ∀ g' cap' w', LW A w' (.slice (some ⟨g', 0, none⟩) (n + m) cap') (n + m) k y → One g' w w' → (v.ownBlock = some g' ∨ w.heap.size ≤ g') → wpList Try.prog ops Q rest (a.put o.dst (.slice (some ⟨g', 0, none⟩) (n + m) cap')) w') :
    wpList Try.prog ops Q (o :: rest) a w := by
  refine wpList_plain hgd fun K hK' => ?_
  obtain ⟨cur, hw, hcur⟩ := hr
  obtain ⟨g', cap', cur', w', hrun, r1, r2, r3, p1, -, r4⟩ := appWS_run Try.underlying29 i3 rfl w o.type n n v cur hw hA ad m c hm ys (by omega) hnews h1 (by omega) (by omega)
  unfold Oper.wp
  simp [execOp, hop, resolve, invoke, builtin, hs, hx, hrun, Result.andThen]
  refine hK' _ _ (hK g' cap' w' ⟨cur', r1, fun i hi => by rw [p1 i (by omega)]; exact hcur i hi⟩ r3 ?_)
  rcases r4 with ⟨h1, -, -⟩ | h
  · exact .inl h1
  · exact .inr (by omega)
theorem LW.of {A : Nat → Prop} {w : World} {v : Value} {l : List Nat} (h : OwnI w v l) (hA : ∀ g, v.ownBlock = some g → A g) (x : Int) : LW A w v l.length 0 x := by
  obtain ⟨cur, hw, -⟩ := WS.of_own (M := l.length) h hA (Nat.le_refl _)
  exact ⟨cur, hw, fun i hi => by omega⟩
theorem LW.shape {A : Nat → Prop} {w : World} {v : Value} {n k : Nat} {x : Int} (h : LW A w v n k x) : ∃ a c, v = .slice a n c ∧ (0 < n → ∃ g, a = some ⟨g, 0, none⟩) := by
  obtain ⟨cur, h1, -⟩ := h
  exact h1.shape
theorem LW.blk {A : Nat → Prop} {w : World} {v : Value} {n k : Nat} {x : Int} (h : LW A w v n k x) {b : Nat} (hb : v.ownBlock = some b) : A b ∧ b < w.heap.size := by
  obtain ⟨cur, h1, -⟩ := h
  exact ⟨(h1.blk hb).1, (Array.getElem?_eq_some_iff.1 (h1.blk hb).2).1⟩
theorem LW.keep {A : Nat → Prop} {w w' : World} {v : Value} {n k : Nat} {x : Int} (h : LW A w v n k x) (kk : Keep w w') : LW A w' v n k x := h.same (fun b hb => kk.block b (h.blk hb).2)
theorem wyL_le {L : List Nd} {xs : List Nat} (hLn : L.length ≤ 2199023255552) : (wyL L xs).length ≤ 17592186044416 := by
  unfold wyL
  split
  · rename_i h
    obtain ⟨l, -, -, -, h4⟩ := way_last (xs := xs) (wyE_ok h).1
    omega
  · simp
theorem rSame_self (nm : ByteArray) (fa1 : Option Addr) (fs : List ByteArray) (cf1 : Nat) (N : Int) (ba1 : Option Addr) (bs : List Int) (cb1 : Nat) (ta1 : Option Addr) (ts : List (Int × List Nd)) (ct1 : Nat) (fa2 : Option Addr) (cf2 : Nat) (ba2 : Option Addr) (cb2 : Nat) (ta2 : Option Addr) (ct2 : Nat) (w : World)
    (hf1 : RdS w fa1 fs) (hfl : fs.length ≤ 8796093022208) (hb1 : RdI w ba1 bs) (hbl : bs.length ≤ 17592186044416) (ht1 : RdT w ta1 ts) (htl : ts.length ≤ 4398046511104) (hf2 : RdS w fa2 fs) (hb2 : RdI w ba2 bs) (ht2 : RdT w ta2 ts) :
    Calls Try.prog 32 #[ens nm fa1 fs.length cf1 N ba1 bs.length cb1 ta1 ts.length ct1, ens nm fa2 fs.length cf2 N ba2 bs.length cb2 ta2 ts.length ct2] w fun e w' => e = .returned (.bool true) ∧ Keep w w' := by
  have h := rSame_any nm fa1 fs cf1 N ba1 bs cb1 ta1 ts ct1 nm fa2 fs cf2 N ba2 bs cb2 ta2 ts ct2 w hf1 hfl hb1 hbl ht1 htl hf2 hb2 ht2
  rw [@decide_eq_true (EnsEq nm fs N bs ts nm fs N bs ts) (Classical.propDecidable _) ⟨rfl, rfl, rfl, rfl, rfl⟩] at h
  exact h
theorem scS_bad {F : Nat} {N : Int} {base : List Int} {ts : List (Int × List Nd)} {xs : List Nat} (h : (scS F N base ts xs).2 ≠ 0) : (scS F N base ts xs).1 = [] := by
  have hF : ∀ (ts : List (Int × List Nd)) (s : List Int), (scF N xs ts s).2 ≠ 0 → (scF N xs ts s).1 = [] := by
    intro ts
    induction ts with
    | nil => intro s h; exact absurd rfl h
    | cons t ts ih =>
      intro s h
      rw [scF] at h ⊢
      split at h
      · rename_i h0; rw [if_pos h0]; exact ih _ h
      · rename_i h0; rw [if_neg h0]
  unfold scS at h ⊢
  split
  · rfl
  · rename_i h0
    rw [if_neg h0] at h
    split
    · rfl
    · rename_i h1
      rw [if_neg h1] at h
      exact hF _ _ h
theorem spoil_oth {A : Nat → Prop} (w : World) (nm : ByteArray) (N : Int) (fa ba ta : Option Addr) (F cf b cb T ct : Nat) (MF MB MT : Nat) (nv : Nat → Value) (nn MN : Nat → Nat) (bc : Nat → Nat → Nat) (hA : ∀ b, w.heap.size ≤ b → A b)
    (h : SpB A w MF MB MT (.slice fa F cf) (.slice ba b cb) (.slice ta T ct) T nv nn MN bc) (hMF : MF ≤ 8796093022208) (hMB : MB ≤ 17592186044416) (hMT : MT ≤ 4398046511104) (hMN : ∀ i, i < T → MN i ≤ 1759218604441 ∧ ∀ k, bc i k ≤ 17592186044416) :
    Calls Try.prog 41 #[ens nm fa F cf N ba b cb ta T ct] w fun e w' => e = .returned (.tuple #[]) ∧ Oth A w w' :=
  (spoil_any w nm N fa ba ta F cf b cb T ct MF MB MT nv nn MN bc hA h hMF hMB hMT hMN).mono fun e w' ⟨h1, h2, h3, h4, h5, h6⟩ => ⟨h1, h2, h3, h4, h5, h6⟩
theorem cnoN_le (L : List Nd) : (cnoN L).length ≤ L.length := by
  unfold cnoN
  split
  · rename_i h
    unfold cnoL
    have := ord_len (shE_rgt h).wi
    rw [List.length_map]
    omega
  · simp
/-- A copy that can be spoilt. -/
theorem Copy_sp (nm : ByteArray) (fa : Option Addr) (fs : List ByteArray) (cf : Nat) (N : Int) (ba : Option Addr) (base : List Int) (cb : Nat) (ta : Option Addr) (ts : List (Int × List Nd)) (ct : Nat) (w : World)
    (hnm : nm.size ≤ 281474976710656) (hf : RdS w fa fs) (hfz : ∀ j, j < fs.length → (fs.getD j ByteArray.empty).size ≤ 281474976710656) (hfl : fs.length ≤ 8796093022208) (hb : RdI w ba base) (hbc : base.length ≤ cb) (hbl : base.length ≤ 17592186044416) (ht : RdT w ta ts) (htl : ts.length ≤ 4398046511104) (hts : ∀ j, j < ts.length → (ts.getD j (0, [])).2.length ≤ 1759218604441) :
    Calls Try.prog 36 #[ens nm fa fs.length cf N ba base.length cb ta ts.length ct] w fun e w' => ∃ fa' cf' ba' cb' ta' ct', e = .returned (ens nm fa' fs.length cf' N ba' base.length cb' ta' ts.length ct') ∧ Keep w w' ∧ ∃ nv nn MN bc, SpB (fun b => w.heap.size ≤ b ∧ b < w'.heap.size) w' fs.length base.length ts.length (.slice fa' fs.length cf') (.slice ba' base.length cb') (.slice ta' ts.length ct') ts.length nv nn MN bc ∧ ∀ i, i < ts.length → MN i ≤ 1759218604441 ∧ ∀ k, bc i k ≤ 17592186044416 := by
  refine (Copy_own nm fa fs cf N ba base cb ta ts ct w hnm hf hfz hfl hb hbc hbl ht htl hts).mono ?_
  rintro e w' ⟨fa', cf', ba', cb', ta', ct', rfl, -, -, -, -, -, -, k, oF, oB, K, hK, hap, oT, hl, hC⟩
  refine ⟨fa', cf', ba', cb', ta', ct', rfl, k, _, _, _, _, SpB.of (CN := 1759218604441) (CC := 17592186044416) oF oB hK hap oT hl hC (fun j hj => ⟨hts j hj, fun i hi => ((ht.fits j hj).1 i hi).1⟩), fun i _ => ⟨Nat.le_refl _, fun _ => Nat.le_refl _⟩⟩
/-- A model that can be spoilt. -/
theorem Model_sp (nm : ByteArray) (fa : Option Addr) (fs : List ByteArray) (cf : Nat) (N : Int) (ba : Option Addr) (base : List Int) (cb : Nat) (ta : Option Addr) (ts : List (Int × List Nd)) (ct : Nat) (w : World)
    (hnm : nm.size ≤ 281474976710656) (hf : RdS w fa fs) (hfz : ∀ j, j < fs.length → (fs.getD j ByteArray.empty).size ≤ 281474976710656) (hfl : fs.length ≤ 8796093022208) (hb : RdI w ba base) (hbc : base.length ≤ cb) (hbl : base.length ≤ 17592186044416) (ht : RdT w ta ts) (htl : ts.length ≤ 4398046511104) (hts : ∀ j, j < ts.length → (ts.getD j (0, [])).2.length ≤ 1759218604441) :
    Calls Try.prog 33 #[ens nm fa fs.length cf N ba base.length cb ta ts.length ct] w fun e w' => ∃ fa' cf' ba' cb' ta' ct', e = .returned (.tuple #[ens (mlN nm ts) fa' (mlF fs ts).length cf' (mlO N ts) ba' (mlB base ts).length cb' ta' (mlT ts).length ct', .int .i64 (mdE ts)]) ∧ Keep w w' ∧ ∃ nv nn MN bc, SpB (fun b => w.heap.size ≤ b ∧ b < w'.heap.size) w' (mlF fs ts).length (mlB base ts).length (mlT ts).length (.slice fa' (mlF fs ts).length cf') (.slice ba' (mlB base ts).length cb') (.slice ta' (mlT ts).length ct') (mlT ts).length nv nn MN bc ∧ ∀ i, i < (mlT ts).length → MN i ≤ 1759218604441 ∧ ∀ k, bc i k ≤ 17592186044416 := by
  refine (Model_own nm fa fs cf N ba base cb ta ts ct w hnm hf hfz hfl hb hbc hbl ht htl).mono ?_
  have hml : (mdT ts).length = ts.length := by simp [mdT]
  rintro e w' ⟨⟨h0, fa', cf', ba', cb', ta', ct', rfl, -, -, -, -, hrT, -, oF, oB, K, hK, hap, oT, hl, hC⟩ | ⟨h0, rfl⟩, k⟩
  · have e1 : mlN nm ts = nm := by unfold mlN; rw [if_pos h0]
    have e2 : mlF fs ts = fs := by unfold mlF; rw [if_pos h0]
    have e3 : mlO N ts = N := by unfold mlO; rw [if_pos h0]
    have e4 : mlB base ts = base := by unfold mlB; rw [if_pos h0]
    have e5 : mlT ts = mdT ts := by unfold mlT; rw [if_pos h0]
    rw [e1, e2, e3, e4, e5, h0, hml]
    refine ⟨fa', cf', ba', cb', ta', ct', rfl, k, ?_⟩
    rw [← hml] at hK hap oT hl hC ⊢
    refine ⟨_, _, _, _, SpB.of (CN := 1759218604441) (CC := 17592186044416) oF oB hK hap oT hl hC (fun j hj => ⟨?_, fun i hi => ((hrT.fits j hj).1 i hi).1⟩), fun i _ => ⟨Nat.le_refl _, fun _ => Nat.le_refl _⟩⟩
    rw [hml] at hj
    rw [mdT_at hj (out := (ts.getD j (0, [])).1) (L := (ts.getD j (0, [])).2) rfl]
    exact Nat.le_trans (cnoN_le _) (hts j hj)
  · have e1 : mlN nm ts = ⟨#[]⟩ := by unfold mlN; rw [if_neg h0]
    have e2 : mlF fs ts = [] := by unfold mlF; rw [if_neg h0]
    have e3 : mlO N ts = 0 := by unfold mlO; rw [if_neg h0]
    have e4 : mlB base ts = [] := by unfold mlB; rw [if_neg h0]
    have e5 : mlT ts = [] := by unfold mlT; rw [if_neg h0]
    rw [e1, e2, e3, e4, e5]
    exact ⟨none, 0, none, 0, none, 0, rfl, k, _, _, _, _, SpB.none _ _, fun i hi => by simp at hi⟩
/-- What the reference's Model answers lies in new blocks. -/
theorem rModel_in (nm : ByteArray) (fa : Option Addr) (fs : List ByteArray) (cf : Nat) (N : Int) (ba : Option Addr) (base : List Int) (cb : Nat) (ta : Option Addr) (ts : List (Int × List Nd)) (ct : Nat) (w : World)
    (hf : RdS w fa fs) (hfl : fs.length ≤ 8796093022208) (hb : RdI w ba base) (hbl : base.length ≤ 17592186044416) (ht : RdT w ta ts) (htl : ts.length ≤ 4398046511104) (hts : ∀ j, j < ts.length → (ts.getD j (0, [])).2.length ≤ 1759218604441) :
    Calls Try.prog 34 #[ens nm fa fs.length cf N ba base.length cb ta ts.length ct] w fun e w' => ∃ fa' cf' ba' cb' ta' ct', e = .returned (.tuple #[ens (mlN nm ts) fa' (mlF fs ts).length cf' (mlO N ts) ba' (mlB base ts).length cb' ta' (mlT ts).length ct', .int .i64 (mdE ts)]) ∧ Keep w w' ∧ EnsIn (fun b => w.heap.size ≤ b ∧ b < w'.heap.size) w' fa' (mlF fs ts) cf' ba' (mlB base ts) cb' ta' (mlT ts) ct' := by
  refine (rModel_own nm fa fs cf N ba base cb ta ts ct w hf hfl hb hbl ht htl hts).mono ?_
  have hml : (mdT ts).length = ts.length := by simp [mdT]
  rintro e w' ⟨⟨h0, fa', cf', ba', cb', ta', ct', rfl, hE⟩ | ⟨h0, rfl⟩, k⟩
  · have e1 : mlN nm ts = nm := by unfold mlN; rw [if_pos h0]
    have e2 : mlF fs ts = fs := by unfold mlF; rw [if_pos h0]
    have e3 : mlO N ts = N := by unfold mlO; rw [if_pos h0]
    have e4 : mlB base ts = base := by unfold mlB; rw [if_pos h0]
    have e5 : mlT ts = mdT ts := by unfold mlT; rw [if_pos h0]
    rw [e1, e2, e3, e4, e5, h0, hml]
    exact ⟨fa', cf', ba', cb', ta', ct', rfl, k, hE⟩
  · have e1 : mlN nm ts = ⟨#[]⟩ := by unfold mlN; rw [if_neg h0]
    have e2 : mlF fs ts = [] := by unfold mlF; rw [if_neg h0]
    have e3 : mlO N ts = 0 := by unfold mlO; rw [if_neg h0]
    have e4 : mlB base ts = [] := by unfold mlB; rw [if_neg h0]
    have e5 : mlT ts = [] := by unfold mlT; rw [if_neg h0]
    rw [e1, e2, e3, e4, e5]
    exact ⟨none, 0, none, 0, none, 0, rfl, k, EnsIn.none _ _⟩
/-- What the reference's Copy answers lies in new blocks. -/
theorem rCopy_in (nm : ByteArray) (fa : Option Addr) (fs : List ByteArray) (cf : Nat) (N : Int) (ba : Option Addr) (base : List Int) (cb : Nat) (ta : Option Addr) (ts : List (Int × List Nd)) (ct : Nat) (w : World)
    (hf : RdS w fa fs) (hfl : fs.length ≤ 8796093022208) (hb : RdI w ba base) (hbl : base.length ≤ 17592186044416) (ht : RdT w ta ts) (htl : ts.length ≤ 4398046511104) (hts : ∀ j, j < ts.length → (ts.getD j (0, [])).2.length ≤ 1759218604441) :
    Calls Try.prog 28 #[ens nm fa fs.length cf N ba base.length cb ta ts.length ct] w fun e w' => ∃ fa' cf' ba' cb' ta' ct', e = .returned (ens nm fa' fs.length cf' N ba' base.length cb' ta' ts.length ct') ∧ Keep w w' ∧ EnsIn (fun b => w.heap.size ≤ b ∧ b < w'.heap.size) w' fa' fs cf' ba' base cb' ta' ts ct' := by
  refine (rCopy_sep nm fa fs cf N ba base cb ta ts ct w hf hfl hb hbl ht htl hts).mono ?_
  rintro e w' ⟨fa', cf', ba', cb', ta', ct', rfl, -, -, -, -, hrT, -, k, oF, oB, -, K, hK, oT, he, hC⟩
  exact ⟨fa', cf', ba', cb', ta', ct', rfl, k, EnsIn.of oF oB hK oT he (fun j hj => (hC j hj).same (fun _ _ => rfl) (fun b hb => ⟨hb.1, hb.2.1⟩)) hrT.fits⟩
end Go.Proofs.Ytbchinfmdioijaa
