import Derived.Test.YtaogjiffnebnkaaSB
import Derived.Test.YtaogjiffnebnkaaKYT5
import Derived.Test.YtaogjiffnebnkaaKM3
import Derived.Test.YtaogjiffnebnkaaKYT6
import Derived.Sort.LoopGhostIn
import Derived.Stop.RegionWithIn
import Derived.Deep.QuietTactic
import Derived.BigQuiet
set_option linter.unusedVariables false
set_option linter.unusedSimpArgs false
namespace Go.Proofs.Ytaogjiffnebnkaa
open Go.RowKit Go.Shelf Go.Maps
open Mk (SeqT more Kpt postT wp_rangeT)
attribute [local go_sem] Oper.semAt_some run_store_float
/-- A node as it lies: block, offset, categories' address, their cap, the node. -/
abbrev NdW (w0 : World) : Type := { x : Nat × Nat × Option Addr × Nat × Nd // NdAt w0 x.1 x.2.1 x.2.2.2.2 x.2.2.1 x.2.2.2.1 }
def ndP {w0 : World} (x : NdW w0) : Array Value := #[Value.pointer (some ⟨x.1.1, x.1.2.1, none⟩)]
def ndV {w0 : World} (x : NdW w0) : Nd := x.1.2.2.2.2
/-- The nodes of a kind that ask for a feature. -/
def isN (kd : Nat) (f : Int) (d : Nd) : Bool := d.kd == kd && d.ft == f
def nsel (ts : List (Int × List Nd)) (kd : Nat) (f : Int) : List Nd := ts.flatMap fun t => t.2.filter (isN kd f)
theorem nsel_snoc (ts : List (Int × List Nd)) (t : Int × List Nd) (kd : Nat) (f : Int) : nsel (ts ++ [t]) kd f = nsel ts kd f ++ t.2.filter (isN kd f) := by
  unfold nsel; rw [List.flatMap_append]; simp
theorem nsel_thr (ts : List (Int × List Nd)) (f : Int) : (nsel ts 2 f).map (·.th) = thr ts f := by
  unfold nsel thr
  rw [List.map_flatMap]
  have h : isN 2 f = fun d => d.kd == 2 && d.ft == f := rfl
  rw [h]
theorem nsel_lt {ts : List (Int × List Nd)} {kd : Nat} {f : Int} {k i : Nat} (hk : k < ts.length) (hi : i < (ts.getD k (0, [])).2.length) (h : isN kd f ((ts.getD k (0, [])).2.getD i nd0) = true) :
    (nsel (ts.take k) kd f ++ ((ts.getD k (0, [])).2.take i).filter (isN kd f)).length < (nsel ts kd f).length := by
  have e : ts.getD k (0, []) = ts[k] := by simp [List.getD, hk]
  rw [e] at hi h ⊢
  have e2 : ts[k].2.getD i nd0 = ts[k].2[i] := by simp [List.getD, hi]
  rw [e2] at h
  have hs : ts = ts.take k ++ (ts[k] :: ts.drop (k + 1)) := by rw [← List.drop_eq_getElem_cons hk, List.take_append_drop]
  have h1 : nsel ts kd f = nsel (ts.take k) kd f ++ (ts[k].2.filter (isN kd f) ++ nsel (ts.drop (k + 1)) kd f) := by
    conv => lhs; rw [hs]
    unfold nsel
    rw [List.flatMap_append, List.flatMap_cons]
  have h2 : ts[k].2.filter (isN kd f) = (ts[k].2.take i).filter (isN kd f) ++ (ts[k].2[i] :: (ts[k].2.drop (i + 1)).filter (isN kd f)) := by
    conv => lhs; rw [← List.take_append_drop i ts[k].2, List.drop_eq_getElem_cons hi, List.filter_append, List.filter_cons]
    rw [if_pos h]
  rw [h1, h2]
  simp only [List.length_append, List.length_cons]
  omega
theorem filter_take {L : List Nd} {p : Nd → Bool} {i : Nat} (hi : i < L.length) : (L.take (i + 1)).filter p = (L.take i).filter p ++ (if p (L.getD i nd0) = true then [L.getD i nd0] else []) := by
  have e2 : L.getD i nd0 = L[i] := by simp [List.getD, hi]
  rw [List.take_succ_eq_append_getElem hi, List.filter_append, e2]
  congr 1
  rw [List.filter_cons, List.filter_nil]
theorem Keep.stp {T : Nat → Prop} {A B : World} (h : Keep A B) : Mk.Stp T A B := ⟨h.os, h.tape, h.output, h.size, fun g hg _ => h.block g hg⟩
/-- What the iterator holds. -/
structure NSt (kd : Nat) (f : Int) (w0 : World) (p1 p2 p3 : Nat) (a : Option Addr) (n cap : Nat) (J : List (NdW w0) → (Nat → Prop) → World → Prop) (wr : World) (out : List (NdW w0)) (T : Nat → Prop) (M : List Nd) : Prop where
  j : J out T wr
  lt : ∀ g, T g → w0.heap.size ≤ g ∧ g < wr.heap.size
  eq : out.map ndV = M
  be : Keep w0 wr
  t1 : T p1
  t2 : T p2
  t3 : T p3
  b1 : wr.cell? ⟨p1, 0, none⟩ = some (.slice a n cap)
  b2 : wr.cell? ⟨p2, 0, none⟩ = some (.int .u8 (kd : Nat))
  b3 : wr.cell? ⟨p3, 0, none⟩ = some (.int .i64 f)
theorem NSt.step {kd : Nat} {f : Int} {w0 : World} {p1 p2 p3 : Nat} {a : Option Addr} {n cap : Nat} {J : List (NdW w0) → (Nat → Prop) → World → Prop} {wr : World} {out : List (NdW w0)} {T : Nat → Prop} {M : List Nd} (h : NSt kd f w0 p1 p2 p3 a n cap J wr out T M)
    (hJ1 : ∀ pre T A B, J pre T A → Mk.Stp T A B → J pre (Mk.more T A B) B) {B : World} (k : Keep wr B) : NSt kd f w0 p1 p2 p3 a n cap J B out (Mk.more T wr B) M := by
  refine ⟨hJ1 _ _ _ _ h.j (Keep.stp k), ?_, h.eq, h.be.trans k, .inl h.t1, .inl h.t2, .inl h.t3, k.cell h.b1, k.cell h.b2, k.cell h.b3⟩
  rintro g (q | q)
  · have := h.lt g q; have := k.le; omega
  · have := h.be.le; omega
theorem Kpt.at {n0 : Nat} {T : Nat → Prop} {A B : World} (h : Mk.Kpt n0 T A B) {g o : Nat} (ht : T g) {v : Value} (hc : A.cell? ⟨g, o, none⟩ = some v) : B.cell? ⟨g, o, none⟩ = some v := by
  have := World.block_lt_of_cell? A _ hc
  rw [World.cell?_of_block (a := ⟨g, o, none⟩) (h.block g this (.inr ht))]
  exact hc
theorem NSt.yld {kd : Nat} {f : Int} {w0 : World} {p1 p2 p3 : Nat} {a : Option Addr} {n cap : Nat} {J : List (NdW w0) → (Nat → Prop) → World → Prop} {wr : World} {out : List (NdW w0)} {T : Nat → Prop} {M : List Nd} (h : NSt kd f w0 p1 p2 p3 a n cap J wr out T M)
    {B : World} {x : NdW w0} (hj : J (out ++ [x]) T B) (k : Mk.Kpt w0.heap.size T wr B) : NSt kd f w0 p1 p2 p3 a n cap J B (out ++ [x]) T (M ++ [ndV x]) := by
  have sz := k.size
  refine ⟨hj, fun g hg => ?_, by rw [List.map_append, h.eq]; rfl, ?_, h.t1, h.t2, h.t3, Kpt.at k h.t1 h.b1, Kpt.at k h.t2 h.b2, Kpt.at k h.t3 h.b3⟩
  · have := h.lt g hg; omega
  · exact ⟨k.os.trans h.be.os, k.tape.trans h.be.tape, k.output.trans h.be.output, by have := h.be.size; omega, fun g hg => (k.block g (by have := h.be.size; omega) (.inl hg)).trans (h.be.block g hg)⟩
theorem nodes_in (n : Nat) (a : Option Addr) (len cap : Nat) (kd : Nat) (f : Int) (w : World) :
    CallsIn Fence.wide n Try.prog 47 #[.slice a len cap, .int .u8 (kd : Nat), .int .i64 f] w fun e w' => e = .returned (.func (.func 68) #[] #[.pointer (some ⟨w.heap.size, 0, none⟩), .pointer (some ⟨w.heap.size + 1, 0, none⟩), .pointer (some ⟨w.heap.size + 1 + 1, 0, none⟩)]) ∧ w' = ((w.alloc (.cells #[.slice a len cap] 22)).alloc (.cells #[.int .u8 (kd : Nat)] 80)).alloc (.cells #[.int .i64 f] 3) := by
  refine callsIn_of_wp Try.func47 rfl trivial ?_ rfl
  simp only [Try.ntmps47, List.size_toArray, List.length_cons, List.length_nil, Nat.reduceAdd, Nat.reduceSub, Array.replicate_succ, Array.replicate_zero, List.push_toArray, List.append_toArray, List.nil_append, List.cons_append]
  gi_wp2
  go_ret
  exact ⟨rfl, rfl⟩
end Go.Proofs.Ytaogjiffnebnkaa
set_option linter.unusedVariables false
set_option linter.unusedSimpArgs false
namespace Go.Proofs.Ytaogjiffnebnkaa
open Go.RowKit Go.Shelf Go.Maps
open Mk (SeqT more Kpt postT wp_rangeT)
attribute [local go_sem] Oper.semAt_some run_store_float
theorem wrap_u1 {k n : Nat} (h : n ≤ 17592186044416) (h1 : k + 1 ≤ n) : wrap64 ((k : Int) + 1) = ((k + 1 : Nat) : Int) := by
  unfold wrap64; omega
theorem beq_u8 {x y : Nat} (h : x ≠ y) : (((x : Nat) : Int) == ((y : Nat) : Int)) = false := by rw [beq_eq_false_iff_ne]; omega
set_option maxRecDepth 100000 in
set_option maxHeartbeats 2000000 in
theorem ns_in (w0 : World) (n : Nat) (hn : 1 ≤ n) (y p1 p2 p3 : Nat) (a : Option Addr) (cap : Nat) (ts : List (Int × List Nd)) (N : Nat) (hN : ts.length = N) (kd : Nat) (f : Int) (hLn : N ≤ 4398046511104) (J : List (NdW w0) → (Nat → Prop) → World → Prop) (Jx : List (NdW w0) → World → Prop)
    (hJ1 : ∀ pre T A B, J pre T A → Mk.Stp T A B → J pre (Mk.more T A B) B)
    (hY : ∀ pre x T A, J pre T A → pre.length < (nsel ts kd f).length → YieldAt Fence.wide (n - 1) Try.prog y (ndP x) A fun e A' => (e = .returned (.bool true) ∧ J (pre ++ [x]) T A' ∧ Mk.Kpt w0.heap.size T A A') ∨ (e = .returned (.bool false) ∧ Jx (pre ++ [x]) A'))
    (W : World) (hb1 : W.cell? ⟨p1, 0, none⟩ = some (.slice a N cap)) (hb2 : W.cell? ⟨p2, 0, none⟩ = some (.int .u8 (kd : Nat))) (hb3 : W.cell? ⟨p3, 0, none⟩ = some (.int .i64 f)) (h1 : w0.heap.size ≤ p1) (h2 : w0.heap.size ≤ p2) (h3 : w0.heap.size ≤ p3) (hnW : Keep w0 W) (hrd : RdT w0 a ts) (h0 : J [] (fun g => g = p1 ∨ g = p2 ∨ g = p3) W) :
    CallsIn Fence.wide n Try.prog 68 #[.func (.yield y) #[] #[], .pointer (some ⟨p1, 0, none⟩), .pointer (some ⟨p2, 0, none⟩), .pointer (some ⟨p3, 0, none⟩)] W fun e W' => (∃ v, e = .returned v) ∧
      ((∃ xs T, xs.map ndV = nsel ts kd f ∧ J xs T W') ∨ ∃ pre, Jx pre W') := by
  have hY2 : Hid _ := hY
  have HJ1 : Hid _ := hJ1
  have HN : Hid (ts.length = N ∧ N ≤ 4398046511104) := ⟨hN, hLn⟩
  have hI0 : Hid (NSt kd f w0 p1 p2 p3 a N cap J W [] (fun g => g = p1 ∨ g = p2 ∨ g = p3) (nsel (ts.take 0) kd f)) :=
    ⟨h0, fun g hg => by rcases hg with rfl | rfl | rfl; exact ⟨h1, World.block_lt_of_cell? W _ hb1⟩; exact ⟨h2, World.block_lt_of_cell? W _ hb2⟩; exact ⟨h3, World.block_lt_of_cell? W _ hb3⟩, by simp [nsel], hnW, .inl rfl, .inr (.inl rfl), .inr (.inr rfl), hb1, hb2, hb3⟩
  clear hY hJ1 h0 hnW hN hLn hb2 hb3 h1 h2 h3
  refine callsIn_of_wp Try.func68 rfl trivial ?_ rfl
  simp only [Try.ntmps68, List.size_toArray, List.length_cons, List.length_nil, Nat.reduceAdd, Nat.reduceSub, Array.replicate_succ, Array.replicate_zero, List.push_toArray, List.append_toArray, List.nil_append, List.cons_append]
  gi_wp2_with fail
  clear hb1
  gi_loopg [11] (N + 1) (fun g iv wr => ∃ (k : Nat) (out : List (NdW w0)) (T : Nat → Prop), iv = .int .i64 (k : Int) ∧ k ≤ N ∧ N + 1 ≤ g + k ∧ NSt kd f w0 p1 p2 p3 a N cap J wr out T (nsel (ts.take k) kd f))
  case atStart => exact ⟨0, [], _, rfl, Nat.zero_le _, by omega, hI0.out⟩
  case round =>
    obtain ⟨k, out, T, rfl, hk, hfu, I⟩ := hrel
    clear hI0
    by_cases hkl : k < N
    · have hkc : (k : Int) < (N : Int) := by omega
      have hkT : k < ts.length := by rw [HN.out.1]; exact hkl
      have HL : Hid (k < N) := hkl
      obtain ⟨g, rfl⟩ : ∃ g, gk = g + 1 := ⟨gk - 1, by omega⟩
      have hrw := RdT.keep hrd I.be
      obtain ⟨b, o, na, nc, rfl, c0, c1, hN0, -, hsz, -⟩ := hrw k hkT
      have hNd := (hrd k hkT)
      obtain ⟨b', o', na', nc', e', d0, d1, hN1, -, -, -⟩ := hNd
      simp only [Option.some.injEq, Addr.mk.injEq, and_true] at e'
      obtain ⟨rfl, rfl⟩ := e'
      have d1' := I.be.cell d1
      rw [c1] at d1'
      simp only [Option.some.injEq, Value.slice.injEq] at d1'
      obtain ⟨rfl, -, rfl⟩ := d1'
      clear d0 d1 hN0
      have HT : Hid (nsel (ts.take (k + 1)) kd f = nsel (ts.take k) kd f ++ (ts.getD k (0, [])).2.filter (isN kd f)) := by
        show _ = _
        have : ts.take (k + 1) = ts.take k ++ [ts.getD k (0, [])] := by rw [List.take_succ_eq_append_getElem hkT]; simp [List.getD, hkT]
        rw [this, nsel_snoc]
      have HLt : Hid (∀ i, i < (ts.getD k (0, [])).2.length → isN kd f ((ts.getD k (0, [])).2.getD i nd0) = true → (nsel (ts.take k) kd f ++ ((ts.getD k (0, [])).2.take i).filter (isN kd f)).length < (nsel ts kd f).length) := fun i hi h => nsel_lt hkT hi h
      generalize ts.getD k (0, []) = t at *
      obtain ⟨tout, L⟩ := t
      simp only at c0 c1 hsz hN1
      simp only at HT HLt
      obtain ⟨M, hM⟩ : ∃ M, L.length = M := ⟨_, rfl⟩
      rw [hM] at c1 hsz
      have HM : Hid (L.length = M) := hM
      clear hM hrw
      gi_wp2_with fail
      obtain ⟨B, hB⟩ : ∃ B, wr.alloc (Obj.cells #[Value.int .i64 tout, .slice na M nc] 54) = B := ⟨_, rfl⟩
      have kB : Keep wr B := by rw [← hB]; exact (Keep.refl wr).alloc _
      have r0 : B.heap[wr.heap.size]? = some (Obj.cells #[Value.int .i64 tout, .slice na M nc] 54 (0, 0)) := by rw [← hB]; exact heap_alloc_new _ _
      have z1 := cell_of_row B _ 1 _ 54 (0, 0) r0
      simp at z1
      have HI1 : Hid (NSt kd f w0 p1 p2 p3 (some ⟨b, o, none⟩) N cap J B out (Mk.more T wr B) (nsel (ts.take k) kd f ++ (L.take 0).filter (isN kd f))) := by
        have h9 := I.step HJ1.out kB
        show NSt _ _ _ _ _ _ _ _ _ _ _ _ _ _
        rw [List.take_zero, List.filter_nil, List.append_nil]
        exact h9
      have HTt : Hid (Mk.more T wr B wr.heap.size) := .inr ⟨Nat.le_refl _, (Array.getElem?_eq_some_iff.1 r0).1⟩
      obtain ⟨tb, htb⟩ : ∃ tb, wr.heap.size = tb := ⟨_, rfl⟩
      rw [htb] at z1 HTt
      try rw [hB]
      try rw [htb]
      clear hB kB r0 htb I
      gi_loopg [18] (M + 1) (fun g2 jv wx => ∃ (i : Nat) (ou : List (NdW w0)) (T' : Nat → Prop), jv = .int .i64 (i : Int) ∧ i ≤ M ∧ M + 1 ≤ g2 + i ∧ NSt kd f w0 p1 p2 p3 (some ⟨b, o, none⟩) N cap J wx ou T' (nsel (ts.take k) kd f ++ (L.take i).filter (isN kd f)) ∧ T' tb ∧ wx.cell? ⟨tb, 1, none⟩ = some (.slice na M nc))
      case atStart => exact ⟨0, out, _, rfl, Nat.zero_le _, by omega, HI1.out, HTt.out, z1⟩
      case round =>
        clear HI1 HTt z1
        obtain ⟨i, ou, T', rfl, hi, hfu2, I, tT, zt⟩ := hrel
        by_cases hil : i < M
        · have hic : (i : Int) < (M : Int) := by omega
          obtain ⟨g2, rfl⟩ : ∃ g2, gk = g2 + 1 := ⟨gk - 1, by omega⟩
          have hiL : i < L.length := by rw [HM.out]; exact hil
          have Hil : Hid (i < M) := hil
          obtain ⟨b2, o2, ca, cp, rfl, hnd0⟩ := hN1 i hiL
          have HF : Hid ((L.take (i + 1)).filter (isN kd f) = (L.take i).filter (isN kd f) ++ (if isN kd f (L.getD i nd0) = true then [L.getD i nd0] else [])) := filter_take hiL
          have HLi : Hid (isN kd f (L.getD i nd0) = true → (nsel (ts.take k) kd f ++ (L.take i).filter (isN kd f)).length < (nsel ts kd f).length) := HLt.out i hiL
          generalize L.getD i nd0 = d at *
          gi_wp2_with fail
          have hnd := hnd0.keep I.be
          have x0 := hnd.c0
          have x2 := hnd.c2
          have y2 := I.b2
          have y3 := I.b3
          have ltb := World.block_lt_of_cell? wr _ x0
          simp only at ltb
          by_cases hk1 : d.kd = kd
          · by_cases hf1 : d.ft = f
            · have his : isN kd f d = true := by unfold isN; rw [hk1, hf1]; simp
              have e1 : ((d.kd : Int) == (kd : Int)) = true := by rw [hk1]; simp
              have e2 : (d.ft == f) = true := by rw [hf1]; simp
              have kdr : Keep wr wr.drew := (Keep.refl wr).drew
              have ID := I.step HJ1.out kdr
              have hl2 : ou.length < (nsel ts kd f).length := by
                have h8 := congrArg List.length I.eq
                rw [List.length_map] at h8
                rw [h8]
                exact HLi.out his
              obtain ⟨fn, tmps, assign, body, hy, hRd⟩ := hY2.out ou ⟨(b2, o2 + i * 8, ca, cp, d), hnd0⟩ _ _ ID.j hl2
              have hRd2 := hRd.mono (R' := fun e A' => ∃ bb, e = .returned (.bool bb) ∧ Hid ((bb = true ∧ J (ou ++ [⟨(b2, o2 + i * 8, ca, cp, d), hnd0⟩]) (Mk.more T' wr wr.drew) A' ∧ Mk.Kpt w0.heap.size (Mk.more T' wr wr.drew) wr.drew A') ∨ (bb = false ∧ Jx (ou ++ [⟨(b2, o2 + i * 8, ca, cp, d), hnd0⟩]) A'))) (fun e A' h => by
                rcases h with ⟨h1, h2, h3⟩ | ⟨h1, h2⟩
                · exact ⟨true, h1, .inl ⟨rfl, h2, h3⟩⟩
                · exact ⟨false, h1, .inr ⟨rfl, h2⟩⟩)
              clear hRd
              simp only [ndP] at hy
              have hzd : wr.drew.heap.size = wr.heap.size := rfl
              replace ID : Hid _ := ID
              have hkf : Hid (d.kd = kd ∧ d.ft = f) := ⟨hk1, hf1⟩
              have HF2 : Hid (nsel (ts.take k) kd f ++ (L.take (i + 1)).filter (isN kd f) = nsel (ts.take k) kd f ++ ((L.take i).filter (isN kd f) ++ (if isN kd f d = true then [d] else []))) := by show _ = _; rw [HF.out]
              clear hk1 hf1
              gi_region_with (refine hRd2.mono ?_; rintro e A2 ⟨bb, rfl, hor⟩)
              all_goals
                go_simp
                rcases hor.out with ⟨rfl, hj, hkp⟩ | ⟨rfl, hjx⟩
                · have I2 := ID.out.yld hj hkp
                  have zt2 := Kpt.at hkp (.inl tT) (kdr.cell zt)
                  rw [his, if_pos rfl, ← List.append_assoc] at HF2
                  rw [show ndV (⟨(b2, o2 + i * 8, ca, cp, d), hnd0⟩ : NdW w0) = d from rfl, ← HF2.out] at I2
                  gi_wp2_with fail
                  have hsz2 := hsz
                  have hil2 := Hil.out
                  gi_roundg g2
                  case rel => exact ⟨i + 1, _, Mk.more T' wr wr.drew, by go_num, hil2, by omega, I2, .inl tT, zt2⟩
                  case measure => omega
                · gi_wp2_with fail
                  first
                    | (go_ret; exact ⟨⟨_, rfl⟩, .inr ⟨_, hjx⟩⟩)
                    | exact bodyPost_ret (v := .tuple #[]) (by simp [results, Try.results68, go_sem]) rfl ⟨⟨_, rfl⟩, .inr ⟨_, hjx⟩⟩
            · have his : isN kd f d = false := by unfold isN; rw [hk1]; simp [hf1]
              have e1 : ((d.kd : Int) == (kd : Int)) = true := by rw [hk1]; simp
              have e2 : (d.ft == f) = false := by rw [beq_eq_false_iff_ne]; exact hf1
              rw [his, if_neg (by simp), List.append_nil] at HF
              clear hk1 hf1
              rw [wpIn_wide]
              go_quiet (fail)
              have kd2 : Keep wr (wr.drewN nq) := (Keep.refl wr).drewN nq
              have I2 : Hid _ := I.step HJ1.out kd2
              have zt2 : Hid _ := kd2.cell zt
              generalize wr.drewN nq = W2 at *
              gi_wp2_with fail
              have hsz2 := hsz
              have hil2 := Hil.out
              gi_roundg g2
              case rel => exact ⟨i + 1, ou, Mk.more T' wr W2, by go_num, hil2, by omega, by rw [HF.out]; exact I2.out, .inl tT, zt2.out⟩
              case measure => omega
          · have his : isN kd f d = false := by unfold isN; simp [hk1]
            have e1 : ((d.kd : Int) == (kd : Int)) = false := beq_u8 hk1
            rw [his, if_neg (by simp), List.append_nil] at HF
            clear hk1
            rw [wpIn_wide]
            go_quiet (fail)
            have kd2 : Keep wr (wr.drewN nq) := (Keep.refl wr).drewN nq
            have I2 : Hid _ := I.step HJ1.out kd2
            have zt2 : Hid _ := kd2.cell zt
            generalize wr.drewN nq = W2 at *
            gi_wp2_with fail
            have hsz2 := hsz
            have hil2 := Hil.out
            gi_roundg g2
            case rel => exact ⟨i + 1, ou, Mk.more T' wr W2, by go_num, hil2, by omega, by rw [HF.out]; exact I2.out, .inl tT, zt2.out⟩
            case measure => omega
        · have hic : ¬ (i : Int) < (M : Int) := by omega
          have hiM : i = M := by omega
          obtain ⟨g3, hg3⟩ : ∃ g3, g3 = g := ⟨_, rfl⟩
          have HI9 : Hid (NSt kd f w0 p1 p2 p3 (some ⟨b, o, none⟩) N cap J wr ou T' (nsel (ts.take (k + 1)) kd f)) := by
            show NSt _ _ _ _ _ _ _ _ _ _ _ _ _ _
            rw [HT.out, ← List.take_length (l := L), HM.out, ← hiM]
            exact I
          gi_wp2_with fail
          have hn64 := HN.out.2
          have hkl2 := HL.out
          gi_roundg g
          case rel => exact ⟨k + 1, ou, T', by rw [wrap_u1 (by omega) hkl2], hkl2, by omega, HI9.out⟩
          case measure => omega
    · have hkc : ¬ (k : Int) < (N : Int) := by omega
      have hkN : Hid (k = N) := by show _ = _; omega
      gi_wp2_with fail
      go_end0
      exact ⟨⟨_, rfl⟩, .inl ⟨out, by rw [I.eq, hkN.out, ← HN.out.1, List.take_length], T, I.j⟩⟩
theorem ns_seq (n : Nat) (hn : 1 ≤ n) (p1 p2 p3 : Nat) (a : Option Addr) (cap : Nat) (ts : List (Int × List Nd)) (N : Nat) (hN : ts.length = N) (kd : Nat) (f : Int) (hLn : N ≤ 4398046511104) (w0 w : World) (hb1 : w.cell? ⟨p1, 0, none⟩ = some (.slice a N cap)) (hb2 : w.cell? ⟨p2, 0, none⟩ = some (.int .u8 (kd : Nat))) (hb3 : w.cell? ⟨p3, 0, none⟩ = some (.int .i64 f)) (h1 : w0.heap.size ≤ p1) (h2 : w0.heap.size ≤ p2) (h3 : w0.heap.size ≤ p3) (hnW : Keep w0 w) (hrd : RdT w0 a ts) :
    SeqT n Try.prog 68 #[.pointer (some ⟨p1, 0, none⟩), .pointer (some ⟨p2, 0, none⟩), .pointer (some ⟨p3, 0, none⟩)] (ndP (w0 := w0)) w0.heap.size (fun g => g = p1 ∨ g = p2 ∨ g = p3) (fun xs => xs.map ndV = nsel ts kd f) (fun _ => True) (nsel ts kd f).length w := by
  intro y J Jx W hW hJ1 hY h0
  have kW : Keep w W := hW
  refine (ns_in w0 n hn y p1 p2 p3 a cap ts N hN kd f hLn J Jx hJ1 hY W (kW.cell hb1) (kW.cell hb2) (kW.cell hb3) h1 h2 h3 (hnW.trans kW) hrd h0).mono ?_
  rintro e W' ⟨he, h | ⟨pre, h⟩⟩
  · exact ⟨he, .inl h⟩
  · exact ⟨he, .inr ⟨pre, trivial, h⟩⟩
end Go.Proofs.Ytaogjiffnebnkaa
