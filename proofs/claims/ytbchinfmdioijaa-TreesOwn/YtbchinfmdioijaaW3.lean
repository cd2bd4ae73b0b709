import Derived.Test.YtbchinfmdioijaaW2
set_option linter.unusedVariables false
set_option linter.unusedSimpArgs false
namespace Go.Proofs.Ytbchinfmdioijaa
open Go.RowKit Go.Shelf
attribute [local go_sem] Oper.semAt_some
theorem misF_zero {L : List Nd} : ∀ (f k : Nat), 0 < k → misF L f k = 0 → ∀ i, k ≤ i → i < k + f → misB L i = false
  | 0, k, _, _, i, h1, h2 => by omega
  | f + 1, k, hk, h, i, h1, h2 => by
    rw [misF] at h
    split at h
    · omega
    · rename_i hb
      by_cases e : i = k
      · subst e; simpa using hb
      · exact misF_zero f (k + 1) (by omega) h i (by omega) (by omega)
/-- Shape is content: it is a right tree. -/
theorem shE_tr {L : List Nd} (h : shE L = 0) : Tr (shp L) L.length := by
  have hR := shE_rgt h
  have hm : misF L (L.length - 1) 1 = 0 := by
    unfold shE at h
    split at h
    · cases h
    · cases hb : badF L L.length 0 with
      | some i => rw [hb] at h; cases h
      | none =>
        rw [hb] at h
        simp only at h
        split at h
        · assumption
        · cases h
  have hB : ∀ i, 0 < i → i < L.length → cnt (shp L) i L.length = 1 ∧ i ∈ ord (shp L) L.length := by
    intro i h1 h2
    have := misF_zero _ _ (by omega) hm i (by omega) (by omega)
    unfold misB at this
    simpa using this
  refine ⟨hR.wi, fun i hi hk => ?_, fun j h1 h2 => (hB j h1 h2).1, fun j hj => ?_⟩
  · have := hR.kids hi hk
    omega
  · by_cases e : j = 0
    · subst e; exact .zero
    · exact (ord_mem hR.wi j).1 (hB j (by omega) hj).2
set_option maxHeartbeats 1000000 in
theorem down_in (n : Nat) (a ax : Option Addr) (len cap m cx : Nat) (w : World) :
    CallsIn Fence.wide n Try.prog 57 #[.slice a len cap, .slice ax m cx] w fun e w' => e = .returned (.func (.func 80) #[] #[.pointer (some ⟨w.heap.size, 0, none⟩), .pointer (some ⟨w.heap.size + 1, 0, none⟩)]) ∧ w' = (w.alloc (.cells #[.slice a len cap] 22)).alloc (.cells #[.slice ax m cx] 43) := by
  refine callsIn_of_wp Try.func57 rfl trivial ?_ rfl
  simp only [Try.ntmps57, List.size_toArray, List.length_cons, List.length_nil, Nat.reduceAdd, Nat.reduceSub, Array.replicate_succ, Array.replicate_zero, List.push_toArray, List.append_toArray, List.nil_append, List.cons_append]
  gi_wp2
  go_ret
  exact ⟨rfl, rfl⟩
/-- The choice of a vector at a node. -/
def chs (L : List Nd) (xs : List Nat) (i : Nat) : Bool := decide (gsS (L.getD i nd0) (xs.getD (L.getD i nd0).ft.toNat 0) = 1)
/-- What the iterator holds between two rounds. -/
structure Dwn (L : List Nd) (xs : List Nat) (w0 : World) (Bl Bx : Nat) (a ax : Option Addr) (cap cx : Nat) (J : List (Fin L.length) → (Nat → Prop) → World → Prop) (f : Nat) (wr : World) (out : List (Fin L.length)) (i : Nat) (T : Nat → Prop) : Prop where
  BlT : T Bl
  BxT : T Bx
  lt : ∀ g, T g → w0.heap.size ≤ g ∧ g < wr.heap.size
  j : J out T wr
  lv : Lv (shp L) i out.length
  eq : nums out ++ path (shp L) (chs L xs) (L.length - 1 - out.length) i = way (shp L) (chs L xs) L.length
  fuel : L.length ≤ f + out.length
  be : Keep w0 wr
  bl : wr.cell? ⟨Bl, 0, none⟩ = some (.slice a L.length cap)
  bx : wr.cell? ⟨Bx, 0, none⟩ = some (.slice ax xs.length cx)
theorem Rgt.ft {L : List Nd} (h : Rgt L) {i : Nat} (hi : i < L.length) (hk : (shp L).K i = true) : 0 ≤ (L.getD i nd0).ft := by
  have hr := h.2 i hi
  simp only [shp, decide_eq_true_eq] at hk
  generalize L.getD i nd0 = n at *
  unfold rightB spl at hr
  rcases hk with hk | hk
  · rw [if_neg (by omega), if_pos hk] at hr
    simp only [Bool.and_eq_true, decide_eq_true_eq] at hr
    omega
  · rw [if_neg (by omega), if_neg (by omega), if_pos hk] at hr
    simp only [Bool.and_eq_true, decide_eq_true_eq] at hr
    omega
theorem nxt_chs {L : List Nd} (h : Rgt L) {i : Nat} (xs : List Nat) (hi : i < L.length) (hk : (shp L).K i = true) : nxt (L.getD i nd0) xs = ((if chs L xs i = true then (shp L).A i else (shp L).B i : Nat) : Int) := by
  obtain ⟨⟨e6, l6, p6⟩, ⟨e7, l7, p7⟩⟩ := h.kids hi hk
  unfold nxt chs
  by_cases q : gsS (L.getD i nd0) (xs.getD (L.getD i nd0).ft.toNat 0) = 1
  · rw [if_pos q, if_pos (decide_eq_true q)]; exact e6
  · rw [if_neg q, if_neg (by rw [decide_eq_false q]; simp)]; exact e7
theorem Keep.stp {T : Nat → Prop} {A B : World} (h : Keep A B) : Stp T A B := ⟨h.os, h.tape, h.output, h.size, fun g hg _ => h.block g hg⟩
set_option maxRecDepth 100000 in
set_option maxHeartbeats 2000000 in
theorem downs_in (w0 : World) (n : Nat) (hn : 1 ≤ n) (y Bl Bx : Nat) (a ax : Option Addr) (cap cx : Nat) (L : List Nd) (xs : List Nat) (hLn : L.length ≤ 2199023255552) (hxl : xs.length ≤ 17592186044416) (hE : shE L = 0) (hlk : lackB L xs.length = false) (J : List (Fin L.length) → (Nat → Prop) → World → Prop) (Jx : List (Fin L.length) → World → Prop)
    (hJ1 : ∀ pre T A B, J pre T A → Stp T A B → J pre (more T A B) B)
    (hY : ∀ pre x T A, J pre T A → pre.length < L.length → YieldAt Fence.wide (n - 1) Try.prog y #[Value.int .i64 ((x.val : Nat) : Int)] A fun e A' => (e = .returned (.bool true) ∧ J (pre ++ [x]) T A' ∧ Kpt w0.heap.size T A A') ∨ (e = .returned (.bool false) ∧ Jx (pre ++ [x]) A'))
    (W : World) (hBl : W.cell? ⟨Bl, 0, none⟩ = some (.slice a L.length cap)) (hBx : W.cell? ⟨Bx, 0, none⟩ = some (.slice ax xs.length cx)) (hBn : w0.heap.size ≤ Bl) (hBm : w0.heap.size ≤ Bx) (hnW : Keep w0 W) (hrd : RdN w0 a L) (hxd : RdF w0 ax xs) (h0 : J [] (fun g => g = Bl ∨ g = Bx) W) :
    CallsIn Fence.wide n Try.prog 80 #[.func (.yield y) #[] #[], .pointer (some ⟨Bl, 0, none⟩), .pointer (some ⟨Bx, 0, none⟩)] W fun e W' => (∃ v, e = .returned v) ∧
      ((∃ xs' T, nums xs' = way (shp L) (chs L xs) L.length ∧ J xs' T W') ∨ ∃ pre, Jx pre W') := by
  have hR := shE_rgt hE
  have hT := shE_tr hE
  refine callsIn_of_wp Try.func80 rfl trivial ?_ rfl
  simp only [Try.ntmps80, List.size_toArray, List.length_cons, List.length_nil, Nat.reduceAdd, Nat.reduceSub, Array.replicate_succ, Array.replicate_zero, List.push_toArray, List.append_toArray, List.nil_append, List.cons_append]
  gi_wp2_with fail
  gi_loopg [4] (L.length + 1) (fun f iv wr => ∃ out i T, iv = .int .i64 ((i : Nat) : Int) ∧ Dwn L xs w0 Bl Bx a ax cap cx J f wr out i T)
  case atStart =>
    exact ⟨[], 0, _, rfl, .inl rfl, .inr rfl, fun g hg => by rcases hg with rfl | rfl; exact ⟨hBn, World.block_lt_of_cell? W _ hBl⟩; exact ⟨hBm, World.block_lt_of_cell? W _ hBx⟩, h0, .zero, rfl, by simp, hnW, hBl, hBx⟩
  case round =>
    obtain ⟨out, i, T, rfl, I⟩ := hrel
    clear h0 hnW hBl hBx
    have iN : i < L.length := I.lv.rch.lt hT.wi
    have hol : out.length < L.length := I.lv.lt hT
    have hfu := I.fuel
    obtain ⟨f, rfl⟩ : ∃ f, gk = f + 1 := ⟨gk - 1, by omega⟩
    obtain ⟨fn, tmps, assign, body, hy, hRd⟩ := hY out ⟨i, iN⟩ _ _ I.j hol
    simp only at hy
    have hiN : (i : Int) < (L.length : Int) := by omega
    gi_wp2
    refine hRd.mono ?_
    rintro e A2 (⟨rfl, hj2, hk2⟩ | ⟨rfl, hjx⟩)
    · clear hRd hy
      have sz2 := hk2.size
      have ltT := I.lt
      have kTA : ∀ g, T g → A2.heap[g]? = wr.heap[g]? := fun g hg => hk2.block g (ltT g hg).2 (.inr hg)
      have bl2 : A2.cell? ⟨Bl, 0, none⟩ = some (.slice a L.length cap) := by rw [World.cell?_of_block (a := ⟨Bl, 0, none⟩) (kTA Bl I.BlT)]; exact I.bl
      have bx2 : A2.cell? ⟨Bx, 0, none⟩ = some (.slice ax xs.length cx) := by rw [World.cell?_of_block (a := ⟨Bx, 0, none⟩) (kTA Bx I.BxT)]; exact I.bx
      have be2 : Keep w0 A2 := ⟨hk2.os.trans I.be.os, hk2.tape.trans I.be.tape, hk2.output.trans I.be.output, by have := I.be.size; omega, fun g hg => (hk2.block g (by have := I.be.size; omega) (.inl hg)).trans (I.be.block g hg)⟩
      obtain ⟨b, o, ca, cp, rfl, hnd⟩ := (hrd.keep be2) i iN
      have c0 := hnd.c0
      have hK : (shp L).K i = decide ((L.getD i nd0).kd = 2 ∨ (L.getD i nd0).kd = 3) := rfl
      have hin := isInner_any (L.getD i nd0).kd
      rw [← hK] at hin
      have hnum : nums (out ++ [⟨i, iN⟩]) = nums out ++ [i] := by simp [nums]
      have heq := I.eq
      by_cases hki : (shp L).K i = true
      · have lv2 := I.lv.next (chs L xs) hki
        have hl2 := lv2.lt hT
        rw [show L.length - 1 - out.length = (L.length - 1 - (out.length + 1)) + 1 by omega, path_inner hki] at heq
        have HN := nxt_chs hR xs iN hki
        have hf0 := hR.ft iN hki
        have hf1 := lackB_ft hlk iN hki
        have hnx := fun (wx : World) (k : Keep A2 wx) => next_any (L.getD i nd0) ca ax cp cx xs wx (hnd.rd.keep k) hnd.sz hnd.cp ((hxd.keep be2).keep k) hxl hf0 hf1
        rw [HN] at hnx
        generalize (if chs L xs i = true then (shp L).A i else (shp L).B i) = i2 at *
        have HI : ∀ B, Keep A2 B → Dwn L xs w0 Bl Bx (some ⟨b, o, none⟩) ax cap cx J f B (out ++ [⟨i, iN⟩]) i2 (more T A2 B) := by
          intro B kB
          refine ⟨.inl I.BlT, .inl I.BxT, ?_, hJ1 _ _ _ _ hj2 kB.stp, by simpa using lv2, by rw [hnum]; simpa using heq, by simp; omega, be2.trans kB, kB.cell bl2, kB.cell bx2⟩
          rintro g (h | h)
          · have := ltT g h; have := kB.le; omega
          · have := be2.le; omega
        have hv : (L.getD i nd0).v ca cp = .agg #[.int .u8 (L.getD i nd0).kd, .int .i64 (L.getD i nd0).vl, .int .i64 (L.getD i nd0).ft, .float .f64 (L.getD i nd0).th, .slice ca (L.getD i nd0).cs.length cp, .int .u8 (L.getD i nd0).ms, .int .i64 (L.getD i nd0).lf, .int .i64 (L.getD i nd0).rt] := rfl
        rw [hv] at hnx
        have c1 := hnd.c1
        have c2 := hnd.c2
        have c3 := hnd.c3
        have c4 := hnd.c4
        have c5 := hnd.c5
        have c6 := hnd.c6
        have c7 := hnd.c7
        rw [hki] at hin
        clear hv hnd HN hf0 hf1 hK heq I hj2 hJ1 hY hki lv2
        generalize L.getD i nd0 = N at *
        gi_wp2_with (refine ⟨trivial, ?_⟩; gi_at_call 50; refine (callsIn_wide.2 (hin _)).mono ?_; rintro e w' ⟨rfl, hw'⟩; have hw2 := hw'.symm; subst hw2)
        have kd : Keep A2 A2.drew := (Keep.refl A2).drew
        rw [wpIn_wide]
        go_region_with (go_at_call 81; refine (hnx _ kd).mono ?_; rintro e wB ⟨rfl, kB⟩)
        all_goals
          have HJ := HI wB (kd.trans kB)
          go_simp
          gi_wp2
          gi_roundg f
          case rel => exact ⟨_, _, _, rfl, HJ⟩
          case measure => omega
      · have hkf : (shp L).K i = false := by simpa using hki
        rw [path_leaf hkf] at heq
        rw [hkf] at hin
        have HE : Hid (nums (out ++ [⟨i, iN⟩]) = way (shp L) (chs L xs) L.length) := by show _ = _; rw [hnum]; exact heq
        clear heq hK hkf hki hnd
        generalize (L.getD i nd0).kd = kd at *
        gi_wp2_with (refine ⟨trivial, ?_⟩; gi_at_call 50; refine (callsIn_wide.2 (hin _)).mono ?_; rintro e w' ⟨rfl, hw'⟩; have hw2 := hw'.symm; subst hw2)
        go_end0
        exact ⟨⟨_, rfl⟩, .inl ⟨_, T, HE.out, hj2⟩⟩
    · gi_wp2
      refine ⟨trivial, ?_⟩
      gi_wp2
      go_end0
      exact ⟨⟨_, rfl⟩, .inr ⟨_, hjx⟩⟩
/-- What a vector comes by, as an iterator. -/
theorem down_seq (n : Nat) (hn : 1 ≤ n) (Bl Bx : Nat) (a ax : Option Addr) (cap cx : Nat) (L : List Nd) (xs : List Nat) (hLn : L.length ≤ 2199023255552) (hxl : xs.length ≤ 17592186044416) (hE : shE L = 0) (hlk : lackB L xs.length = false) (w0 w : World) (hBl : w.cell? ⟨Bl, 0, none⟩ = some (.slice a L.length cap)) (hBx : w.cell? ⟨Bx, 0, none⟩ = some (.slice ax xs.length cx)) (hBn : w0.heap.size ≤ Bl) (hBm : w0.heap.size ≤ Bx) (hnW : Keep w0 w) (hrd : RdN w0 a L) (hxd : RdF w0 ax xs) :
    SeqT n Try.prog 80 #[.pointer (some ⟨Bl, 0, none⟩), .pointer (some ⟨Bx, 0, none⟩)] (fun x : Fin L.length => #[Value.int .i64 ((x.val : Nat) : Int)]) w0.heap.size (fun g => g = Bl ∨ g = Bx) (fun xs' => nums xs' = way (shp L) (chs L xs) L.length) (fun _ => True) L.length w := by
  intro y J Jx W hW hJ1 hY h0
  have kW : Keep w W := hW
  refine (downs_in w0 n hn y Bl Bx a ax cap cx L xs hLn hxl hE hlk J Jx hJ1 hY W (kW.cell hBl) (kW.cell hBx) hBn hBm (hnW.trans kW) hrd hxd h0).mono ?_
  rintro e W' ⟨he, h | ⟨pre, h⟩⟩
  · exact ⟨he, .inl h⟩
  · exact ⟨he, .inr ⟨pre, trivial, h⟩⟩
end Go.Proofs.Ytbchinfmdioijaa
