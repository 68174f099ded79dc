/- For all sets, Of of the members is the set, the members are strictly increasing, as many as Size says, and what Has has, and Next goes through them: the law BitsMembers returns true. Conditions: the listed variables of Go's library hold what their text lays. -/
import Derived.Test.YtfeknabddcohoaaDoorQe
import Derived.Test.YtfeknabddcohoaaDoorQf
import Derived.Deep.Cut
import Derived.Deep.RegionWith
namespace Go.Proofs.YtfeknabddcohoaaDoor
set_option linter.unusedSimpArgs false
set_option linter.unusedVariables false
open Go Go.RowKit

theorem ofL_nats : ∀ (l : List Nat) (A : Nat), (∀ x ∈ l, x < 256) → ofL (l.map fun (x : Nat) => (x : Int)) A = some (l.foldl (fun s x => s ||| 2 ^ x) A)
  | [], A, _ => rfl
  | x :: l, A, h => by
    have hx := h x (by simp)
    simp only [List.map_cons, List.foldl_cons, ofL]
    rw [if_pos (by omega), Int.toNat_natCast]
    exact ofL_nats l _ fun y hy => h y (by simp [hy])
theorem testBit_fold : ∀ (l : List Nat) (A i : Nat), (l.foldl (fun s x => s ||| 2 ^ x) A).testBit i = (A.testBit i || decide (i ∈ l))
  | [], A, i => by simp
  | x :: l, A, i => by
    rw [List.foldl_cons, testBit_fold l, Nat.testBit_or, Nat.testBit_two_pow]
    by_cases h : x = i
    · subst h; simp
    · have h2 : ¬ i = x := fun e => h e.symm
      simp [h, h2]
theorem fold_mem {N : Nat} (h : N < 2 ^ 256) : (mem N).foldl (fun s x => s ||| 2 ^ x) 0 = N := by
  apply Nat.eq_of_testBit_eq; intro i
  rw [testBit_fold, Nat.zero_testBit, Bool.false_or]
  have := mem_iff (i := i) h
  cases hb : N.testBit i
  · rw [hb] at this; simp at this; simpa using this
  · rw [hb] at this; simpa using this
theorem mem_lt {N x : Nat} (h : N < 2 ^ 256) (hx : x ∈ mem N) : x < 256 := by
  rw [mem_iff h] at hx
  rcases Nat.lt_or_ge x 256 with h1 | h1
  · exact h1
  · rw [testBit_big h h1] at hx; cases hx
theorem ofL_mem {N : Nat} (h : N < 2 ^ 256) : ofL ((mem N).map fun (x : Nat) => (x : Int)) 0 = some N := by
  rw [ofL_nats _ _ fun x hx => mem_lt h hx, fold_mem h]
theorem card_wo {N j : Nat} (hj : N.testBit j = true) (hl : j < 256) : card (diff N (2 ^ j)) + 1 = card N := by
  have h := card_and_diff N (2 ^ j)
  have e : card (N &&& 2 ^ j) = 1 := by
    have e2 : N &&& 2 ^ j = 2 ^ j := by
      apply Nat.eq_of_testBit_eq; intro i
      rw [Nat.testBit_and, Nat.testBit_two_pow]
      by_cases h : j = i
      · subst h; simp [hj]
      · simp [h]
    rw [e2]
    have hp : ∀ n, cnt (2 ^ j) n = if j < n then 1 else 0 := fun n => by
      induction n with
      | zero => rfl
      | succ n ih =>
        simp only [cnt]
        rw [ih, Nat.testBit_two_pow]
        by_cases h1 : j < n
        · rw [if_pos h1, if_pos (by omega)]
          simp [show ¬ j = n by omega]
        · rw [if_neg h1]
          by_cases h2 : j = n
          · subst h2; simp
          · rw [if_neg (by omega)]; simp [h2]
    unfold card
    rw [hp, if_pos hl]
  omega
theorem wo_back {N j : Nat} (hj : N.testBit j = true) : diff N (2 ^ j) ||| 2 ^ j = N := by
  apply Nat.eq_of_testBit_eq; intro i
  rw [Nat.testBit_or, testBit_diff, Nat.testBit_two_pow]
  by_cases h : j = i
  · subst h; simp [hj]
  · simp [h]
/-- Whether n is among these numbers. -/
def isIn (l : List Nat) (n : Int) : Bool := l.any fun x => (x : Int) == n
theorem isIn_snoc (l : List Nat) (x : Nat) (n : Int) : isIn (l ++ [x]) n = (isIn l n || ((x : Int) == n)) := by unfold isIn; rw [List.any_append]; simp
theorem isIn_mem {N : Nat} (h : N < 2 ^ 256) (n : Int) : isIn (mem N) n = hasB N n := by
  rw [Bool.eq_iff_iff]
  unfold isIn hasB
  simp only [List.any_eq_true, beq_iff_eq, Bool.and_eq_true, decide_eq_true_eq]
  constructor
  · rintro ⟨x, hx, rfl⟩
    have := mem_lt h hx
    rw [mem_iff h] at hx
    exact ⟨⟨by omega, by omega⟩, by simpa using hx⟩
  · rintro ⟨⟨h1, h2⟩, h3⟩
    exact ⟨n.toNat, (mem_iff h).2 h3, by omega⟩
end Go.Proofs.YtfeknabddcohoaaDoor
namespace Go.Proofs.YtfeknabddcohoaaDoor
set_option linter.unusedSimpArgs false
set_option linter.unusedVariables false
open Go Go.RowKit
section
variable {P : Program} {ops : Array Oper} {C : Cl} {L : List Value} {K : Env → Prop} {o : Oper} {rest : List Oper} {E : Env} {d : Nat}
theorem chain_idx (v : Value) (t : TypeId) (x y : Operand) (a b : Value) (hr : ∀ w, C.C w → C.R w w) (hd : o.dst = some d) (ho : o.op = .indexAddr t x y) (hw : wantB ops o E L = true) (he : exB ops o E = true)
    (hx : evE E L x = a) (hy : evE E L y = b) (h : ∀ w, (Instr.indexAt t a b).run P w = .ok v w) (hk : chain P ops C L rest ((d, .ex v) :: E) K) : chain P ops C L (o :: rest) E K :=
  chain_val v hr hd (fun cs b e => by rw [ho] at e; cases e) hw he (fun w hC => by
    have := h w
    simp only [execOp, ho, hx, hy]
    rw [Sem.run_bind, this]; rfl) hk
theorem chain_ext (v : Value) (x : Operand) (i : Nat) (vs : Array Value) (hr : ∀ w, C.C w → C.R w w) (hd : o.dst = some d) (ho : o.op = .extract x i) (hw : wantB ops o E L = true) (he : exB ops o E = true)
    (hx : evE E L x = .tuple vs) (hv : vs[i]? = some v) (hk : chain P ops C L rest ((d, .ex v) :: E) K) : chain P ops C L (o :: rest) E K :=
  chain_val v hr hd (fun cs b e => by rw [ho] at e; cases e) hw he (fun w hC => by
    simp only [execOp, ho, hx]
    simp [go_sem, Instr.extract, hv]) hk
theorem chain_len (v : Value) (c : Call) (x : Operand) (a : Value) (t : TypeId) (hr : ∀ w, C.C w → C.R w w) (hd : o.dst = some d) (ho : o.op = .call c) (hc : c.callee = .builtin .len) (hxs : c.args = #[x]) (ht : c.argTypes = #[t]) (hw : wantB ops o E L = true) (he : exB ops o E = true)
    (hx : evE E L x = a) (h : ∀ (ty : TypeId) (cs : Array Bool) w, (builtin .len #[t] ty cs #[a]).run P w = .ok (.value v) w) (hk : chain P ops C L rest ((d, .ex v) :: E) K) : chain P ops C L (o :: rest) E K :=
  chain_val v hr hd (fun cs b e => by rw [ho] at e; cases e) hw he (fun w hC => by
    simp [execOp, ho, resolve, hc, hxs, ht, invoke, hx, h]) hk
end
theorem run_len_slice (a : Option Addr) (n cap : Nat) (ty : TypeId) (cs : Array Bool) (w : World) : (builtin .len #[22] ty cs #[.slice a n cap]).run Tryd.prog w = .ok (.value (.int .i64 n)) w := by
  simp [go_sem, builtin, Builtin.len_, run_underlying Tryd.underlying22]
theorem sub_small (t : TypeId) (x y : Operand) (a b s : Int) (h : a - b = s) (hs : -9223372036854775808 ≤ s ∧ s < 9223372036854775808) (w : World) :
    (do eqGuard .sub t x y (.int .i64 a) (.int .i64 b); binOp .sub t (.int .i64 a) (.int .i64 b) : Sem Value).run Tryd.prog w = .ok (.int .i64 s) w := by
  subst h
  have e := IntWalk.i64_in (a - b) (by omega)
  simp [go_sem]
  exact e
theorem leq_int (t : TypeId) (x y : Operand) (a b : Int) (p : Bool) (h : decide (a ≤ b) = p) (w : World) :
    (do eqGuard .leq t x y (.int .i64 a) (.int .i64 b); binOp .leq t (.int .i64 a) (.int .i64 b) : Sem Value).run Tryd.prog w = .ok (.bool p) w := by
  subst h; simp [go_sem]
theorem gtr_int (t : TypeId) (x y : Operand) (a b : Int) (p : Bool) (h : decide (b < a) = p) (w : World) :
    (do eqGuard .gtr t x y (.int .i64 a) (.int .i64 b); binOp .gtr t (.int .i64 a) (.int .i64 b) : Sem Value).run Tryd.prog w = .ok (.bool p) w := by
  subst h; simp [go_sem]
theorem idx_int (b o n cap k : Nat) (h : k < n) (w : World) : (Instr.indexAt 22 (.slice (some ⟨b, o, none⟩) n cap) (.int .i64 k)).run Tryd.prog w = .ok (.pointer (some ⟨b, o + k, none⟩)) w := by
  simp [go_sem, Instr.indexAt, h]
end Go.Proofs.YtfeknabddcohoaaDoor
namespace Go.Proofs.YtfeknabddcohoaaDoor
set_option linter.unusedSimpArgs false
set_option linter.unusedVariables false
open Go Go.RowKit
attribute [local go_sem] equalIn_words setV
/-- What the loop knows of its world. -/
def MbS (N : Nat) (a : Option Addr) (b : Nat) (w W : World) : Prop := Gl W ∧ Below w.heap.size w W ∧ Blk W b (setA N) 25 ∧ Cells W a (intsL (mem N))
theorem MbS.below {N : Nat} {a : Option Addr} {b : Nat} {w W W' : World} (h : MbS N a b w W) (hb : Below W.heap.size W W') : MbS N a b w W' :=
  ⟨h.1.below hb, h.2.1.trans (hb.mono h.2.1.size), h.2.2.1.below hb h.2.2.1.lt, h.2.2.2.below hb⟩
theorem MbS.put {N : Nat} {a : Option Addr} {b k : Nat} {w W : World} (h : MbS N a b w W) {W' : World} (hW' : MbS N a b w W') (hlt : W'.heap.size ≤ k) (hsz : k < W.heap.size) (hb : Below W'.heap.size W' W) (x y z u : Value) :
    MbS N a b w ((((W.setCell ⟨k, 0, none⟩ x).setCell ⟨k, 1, none⟩ y).setCell ⟨k, 2, none⟩ z).setCell ⟨k, 3, none⟩ u) :=
  hW'.below (below_put4 hb hlt x y z u)
theorem MbS.old {N : Nat} {a : Option Addr} {b : Nat} {w W W1 : World} (h : MbS N a b w W) (hC : (clOld W.drew).C W1) : MbS N a b w W1 :=
  h.below ((Below.refl _ W).drew.trans (show Below W.drew.heap.size W.drew W1 from hC))
theorem cells_at {W : World} {rb ro k : Nat} {vs : List Value} {v : Value} (h : Cells W (some ⟨rb, ro, none⟩) vs) (hk : vs[k]? = some v) : W.cell? ⟨rb, ro + k, none⟩ = some v := by
  rcases h with h | ⟨b, o, ha, hc⟩
  · rw [h] at hk; cases hk
  · cases ha; exact hc k v hk
theorem load_int_p {w : World} {p : Addr} {x : Int} (h : w.cell? p = some (.int .i64 x)) : (Instr.loadAt 3 (.pointer (some p))).run Tryd.prog w = .ok (.int .i64 x) w := by
  simp [go_sem, h]
set_option maxRecDepth 100000 in
set_option maxHeartbeats 16000000 in
theorem bitsMembers_any (hsane : SaneOk) (N : Nat) (n : Int) (w : World) (hg : Gl w) (hN : N < 2 ^ 256) :
    Calls Tryd.prog 10 #[setV N, .int .i64 n] w fun e w' => e = .returned (.bool true) ∧ Below w.heap.size w w' := by
  have HS : Hid SaneOk := hsane
  have HG := Lib.hid hg
  have HNL := Lib.hid hN
  obtain ⟨ln, hln⟩ : ∃ l, l = (mem N).length := ⟨_, rfl⟩
  have hl256 : ln ≤ 256 := by rw [hln]; exact mem_length N
  have HLN := Lib.hid hln
  have HSz : Hid (∀ w, Calls Tryd.prog 37 #[setV N] w fun e w' => e = .returned (.int .i64 ln) ∧ Below w.heap.size w w') := fun w => by
    have := size_any N w
    rwa [← mem_card, ← hln] at this
  have HMe : Hid (∀ w, Gl w → Calls Tryd.prog 26 #[setV N] w fun e w' => ∃ a cap, e = .returned (.slice a ln cap) ∧ Cells w' a (intsL (mem N)) ∧ Below w.heap.size w w') := fun w hg =>
    (members_any N w hg).mono fun e w' ⟨v, he, hr, hb⟩ => by
      obtain ⟨_, a, cap, rfl, hc, _⟩ := ownsRow_cells hr
      exact ⟨a, cap, by rw [he, hln], hc, hb⟩
  have HOf : Hid (∀ (a : Option Addr) cap W, Cells W a (intsL (mem N)) → Calls Tryd.prog 17 #[.slice a ln cap] W fun e w' => e = .returned (.tuple #[setV N, .int .i64 0]) ∧ Below W.heap.size W w') := fun a cap W hc => by
    have h1 : Cells W a (((mem N).map fun (x : Nat) => (x : Int)).map (Value.int .i64)) := by rw [List.map_map]; exact hc
    have := of_any a cap _ W h1 (by rw [List.length_map]; have := mem_length N; omega)
    rwa [List.length_map, ← hln, ofL_mem hN] at this
  clear hln hN hg hsane
  go_enter Tryd.func10, Tryd.ntmps10
  simp only [setV]
  go_upto_region 3 with (first | (go_at_call 16; refine (HS.out _ (HG.out.below (below_new1 _ _))).mono ?_; rintro e w2 ⟨rfl, hb⟩))
  refine named (fun V => Gl V ∧ Below w.heap.size w V ∧ Blk V w.heap.size (setA N) 25) ⟨(HG.out.below (below_new1 _ _)).below hb, (below_new1 _ _).trans (hb.mono (by simp)), (Blk.newW _ _ _).below hb (by simp)⟩ ?_
  clear hb HS HG
  rintro W0 ⟨FG, FB, K2⟩
  replace FG := Lib.hid FG; replace FB := Lib.hid FB; replace K2 := Lib.hid K2
  have l0 : Hid (w.heap.size ≤ w.heap.size) := Nat.le_refl _
  generalize hb2 : w.heap.size = b2 at K2 ⊢
  have L2 := Lib.hid hb2
  clear hb2 l0
  obtain ⟨c0, c1, c2, c3, cf⟩ := K2.out.set4
  go_upto_region 4 with (first | (go_at_call 26; refine (HMe.out _ FG.out).mono ?_; rintro e w2 ⟨a, cap, rfl, hc, hb⟩))
  have HC := Lib.hid hc
  have FB2 := Lib.hid (FB.out.trans (hb.mono FB.out.size))
  have FG2 := Lib.hid (FG.out.below hb)
  have K22 := Lib.hid (K2.out.below hb K2.out.lt)
  clear FB FG K2 hc hb c0 c1 c2 c3 cf HMe
  go_upto_region 5 with (first | (go_at_call 17; refine (HOf.out _ _ _ HC.out).mono ?_; rintro e w3 ⟨rfl, hb⟩; simp only [setV]))
  refine named (fun V => MbS N a b2 w V ∧ Blk V w3.heap.size (setA N) 25) ⟨MbS.below (MbS.below ⟨FG2.out, FB2.out, K22.out, HC.out⟩ hb) (below_new1 _ _), Blk.newW _ _ _⟩ ?_
  clear hb HC FB2 FG2 K22 HOf
  rintro W2 ⟨FS, K6⟩
  replace FS := Lib.hid FS
  generalize w3.heap.size = b6 at K6 ⊢
  obtain ⟨c0, c1, c2, c3, cf⟩ := FS.out.2.2.1.set4
  obtain ⟨d0, d1, d2, d3, df⟩ := K6.set4
  have z1 : eqS N N = true := eqS_refl N
  have z2 : decide (256 < ln) = false := decide_eq_false (by omega)
  clear K6
  go_wp2_with (first | (go_at_call 37; refine (HSz.out _).mono ?_; rintro e w4 ⟨rfl, hb⟩; replace FS := Lib.hid (FS.out.below hb); clear hb c0 c1 c2 c3 cf d0 d1 d2 d3 df HSz z1))
  obtain ⟨W3, hW3⟩ : ∃ W, W = w4 := ⟨_, rfl⟩
  go_loopw [8, 9, 10] (fun at_ fd i wr => ∃ (pre : List Nat) (m : Int), Hid (mem N = pre ++ mfrom N m) ∧ -1 ≤ m ∧ m < 256 ∧ at_ = .int .i64 m ∧ fd = .bool (isIn pre n) ∧ i = .int .i64 (pre.length : Int) ∧ MbS N a b2 w wr) (fun _ _ i _ => 300 - (intOf i).toNat)
  case atStart => exact ⟨[], -1, (show mem N = [] ++ mfrom N (-1) from mem_eq N), by omega, by omega, rfl, rfl, rfl, FS.out⟩
  case round =>
    obtain ⟨pre, m, HP, hm1, hm2, rfl, rfl, rfl, hS⟩ := hrel
    have HSr := Lib.hid hS
    clear hS FS hW3
    obtain ⟨k, hk⟩ : ∃ k, k = pre.length := ⟨_, rfl⟩
    rw [← hk]
    have HKL := Lib.hid hk
    obtain ⟨f, hf⟩ : ∃ f, f = isIn pre n := ⟨_, rfl⟩
    rw [← hf]
    have HF := Lib.hid hf
    clear hk hf
    cases hn : nextO N m with
    | none =>
      have hkl : k = ln := by rw [HKL.out, HLN.out, HP.out, mfrom_none hn, List.append_nil]
      have t1 : decide (k < ln) = false := decide_eq_false (by omega)
      have HNx : Hid (∀ w, Gl w → Calls Tryd.prog 21 #[setV N, .int .i64 m] w fun e w' => e = .returned (.tuple #[.int .i64 0, .bool false]) ∧ Below w.heap.size w w') := fun w hg => next_none hn w hg
      have HHa : Hid (∀ w, Calls Tryd.prog 27 #[setV N, .int .i64 n] w fun e w' => e = .returned (.bool f) ∧ Below w.heap.size w w') := fun w => by
        have e : hasB N n = f := by rw [HF.out, ← isIn_mem HNL.out, HP.out, mfrom_none hn, List.append_nil]
        have := has_any N n w
        rwa [e] at this
      obtain ⟨c0, c1, c2, c3, cf⟩ := HSr.out.2.2.1.set4
      clear hn hkl
      go_wp2_with (first | (go_at_call 21; refine (HNx.out _ HSr.out.1).mono ?_; rintro e w5 ⟨rfl, hb⟩; replace HSr := Lib.hid (HSr.out.below hb); clear hb c0 c1 c2 c3 cf HNx; obtain ⟨c0, c1, c2, c3, cf⟩ := HSr.out.2.2.1.set4) | (go_at_call 27; refine (HHa.out _).mono ?_; rintro e w6 ⟨rfl, hb⟩; replace HSr := Lib.hid (HSr.out.below hb); clear hb HHa))
      go_ret
      exact ⟨by cases f <;> simp, HSr.out.2.1⟩
    | some j =>
      obtain ⟨hj1, hj2, hj3, _⟩ := of_next_some hn
      have HP2 : Hid (mem N = (pre ++ [j]) ++ mfrom N j) := by rw [Hid, HP.out, mfrom_some hn]; simp
      have hkl : k < ln := by rw [HKL.out, HLN.out, HP2.out]; simp <;> omega
      have t1 : decide (k < ln) = true := decide_eq_true hkl
      have hget : (intsL (mem N))[k]? = some (.int .i64 (j : Int)) := by
        unfold intsL
        rw [List.getElem?_map, HP2.out, HKL.out]; simp
      obtain ⟨rb, ro, ha⟩ : ∃ rb ro, a = some ⟨rb, ro, none⟩ := by
        rcases HSr.out.2.2.2 with h | ⟨b, o, ha, _⟩
        · rw [h] at hget; cases hget
        · exact ⟨b, o, ha⟩
      subst ha
      have HCell : Hid (∀ W, MbS N (some ⟨rb, ro, none⟩) b2 w W → W.cell? ⟨rb, ro + k, none⟩ = some (.int .i64 (j : Int))) := fun W h => cells_at h.2.2.2 hget
      obtain ⟨R, hR⟩ : ∃ R, R = diff N (2 ^ j) := ⟨_, rfl⟩
      have HHj : Hid (∀ w, Calls Tryd.prog 27 #[setV N, .int .i64 (j : Int)] w fun e w' => e = .returned (.bool true) ∧ Below w.heap.size w w') := fun w => by
        have := has_any N j w; rwa [hasB_nat HNL.out, hj3] at this
      have HNx : Hid (∀ w, Gl w → Calls Tryd.prog 21 #[setV N, .int .i64 m] w fun e w' => e = .returned (.tuple #[.int .i64 (j : Int), .bool true]) ∧ Below w.heap.size w w') := fun w hg => by
        have := next_any N m w hg; rwa [hn] at this
      have HWo : Hid (∀ w, Calls Tryd.prog 29 #[setV N, .int .i64 (j : Int)] w fun e w' => e = .returned (setV R) ∧ Below w.heap.size w w') := fun w => by
        have := without_any N j w
        rwa [show woN N (j : Int) = R by rw [hR]; unfold woN; rw [if_pos (by omega), Int.toNat_natCast]] at this
      have HHR : Hid (∀ w, Calls Tryd.prog 27 #[setV R, .int .i64 (j : Int)] w fun e w' => e = .returned (.bool false) ∧ Below w.heap.size w w') := fun w => by
        have := has_any R j w
        rwa [hasB_nat (by rw [hR]; exact diff_lt HNL.out), show R.testBit j = false by rw [hR, testBit_diff, Nat.testBit_two_pow]; simp] at this
      have HWi : Hid (∀ w, Calls Tryd.prog 19 #[setV R, .int .i64 (j : Int)] w fun e w' => e = .returned (.tuple #[setV N, .int .i64 0]) ∧ Below w.heap.size w w') := fun w => by
        have := with_in R j w hj2
        rwa [hR, wo_back hj3, ← hR] at this
      have HSR : Hid (∀ w, Calls Tryd.prog 37 #[setV R] w fun e w' => e = .returned (.int .i64 ((ln : Int) - 1)) ∧ Below w.heap.size w w') := fun w => by
        have := size_any R w
        rwa [show ((card R : Nat) : Int) = (ln : Int) - 1 by have := card_wo hj3 hj2; rw [← hR] at this; have h2 := HLN.out; rw [mem_card] at h2; omega] at this
      have q1 : decide ((j : Int) ≤ m) = false := decide_eq_false (by omega)
      have q2 : decide ((255 : Int) < (j : Int)) = false := decide_eq_false (by omega)
      have QQ : Hid (k < ln ∧ ln ≤ 256 ∧ -1 ≤ m ∧ m < j ∧ j < 256) := ⟨hkl, hl256, hm1, hj1, hj2⟩
      have Q1 := Lib.hid q1; have Q2 := Lib.hid q2
      clear hR hn hj1 hj2 hj3 hget q1 q2
      go_upto_region 12 with (fail)
      obtain ⟨W4, hW4⟩ : ∃ W, W = wr := ⟨_, rfl⟩
      have HB4 : Hid (Blk wr b2 (setA N) 25) := HSr.out.2.2.1
      refine wp_region_old 22 158 (by kernel_rfl) (by kernel_rfl) (by rfl) ?_
      simp only [List.take_succ_cons, List.take_zero, List.drop_succ_cons, List.drop_zero, List.drop_nil]
      refine chain_move (.slice (some ⟨rb, ro, none⟩) ln cap) _ (fun _ _ => Below.refl _ _) rfl rfl (by kernel_rfl) (by kernel_rfl) rfl ?_
      refine chain_move (.int .i64 k) _ (fun _ _ => Below.refl _ _) rfl rfl (by kernel_rfl) (by kernel_rfl) rfl ?_
      refine chain_idx (.pointer (some ⟨rb, ro + k, none⟩)) _ _ _ (.slice (some ⟨rb, ro, none⟩) ln cap) (.int .i64 k) (fun _ _ => Below.refl _ _) rfl rfl (by kernel_rfl) (by kernel_rfl) rfl rfl (fun w1 => idx_int _ _ _ _ _ QQ.out.1 w1) ?_
      refine chain_load (.int .i64 (j : Int)) _ _ _ (fun _ _ => Below.refl _ _) rfl rfl (by kernel_rfl) (by kernel_rfl) rfl (fun w1 hC => load_int_p (HCell.out w1 (HSr.out.old hC))) ?_
      refine chain_move (.int .i64 m) _ (fun _ _ => Below.refl _ _) rfl rfl (by kernel_rfl) (by kernel_rfl) rfl ?_
      refine chain_bin (.bool false) _ _ _ _ _ (.int .i64 (j : Int)) (.int .i64 m) (fun _ _ => Below.refl _ _) rfl rfl (by kernel_rfl) (by kernel_rfl) rfl rfl (fun w1 => leq_int _ _ _ _ _ _ Q1.out w1) ?_
      refine chain_move (.bool false) _ (fun _ _ => Below.refl _ _) rfl rfl (by kernel_rfl) (by kernel_rfl) rfl ?_
      refine chain_move (.slice (some ⟨rb, ro, none⟩) ln cap) _ (fun _ _ => Below.refl _ _) rfl rfl (by kernel_rfl) (by kernel_rfl) rfl ?_
      refine chain_move (.int .i64 k) _ (fun _ _ => Below.refl _ _) rfl rfl (by kernel_rfl) (by kernel_rfl) rfl ?_
      refine chain_idx (.pointer (some ⟨rb, ro + k, none⟩)) _ _ _ (.slice (some ⟨rb, ro, none⟩) ln cap) (.int .i64 k) (fun _ _ => Below.refl _ _) rfl rfl (by kernel_rfl) (by kernel_rfl) rfl rfl (fun w1 => idx_int _ _ _ _ _ QQ.out.1 w1) ?_
      refine chain_load (.int .i64 (j : Int)) _ _ _ (fun _ _ => Below.refl _ _) rfl rfl (by kernel_rfl) (by kernel_rfl) rfl (fun w1 hC => load_int_p (HCell.out w1 (HSr.out.old hC))) ?_
      refine chain_bin (.bool false) _ _ _ _ _ (.int .i64 (j : Int)) (.int .i64 255) (fun _ _ => Below.refl _ _) rfl rfl (by kernel_rfl) (by kernel_rfl) rfl rfl (fun w1 => gtr_int _ _ _ _ _ _ Q2.out w1) ?_
      refine chain_pick (.bool false) _ _ _ false (fun _ _ => Below.refl _ _) rfl rfl (by kernel_rfl) (by kernel_rfl) rfl rfl ?_
      refine chain_move (.bool false) _ (fun _ _ => Below.refl _ _) rfl rfl (by kernel_rfl) (by kernel_rfl) rfl ?_
      refine chain_load (setV N) _ _ _ (fun _ _ => Below.refl _ _) rfl rfl (by kernel_rfl) (by kernel_rfl) rfl (fun w1 hC => load_set (HB4.out.drew.below hC HB4.out.lt)) ?_
      refine chain_move (.slice (some ⟨rb, ro, none⟩) ln cap) _ (fun _ _ => Below.refl _ _) rfl rfl (by kernel_rfl) (by kernel_rfl) rfl ?_
      refine chain_move (.int .i64 k) _ (fun _ _ => Below.refl _ _) rfl rfl (by kernel_rfl) (by kernel_rfl) rfl ?_
      refine chain_idx (.pointer (some ⟨rb, ro + k, none⟩)) _ _ _ (.slice (some ⟨rb, ro, none⟩) ln cap) (.int .i64 k) (fun _ _ => Below.refl _ _) rfl rfl (by kernel_rfl) (by kernel_rfl) rfl rfl (fun w1 => idx_int _ _ _ _ _ QQ.out.1 w1) ?_
      refine chain_load (.int .i64 (j : Int)) _ _ _ (fun _ _ => Below.refl _ _) rfl rfl (by kernel_rfl) (by kernel_rfl) rfl (fun w1 hC => load_int_p (HCell.out w1 (HSr.out.old hC))) ?_
      refine chain_call (.bool true) 27 [setV N, .int .i64 (j : Int)] _ _ (enters_of Tryd.func27 (by kernel_rfl) rfl) rfl rfl rfl (by kernel_rfl) (by kernel_rfl) rfl rfl (fun w1 _ => HHj.out w1) ?_
      refine chain_un (.bool false) _ _ _ (.bool true) (fun _ _ => Below.refl _ _) rfl rfl (by kernel_rfl) (by kernel_rfl) rfl (fun w => un_not _ w) ?_
      refine chain_pick (.bool false) _ _ _ false (fun _ _ => Below.refl _ _) rfl rfl (by kernel_rfl) (by kernel_rfl) rfl rfl ?_
      refine chain_end (by rfl) ?_
      intro xs V5 hCV5 hreV5
      simp only [layE, List.foldr_cons, List.foldr_nil, List.set_cons_succ, List.set_cons_zero]
      have FS5 := Lib.hid (HSr.out.old hCV5)
      clear hCV5 hreV5 HB4 hW4 HHj
      obtain ⟨c0, c1, c2, c3, cf⟩ := FS5.out.2.2.1.set4
      go_upto_region 15 with (first | (go_at_call 21; refine (HNx.out _ FS5.out.1).mono ?_; rintro e V6 ⟨rfl, hb⟩; have FS6 := Lib.hid (FS5.out.below hb); clear hb c0 c1 c2 c3 cf HNx FS5))
      have HB6 : Hid (Blk V6 b2 (setA N) 25) := FS6.out.2.2.1
      refine wp_region_old2 (Z := (fun e => if e = 25 then Tryd.zv25 else .bool false)) 7 158 [25] (by kernel_rfl) (by kernel_rfl) (by kernel_rfl) (by kernel_rfl) (by intro e he w; simp only [List.mem_cons, List.not_mem_nil, or_false] at he; rcases he with rfl <;> first | exact Tryd.zeroValue25 w) (by rfl) ?_
      simp only [List.take_succ_cons, List.take_zero, List.drop_succ_cons, List.drop_zero, List.drop_nil]
      refine chain_load (setV N) _ _ _ (fun _ _ => Below.refl _ _) rfl rfl (by kernel_rfl) (by kernel_rfl) rfl (fun w1 hC => load_set (HB6.out.drew.below hC HB6.out.lt)) ?_
      refine chain_move (.slice (some ⟨rb, ro, none⟩) ln cap) _ (fun _ _ => Below.refl _ _) rfl rfl (by kernel_rfl) (by kernel_rfl) rfl ?_
      refine chain_move (.int .i64 k) _ (fun _ _ => Below.refl _ _) rfl rfl (by kernel_rfl) (by kernel_rfl) rfl ?_
      refine chain_idx (.pointer (some ⟨rb, ro + k, none⟩)) _ _ _ (.slice (some ⟨rb, ro, none⟩) ln cap) (.int .i64 k) (fun _ _ => Below.refl _ _) rfl rfl (by kernel_rfl) (by kernel_rfl) rfl rfl (fun w1 => idx_int _ _ _ _ _ QQ.out.1 w1) ?_
      refine chain_load (.int .i64 (j : Int)) _ _ _ (fun _ _ => Below.refl _ _) rfl rfl (by kernel_rfl) (by kernel_rfl) rfl (fun w1 hC => load_int_p (HCell.out w1 (FS6.out.old hC))) ?_
      refine chain_call (setV R) 29 [setV N, .int .i64 (j : Int)] _ _ (enters_of Tryd.func29 (by kernel_rfl) rfl) rfl rfl rfl (by kernel_rfl) (by kernel_rfl) rfl rfl (fun w1 _ => HWo.out w1) ?_
      refine chain_alloc 25 Tryd.zv25 rfl rfl (by kernel_rfl) (by kernel_rfl) (fun w => Tryd.zeroValue25 w) ?_
      refine chain_end2 (by rfl) ?_
      intro xs V7 hCV7 hreV7 hNV7
      simp only [layE, List.foldr_cons, List.foldr_nil, List.set_cons_succ, List.set_cons_zero] at hNV7 ⊢
      obtain ⟨s6, hb6⟩ := hreV7 13 ptr_w rfl
      simp only [hb6] at hNV7 ⊢
      obtain ⟨bx6, hx6, hB6, hk6⟩ := hNV7.1 6 _ _ 13 (by decide) (by rfl) (by rfl) rfl rfl rfl
      obtain rfl : s6 = bx6 := by simpa using hx6
      clear hx6
      clear hNV7 hreV7 hb6
      have FS7 := Lib.hid (FS6.out.old hCV7)
      have z13 : Blk V7 s6 (setA 0) 25 := by rw [setA_zero]; exact hk6
      have hlow : Hid (V6.heap.size ≤ s6) := hB6
      have hbel : Hid (Below V6.heap.size V6 V7) := (Below.refl _ V6).drew.trans hCV7
      have Z13 := Lib.hid z13
      obtain ⟨u0, u1, u2, u3, uf⟩ := z13.set4
      clear hCV7 hk6 hB6 z13 HB6 HWo
      simp only [setV]
      go_upto_region 16 with (fail)
      refine named (fun V => MbS N (some ⟨rb, ro, none⟩) b2 w V ∧ Blk V s6 (setA R) 25) ⟨FS6.out.below (below_put4 hbel.out hlow.out _ _ _ _), Z13.out.putS R⟩ ?_
      clear FS6 FS7 hlow hbel Z13 u0 u1 u2 u3 uf
      rintro V8 ⟨FS8, K13⟩
      replace FS8 := Lib.hid FS8; replace K13 := Lib.hid K13
      obtain ⟨c0, c1, c2, c3, cf⟩ := K13.out.set4
      have cj := HCell.out _ FS8.out
      have t1n := QQ.out.1
      have hl13 := K13.out.lt
      have hlrb : rb < V8.heap.size := block_lt_of_cell cj
      have hdr : V8.drew.heap.size = V8.heap.size := rfl
      go_region_with (go_at_call 19; refine (HWi.out _).mono ?_; rintro e w9 ⟨rfl, hb⟩; obtain ⟨hce, hfe⟩ := bcell hb; have hsz := hb.size; have Hb := Lib.hid hb; clear hb; simp only [setV])
      all_goals go_upto_region 17 with (fail)
      all_goals first
        | (have hb9 : Below V8.drew.heap.size V8.drew w9 := Hb.out; refine named (fun V => MbS N (some ⟨rb, ro, none⟩) b2 w V ∧ Blk V s6 (setA R) 25 ∧ Blk V w9.heap.size (setA N) 25) ⟨(FS8.out.old hb9).below (below_new1 _ _), (K13.out.drew.below hb9 K13.out.lt).alloc _, Blk.newW _ _ _⟩ ?_; clear hb9 Hb K13 FS8 hce hfe hsz c0 c1 c2 c3 cf cj t1n hl13 hlrb hdr; rintro V9 ⟨FS9, K13, K14⟩; generalize w9.heap.size = t9 at K14 ⊢)
        | (refine named (fun V => MbS N (some ⟨rb, ro, none⟩) b2 w V ∧ Blk V s6 (setA R) 25 ∧ Blk V V8.heap.size (setA N) 25) ⟨FS8.out.below (below_put4 ((below_new1 V8 _).drew.trans (Hb.out.mono (by simp))) (Nat.le_refl _) _ _ _ _), (((K13.out.alloc _).drew.below Hb.out (by simp; omega)).other4 (by omega) _ _ _ _), (((Blk.newS V8 _).drew.below Hb.out (by simp)).putS N)⟩ ?_; clear Hb K13 FS8 hce hfe hsz c0 c1 c2 c3 cf cj t1n hl13 hlrb hdr; rintro V9 ⟨FS9, K13, K14⟩; generalize V8.heap.size = t9 at K14 ⊢)
      all_goals
        replace FS9 := Lib.hid FS9; replace K13 := Lib.hid K13; replace K14 := Lib.hid K14
      all_goals
        simp only [Act.put, List.getElem_toArray, List.getElem_cons_succ, List.getElem_cons_zero, List.setIfInBounds_toArray, List.set_cons_succ, List.set_cons_zero]
        have HB9 : Hid (Blk V9 b2 (setA N) 25) := FS9.out.2.2.1
        refine wp_region_old 35 158 (by kernel_rfl) (by kernel_rfl) (by rfl) ?_
        simp only [List.take_succ_cons, List.take_zero, List.drop_succ_cons, List.drop_zero, List.drop_nil]
        refine chain_move (.bool true) _ (fun _ _ => Below.refl _ _) rfl rfl (by kernel_rfl) (by kernel_rfl) rfl ?_
        refine chain_un (.bool false) _ _ _ (.bool true) (fun _ _ => Below.refl _ _) rfl rfl (by kernel_rfl) (by kernel_rfl) rfl (fun w => un_not _ w) ?_
        refine chain_move (.bool false) _ (fun _ _ => Below.refl _ _) rfl rfl (by kernel_rfl) (by kernel_rfl) rfl ?_
        refine chain_move (.int .i64 (j : Int)) _ (fun _ _ => Below.refl _ _) rfl rfl (by kernel_rfl) (by kernel_rfl) rfl ?_
        refine chain_move (.slice (some ⟨rb, ro, none⟩) ln cap) _ (fun _ _ => Below.refl _ _) rfl rfl (by kernel_rfl) (by kernel_rfl) rfl ?_
        refine chain_move (.int .i64 k) _ (fun _ _ => Below.refl _ _) rfl rfl (by kernel_rfl) (by kernel_rfl) rfl ?_
        refine chain_idx (.pointer (some ⟨rb, ro + k, none⟩)) _ _ _ (.slice (some ⟨rb, ro, none⟩) ln cap) (.int .i64 k) (fun _ _ => Below.refl _ _) rfl rfl (by kernel_rfl) (by kernel_rfl) rfl rfl (fun w1 => idx_int _ _ _ _ _ QQ.out.1 w1) ?_
        refine chain_load (.int .i64 (j : Int)) _ _ _ (fun _ _ => Below.refl _ _) rfl rfl (by kernel_rfl) (by kernel_rfl) rfl (fun w1 hC => load_int_p (HCell.out w1 (FS9.out.old hC))) ?_
        refine chain_bin (.bool false) _ _ _ _ _ (.int .i64 (j : Int)) (.int .i64 (j : Int)) (fun _ _ => Below.refl _ _) rfl rfl (by kernel_rfl) (by kernel_rfl) rfl rfl (fun w => neq_int_same _ _ _ _ w) ?_
        refine chain_pick (.bool false) _ _ _ false (fun _ _ => Below.refl _ _) rfl rfl (by kernel_rfl) (by kernel_rfl) rfl rfl ?_
        refine chain_move (.bool false) _ (fun _ _ => Below.refl _ _) rfl rfl (by kernel_rfl) (by kernel_rfl) rfl ?_
        refine chain_load (setV R) _ _ _ (fun _ _ => Below.refl _ _) rfl rfl (by kernel_rfl) (by kernel_rfl) rfl (fun w1 hC => load_set (K13.out.drew.below hC K13.out.lt)) ?_
        refine chain_move (.slice (some ⟨rb, ro, none⟩) ln cap) _ (fun _ _ => Below.refl _ _) rfl rfl (by kernel_rfl) (by kernel_rfl) rfl ?_
        refine chain_move (.int .i64 k) _ (fun _ _ => Below.refl _ _) rfl rfl (by kernel_rfl) (by kernel_rfl) rfl ?_
        refine chain_idx (.pointer (some ⟨rb, ro + k, none⟩)) _ _ _ (.slice (some ⟨rb, ro, none⟩) ln cap) (.int .i64 k) (fun _ _ => Below.refl _ _) rfl rfl (by kernel_rfl) (by kernel_rfl) rfl rfl (fun w1 => idx_int _ _ _ _ _ QQ.out.1 w1) ?_
        refine chain_load (.int .i64 (j : Int)) _ _ _ (fun _ _ => Below.refl _ _) rfl rfl (by kernel_rfl) (by kernel_rfl) rfl (fun w1 hC => load_int_p (HCell.out w1 (FS9.out.old hC))) ?_
        refine chain_call (.bool false) 27 [setV R, .int .i64 (j : Int)] _ _ (enters_of Tryd.func27 (by kernel_rfl) rfl) rfl rfl rfl (by kernel_rfl) (by kernel_rfl) rfl rfl (fun w1 _ => HHR.out w1) ?_
        refine chain_pick (.bool false) _ _ _ false (fun _ _ => Below.refl _ _) rfl rfl (by kernel_rfl) (by kernel_rfl) rfl rfl ?_
        refine chain_move (.bool false) _ (fun _ _ => Below.refl _ _) rfl rfl (by kernel_rfl) (by kernel_rfl) rfl ?_
        refine chain_load (setV N) _ _ _ (fun _ _ => Below.refl _ _) rfl rfl (by kernel_rfl) (by kernel_rfl) rfl (fun w1 hC => load_set (K14.out.drew.below hC K14.out.lt)) ?_
        refine chain_load (setV N) _ _ _ (fun _ _ => Below.refl _ _) rfl rfl (by kernel_rfl) (by kernel_rfl) rfl (fun w1 hC => load_set (HB9.out.drew.below hC HB9.out.lt)) ?_
        refine chain_bin (.bool false) _ _ _ _ _ (setV N) (setV N) (fun _ _ => Below.refl _ _) rfl rfl (by kernel_rfl) (by kernel_rfl) rfl rfl (fun w => neq_set_same _ _ _ w) ?_
        refine chain_pick (.bool false) _ _ _ false (fun _ _ => Below.refl _ _) rfl rfl (by kernel_rfl) (by kernel_rfl) rfl rfl ?_
        refine chain_move (.bool false) _ (fun _ _ => Below.refl _ _) rfl rfl (by kernel_rfl) (by kernel_rfl) rfl ?_
        refine chain_move (.int .i64 0) _ (fun _ _ => Below.refl _ _) rfl rfl (by kernel_rfl) (by kernel_rfl) rfl ?_
        refine chain_bin (.bool false) _ _ _ _ _ (.int .i64 0) (.int .i64 0) (fun _ _ => Below.refl _ _) rfl rfl (by kernel_rfl) (by kernel_rfl) rfl rfl (fun w => neq_int_same _ _ _ _ w) ?_
        refine chain_pick (.bool false) _ _ _ false (fun _ _ => Below.refl _ _) rfl rfl (by kernel_rfl) (by kernel_rfl) rfl rfl ?_
        refine chain_move (.bool false) _ (fun _ _ => Below.refl _ _) rfl rfl (by kernel_rfl) (by kernel_rfl) rfl ?_
        refine chain_load (setV R) _ _ _ (fun _ _ => Below.refl _ _) rfl rfl (by kernel_rfl) (by kernel_rfl) rfl (fun w1 hC => load_set (K13.out.drew.below hC K13.out.lt)) ?_
        refine chain_call (.int .i64 ((ln : Int) - 1)) 37 [setV R] _ _ (enters_of Tryd.func37 (by kernel_rfl) rfl) rfl rfl rfl (by kernel_rfl) (by kernel_rfl) rfl rfl (fun w1 _ => HSR.out w1) ?_
        refine chain_move (.slice (some ⟨rb, ro, none⟩) ln cap) _ (fun _ _ => Below.refl _ _) rfl rfl (by kernel_rfl) (by kernel_rfl) rfl ?_
        refine chain_len (.int .i64 ln) _ _ (.slice (some ⟨rb, ro, none⟩) ln cap) _ (fun _ _ => Below.refl _ _) rfl rfl rfl rfl rfl (by kernel_rfl) (by kernel_rfl) rfl (fun ty cs w => run_len_slice _ _ _ ty cs w) ?_
        refine chain_bin (.int .i64 ((ln : Int) - 1)) _ _ _ _ _ (.int .i64 ln) (.int .i64 1) (fun _ _ => Below.refl _ _) rfl rfl (by kernel_rfl) (by kernel_rfl) rfl rfl (fun w1 => sub_small _ _ _ _ _ _ rfl (by have := QQ.out; omega) w1) ?_
        refine chain_bin (.bool false) _ _ _ _ _ (.int .i64 ((ln : Int) - 1)) (.int .i64 ((ln : Int) - 1)) (fun _ _ => Below.refl _ _) rfl rfl (by kernel_rfl) (by kernel_rfl) rfl rfl (fun w => neq_int_same _ _ _ _ w) ?_
        refine chain_pick (.bool false) _ _ _ false (fun _ _ => Below.refl _ _) rfl rfl (by kernel_rfl) (by kernel_rfl) rfl rfl ?_
        refine chain_end (by rfl) ?_
        intro xs VA hCVA hreVA
        simp only [layE, List.foldr_cons, List.foldr_nil, List.set_cons_succ, List.set_cons_zero]
        have FSA := Lib.hid (FS9.out.old hCVA)
        have cj := HCell.out _ FSA.out
        have hlrb : rb < VA.heap.size := block_lt_of_cell cj
        have kl := QQ.out.1
        clear hCVA hreVA HB9 K13 K14 FS9 HHR HSR HWi t1
        cases f
        · go_wp2_with fail
          exact ⟨⟨pre ++ [j], j, HP2, by have := QQ.out; omega, by have := QQ.out; omega, rfl, by rw [isIn_snoc, ← HF.out]; rfl, by rw [List.length_append, HKL.out]; simp, FSA.out⟩, by have := QQ.out; simp [intOf]; omega⟩
        · go_wp2_with fail
          exact ⟨⟨pre ++ [j], j, HP2, by have := QQ.out; omega, by have := QQ.out; omega, rfl, by rw [isIn_snoc, ← HF.out]; rfl, by rw [List.length_append, HKL.out]; simp, FSA.out⟩, by have := QQ.out; simp [intOf]; omega⟩
end Go.Proofs.YtfeknabddcohoaaDoor
namespace Go.Proofs.YtfeknabddcohoaaDoor
set_option linter.unusedSimpArgs false
set_option linter.unusedVariables false
open Go Go.RowKit Go.ChangeShapes Go.WideShapes Go.ChangeAt

set_option maxRecDepth 100000 in
theorem bitsMembers_lifted (os : Os) (started : os.Started) (H : Type) (enc : TypeId × Value → H) :
    ReturnsInHanded {} Tryd.checked os 10 .any (fun w args => (Rows.bitsMembersSpec.pre enc Tryd.prog Tryd.f10 [] false w args ∧ laidMetH Tryd.prog laidS w) ∧ sizedMet enc Tryd.prog Tryd.f10 (OpenSpec.ofChange Rows.bitsMembersSpec) false w args)
      (Rows.bitsMembersSpec.post enc Tryd.prog Tryd.f10 false true false false) := by
  refine lifted_of started (by kernel_rfl) Tryd.func10
    (ChangeSpec.witness_shaped (enc := enc) (C := Tryd.checked) (os := os) (X := fun w _ => laidMetH Tryd.prog laidS w) false (World.laidAll Tryd.prog os laidS) #[.agg #[.int .u64 0, .int .u64 0, .int .u64 0, .int .u64 0], .int .i64 0] 8 (World.laidAll_os _ _ _)
      (World.shaped_of_ZipB (by kernel_rfl) (by kernel_rfl)) (by kernel_rfl) (by kernel_rfl) (by kernel_rfl) (laid_met os _)) ?_
  intro W base args ds gs before hg hval0 hW _
  have hval : ∀ (j : Nat) t v, Tryd.f10.params[j]? = some t → args[j]? = some v → Value.okWide Tryd.prog W .any base t v := hval0
  have hW' := hW
  obtain ⟨p, q, hA0, hV, rfl, _, _⟩ := hW
  have hA : DataW.TrodAll enc Tryd.prog W 0 (fun _ => true) true Tryd.f10.params.toList args.toList ds p := hA0
  rw [Tryd.params10] at hA hval
  obtain ⟨v0, v1, d0, d1, p0, p1, rfl, rfl, rfl, h0, h1⟩ := trodAll_two hA
  obtain ⟨rfl, rfl⟩ := trodVars_none hV
  obtain ⟨x0, b0, rfl, rfl, rfl⟩ := open_set (hval 0 _ v0 rfl rfl) h0
  obtain ⟨x1, rfl, rfl, rfl, w1⟩ := open_int Tryd.underlying3 (hval 1 _ v1 rfl rfl) h1
  have b1 : -9223372036854775808 ≤ x1 ∧ x1 ≤ 9223372036854775807 := by simpa [Lit.wf, IntKind.min, IntKind.max, IntKind.signed, IntKind.bits] using w1
  simp only [List.append_nil] at hW'
  refine (bitsMembers_any sane_any x0 x1 W hg b0).mono fun e W' ⟨he, hb⟩ => ?_
  subst he
  exact ⟨_, rfl, _, _, _, [], [], [], hW', trodAll_mk1 (shut_bool Tryd.underlying4 _), trodAll_mk2 (shut_set x0) (shut_int Tryd.underlying3 w1), rfl, hb.frame _, fun h => by cases h⟩
theorem bitsMembers_holds : Rows.BitsMembersSaid :=
  OpenClaim.holds_of_wide 10 Tryd.f10 rfl rfl rfl rfl rfl rfl rfl ⟨rfl, rfl, rfl, rfl, rfl⟩ rfl rfl rfl rfl rfl (by kernel_rfl) Tryd.func10 (by kernel_rfl)
    (of_decide_eq_true (by kernel_rfl)) (by unfold Func.isWrapper; first | (rw [if_pos (by decide +kernel)]; kernel_rfl) | (rw [if_neg (by decide +kernel)]; exact ⟨rfl, rfl⟩))
    (fun os started H enc _ => bitsMembers_lifted os started H enc)
theorem bitsMembers_card : Rows.BitsMembersCardSaid :=
  Claim7.holds_tied_plain_at .later [] [.data, .data, .data, .sentinel, .sentinel] true Rows.bitsMembersCard.stood.harness true bitsMembers_holds (fun _ h => by cases h) (by kernel_rfl) (fun _ h => by cases h) bitsMembers_row_tie rfl ⟨rfl, rfl⟩ (by kernel_rfl) rfl
    (fun f fn hf hfn => by
      obtain rfl : f = 10 := Option.some.inj ((show Tryd.prog.funcNamed "bonehouse/bonehouselaw01.BitsMembers" = some 10 by kernel_rfl).symm.trans hf) |>.symm
      obtain rfl : fn = Tryd.f10 := (Option.some.inj (Tryd.func10.symm.trans hfn)).symm
      exact ⟨by kernel_rfl, fun j t ht => by
        rw [Tryd.params10] at ht
        have hm : t ∈ [25, 3] := by simpa using Array.mem_of_getElem? ht
        have hall : ([25, 3].all fun u => !Tryd.prog.wantsStandIn u) = true := by kernel_rfl
        exact (show Tryd.prog.wantsStandIn t = false by simpa using List.all_eq_true.1 hall t hm)⟩)
    (by kernel_rfl)
#print axioms bitsMembers_card
end Go.Proofs.YtfeknabddcohoaaDoor
