/- Layer 4: slices.Clone of ties. / Layer 4: the specification's Valid and Check. / Layer 4: slices.Index and Contains of ties. / Layer 4: slices.Contains of ties, and the closure of Merge. -/
import Derived.Test.YthjeiaildabadaaGreatK3
import Derived.Lib.SliceRun
/- Layer 4: slices.Clone of ties. -/
namespace Go.Proofs.YthjeiaildabadaaGreat
set_option linter.unusedSimpArgs false
set_option linter.unusedVariables false
open Go Go.RowKit

theorem infoT5 : ∃ i, Tryz.prog.info? 54 = some i ∧ i.zero = some (.agg #[.int .i64 0, .int .i64 0, .int .i64 0, .int .i64 0, .int .i64 0]) ∧ i.size = 5 ∧ i.bytes = 40 := by
  obtain ⟨i0, h⟩ := info_parts infoT
  exact ⟨i0, h⟩
theorem tvC_one (t : TieD) : ∀ u ∈ tvC t, u.oneCell' = true := by simp [tvC, Value.oneCell']
theorem tvL_one : ∀ (l : List TieD), ∀ u ∈ tvL l, u.oneCell' = true
  | [], u, h => by cases h
  | t :: l, u, h => by
    rcases List.mem_append.1 h with h | h
    · exact tvC_one t u h
    · exact tvL_one l u h
theorem tvL_cells {w : World} {b o : Nat} : ∀ {l : List TieD}, (∀ i t, l[i]? = some t → w.cell? ⟨b, o + i * 5, none⟩ = some (.int .i64 t.a) ∧ w.cell? ⟨b, o + i * 5 + 1, none⟩ = some (.int .i64 t.b) ∧ w.cell? ⟨b, o + i * 5 + 2, none⟩ = some (.int .i64 t.kind) ∧ w.cell? ⟨b, o + i * 5 + 3, none⟩ = some (.int .i64 t.str) ∧ w.cell? ⟨b, o + i * 5 + 4, none⟩ = some (.int .i64 t.src)) → ∀ (j : Nat) (u : Value), (tvL l)[j]? = some u → w.cell? ((⟨b, o, none⟩ : Addr).add j) = some u := fun {l} h j u hj => by
  rw [addr_plain]
  have hjl : j < l.length * 5 := by rw [← tvL_len]; exact (List.getElem?_eq_some_iff.1 hj).1
  have hi : j / 5 < l.length := by omega
  have h5 : ∀ {u' : Value}, (tvC l[j / 5])[j % 5]? = some u' → some u = some u' := fun {u'} hu => by
    have h6 := tvL_get (List.getElem?_eq_getElem hi) hu
    rw [show j / 5 * 5 + j % 5 = j by omega, hj] at h6
    exact h6
  obtain ⟨c0, c1, c2, c3, c4⟩ := h (j / 5) _ (List.getElem?_eq_getElem hi)
  have hm : j % 5 < 5 := by omega
  have ej : o + j = o + j / 5 * 5 + j % 5 := by omega
  rw [ej]
  generalize l[j / 5] = t at *
  generalize o + j / 5 * 5 = q at *
  generalize j % 5 = r at *
  obtain rfl | rfl | rfl | rfl | rfl : r = 0 ∨ r = 1 ∨ r = 2 ∨ r = 3 ∨ r = 4 := by omega
  · have h6 := h5 (u' := .int .i64 t.a) rfl; injection h6 with h6; rw [h6]; exact c0
  · have h6 := h5 (u' := .int .i64 t.b) rfl; injection h6 with h6; rw [h6]; exact c1
  · have h6 := h5 (u' := .int .i64 t.kind) rfl; injection h6 with h6; rw [h6]; exact c2
  · have h6 := h5 (u' := .int .i64 t.str) rfl; injection h6 with h6; rw [h6]; exact c3
  · have h6 := h5 (u' := .int .i64 t.src) rfl; injection h6 with h6; rw [h6]; exact c4
/-- A slice of ties as an address with its cells. -/
theorem ties_src {w : World} {ad : Addr} {l : List TieD} (h : TiesAt w (some ad) l) : ∀ (j : Nat) (u : Value), (tvL l)[j]? = some u → w.cell? (ad.add j) = some u := by
  rcases h with rfl | ⟨b, o, e, hb, h⟩
  · intro j u hj; cases hj
  · injection e with e; subst e
    exact tvL_cells h
/-- A new empty slice. -/
theorem own_empty (w : World) (base : Nat) (e : TypeId) (size : Nat) (h : base ≤ w.heap.size) : (w.alloc (.cells #[] e)).ownsRow base e size (.slice (some ⟨w.heap.size, 0, none⟩) 0 0) 0 [] :=
  ⟨by simp, .inr ⟨w.heap.size, 0, #[], rfl, h, heap_alloc_new w _, Nat.le_refl _, by simp [maxLen], by simp, by simp⟩⟩
set_option maxRecDepth 100000 in
set_option maxHeartbeats 4000000 in
theorem Clone_any (a : Option Addr) (cap : Nat) (ts : List TieD) (w : World) (hl : ts.length ≤ 1000) (hs : TiesAt w a ts) :
    Calls Tryz.prog 77 #[.slice a ts.length cap] w fun e w' => ∃ v, e = .returned v ∧ w'.ownsRow w.heap.size 54 5 v ts.length (tvL ts) ∧ Below w.heap.size w w' := by
  obtain ⟨i0, hi0, hz0, hz1, hz2⟩ := info_parts infoT
  have qT : ∀ (w : World) (a : Option Addr) (n c n' c' : Nat), (binOp .eql 22 (.slice a n c) (.slice none n' c')).run Tryz.prog w = .ok (.bool a.isNone) w := fun w a n c n' c' => Lib.run_eql_slice_nil w _ _ a n c n' c' Tryz.underlying22
  cases a with
  | none =>
    have h0 : ts = [] := by exact hs.elim id fun ⟨_, _, h, _⟩ => by cases h
    subst h0
    clear hs hl
    simp only [List.length_nil]
    go_enter Tryz.func77, Tryz.ntmps77
    go_wp2_with fail
    refine bodyPost_ret (v := .slice none 0 0) (by simp [results, Tryz.results77, go_sem]) rfl ?_
    exact ⟨_, rfl, World.ownsRow_nil _ _ _ _, Below.refl _ _⟩
  | some ad =>
    have HS := Lib.hid hs
    obtain ⟨m, hm⟩ : ∃ m, m = ts.length := ⟨_, rfl⟩
    rw [← hm] at hl ⊢
    have HM := Lib.hid hm
    clear hs hm
    go_enter Tryz.func77, Tryz.ntmps77
    go_wp2_with (first | (at_builtin; go_loud (refine wpList_append_own _ rfl _ _ 22 rfl w.heap.size 54 i0 (.agg #[.int .i64 0, .int .i64 0, .int .i64 0, .int .i64 0, .int .i64 0]) 5 40 Tryz.underlying22 hi0 hz0 hz1 hz2 rfl (by decide) (.slice (some ⟨w.heap.size, 0, none⟩) 0 0) 0 [] rfl (own_empty w _ _ _ (Nat.le_refl _)) ad m cap (tvL ts) rfl (by rw [tvL_len, HM.out]) (ties_src (HS.out.below ((Below.refl _ _).alloc (Nat.le_refl _) _))) (tvL_one ts) (by simp only [maxLen]; omega) (by omega) (by simp) ?_; intro v2 w6 hown hgrow _; rw [Nat.zero_add, List.nil_append] at hown; have K6 := Lib.hid hown; have B6 : Hid (Below w.heap.size w w6) := ((Below.refl _ _).alloc (Nat.le_refl _) _).grown hgrow (by simp) (fun q hq => by cases hq; exact Nat.le_refl _); clear hown hgrow)))
    refine bodyPost_ret (v := v2) (by simp [results, Tryz.results77, go_sem]) rfl ?_
    exact ⟨_, rfl, K6.out, B6.out⟩
end Go.Proofs.YthjeiaildabadaaGreat
/- Layer 4: the specification's Valid and Check. -/
namespace Go.Proofs.YthjeiaildabadaaGreat
set_option linter.unusedSimpArgs false
set_option linter.unusedVariables false
open Go Go.RowKit

theorem rBet_any (n lo hi : Int) (w : World) :
    Calls Tryz.prog 79 #[.int .i64 n, .int .i64 lo, .int .i64 hi] w fun e w' => e = .returned (.bool (ftB n lo hi)) ∧ w = w' := by
  by_cases h : lo ≤ n
  · go_enter Tryz.func79, Tryz.ntmps79
    go_wp2
    go_ret
    exact ⟨by simp [ftB, h], rfl⟩
  · go_enter Tryz.func79, Tryz.ntmps79
    go_wp2
    go_ret
    exact ⟨by simp [ftB]; omega, rfl⟩
theorem kind_two (k : Int) : ftB k 1 2 = (k == 2 || k == 1) := by
  unfold ftB
  rw [Bool.eq_iff_iff]
  simp only [Bool.and_eq_true, Bool.or_eq_true, decide_eq_true_eq, beq_iff_eq]
  omega
theorem tie_cases2 (t : TieD) (n : Int) : (ftB t.a 0 (n - 1) = false ∧ tieB t n = false) ∨ (ftB t.a 0 (n - 1) = true ∧ ftB t.b 0 (n - 1) = false ∧ tieB t n = false) ∨ (ftB t.a 0 (n - 1) = true ∧ ftB t.b 0 (n - 1) = true ∧ t.a = t.b ∧ tieB t n = false) ∨
    (ftB t.a 0 (n - 1) = true ∧ ftB t.b 0 (n - 1) = true ∧ (t.a == t.b) = false ∧ ((ftB t.kind 1 2 = false ∧ tieB t n = false) ∨
      (ftB t.kind 1 2 = true ∧ ftB t.str 1 100 = false ∧ tieB t n = false) ∨ (ftB t.kind 1 2 = true ∧ ftB t.str 1 100 = true ∧ ftB t.src 0 4095 = false ∧ tieB t n = false) ∨ (ftB t.kind 1 2 = true ∧ ftB t.str 1 100 = true ∧ ftB t.src 0 4095 = true ∧ tieB t n = true))) := by
  rw [kind_two]
  unfold tieB
  cases ftB t.a 0 (n - 1) <;> cases ftB t.b 0 (n - 1) <;> by_cases h : t.a = t.b <;> cases (t.kind == 2 || t.kind == 1) <;> cases ftB t.str 1 100 <;> cases ftB t.src 0 4095 <;> simp [h]
set_option maxRecDepth 100000 in
set_option maxHeartbeats 2000000 in
theorem rValid_any (t : TieD) (n : Int) (w : World) (hn : 1 ≤ n ∧ n ≤ 32) :
    Calls Tryz.prog 80 #[tieV t, .int .i64 n] w fun e w' => e = .returned (.bool (tieB t n)) ∧ Below w.heap.size w w' := by
  have hc := tie_cases2 t n
  obtain ⟨m, rfl⟩ : ∃ m : Nat, n = ((m + 1 : Nat) : Int) := ⟨(n - 1).toNat, by omega⟩
  have hm : m < 32 := by omega
  clear hn
  have em : ((m + 1 : Nat) : Int) - 1 = (m : Int) := by omega
  rw [em] at hc
  clear em
  obtain ⟨a, b, kd, st, sr⟩ := t
  simp only at hc
  rcases hc with ⟨h1, hr⟩ | ⟨h1, h2, hr⟩ | ⟨h1, h2, rfl, hr⟩ | ⟨h1, h2, h3, ⟨h4, hr⟩ | ⟨h4, h6, hr⟩ | ⟨h4, h6, h7, hr⟩ | ⟨h4, h6, h7, hr⟩⟩
  all_goals (
    rw [hr]
    clear hr
    try (have t3 : (a != b) = true := by simpa using h3)
    go_enter Tryz.func80, Tryz.ntmps80
    simp only [tieV]
    go_wp2_with (first | (go_at_call 79; refine (rBet_any _ _ _ _).mono ?_; rintro e w' ⟨rfl, rfl⟩; (try simp only [h1]); (try simp only [h2]); (try simp only [h4]); (try simp only [h6]); (try simp only [h7])))
    all_goals (
      go_ret
      exact ⟨rfl, (Below.refl _ _).alloc (Nat.le_refl _) _⟩))
theorem load_tie {w : World} {b o : Nat} {t : TieD} (h0 : w.cell? ⟨b, o, none⟩ = some (.int .i64 t.a)) (h1 : w.cell? ⟨b, o + 1, none⟩ = some (.int .i64 t.b)) (h2 : w.cell? ⟨b, o + 2, none⟩ = some (.int .i64 t.kind)) (h3 : w.cell? ⟨b, o + 3, none⟩ = some (.int .i64 t.str)) (h4 : w.cell? ⟨b, o + 4, none⟩ = some (.int .i64 t.src)) :
    (Instr.loadAt 54 (.pointer (some ⟨b, o, none⟩))).run Tryz.prog w = .ok (tieV t) w := by
  simp [go_sem, Instr.loadAt, h0, h1, h2, h3, h4, tieV]
theorem idx_tie (b o n cap k : Nat) (h : k < n) (w : World) : (Instr.indexAt 22 (.slice (some ⟨b, o, none⟩) n cap) (.int .i64 k)).run Tryz.prog w = .ok (.pointer (some ⟨b, o + k * 5, none⟩)) w := by
  simp [go_sem, Instr.indexAt, h]
theorem un_not (a : Bool) (w : World) : (Op.unary .not (.bool a)).run Tryz.prog w = .ok (.bool (!a)) w := by
  simp [go_sem, Op.unary]
theorem load_slt {w : World} {b o : Nat} {a : Option Addr} {len cap : Nat} (h : w.cell? ⟨b, o, none⟩ = some (.slice a len cap)) : (Instr.loadAt 22 (.pointer (some ⟨b, o, none⟩))).run Tryz.prog w = .ok (.slice a len cap) w := by
  simp [go_sem, Instr.loadAt, h]
set_option maxRecDepth 100000 in
set_option maxHeartbeats 2000000 in
theorem rCheck_any (n : Int) (a : Option Addr) (cap : Nat) (ts : List TieD) (w : World) (hl : ts.length ≤ 9223372036854775807) (hs : TiesAt w a ts) :
    Calls Tryz.prog 46 #[gV n a ts.length cap] w fun e w' => e = .returned (.int .i64 (errG n ts)) ∧ Below w.heap.size w w' := by
  have HS := Lib.hid hs
  obtain ⟨m, hm⟩ : ∃ m, m = ts.length := ⟨_, rfl⟩
  have HOK : Hid (okG n ts = (ftB n 1 32 && decide (m ≤ 512) && ts.all (tieB · n))) := by rw [hm]; rfl
  unfold errG
  rw [← hm] at hl ⊢
  have HM := Lib.hid hm
  clear hs hm
  cases h1 : ftB n 1 32 with
  | false =>
    have HR : Hid (okG n ts = false) := by rw [Hid, HOK.out, h1]; rfl
    rw [HR.out]
    go_enter Tryz.func46, Tryz.ntmps46
    simp only [gV]
    go_wp2_with (first | (go_at_call 79; refine (rBet_any _ _ _ _).mono ?_; rintro e w' ⟨rfl, rfl⟩; simp only [h1]))
    go_ret
    exact ⟨rfl, (Below.refl _ _).alloc (Nat.le_refl _) _⟩
  | true =>
  by_cases h2 : m ≤ 512
  case neg =>
    have HR : Hid (okG n ts = false) := by rw [Hid, HOK.out, h1, decide_eq_false h2]; rfl
    rw [HR.out]
    have t2 : decide (512 < m) = true := decide_eq_true (by omega)
    go_enter Tryz.func46, Tryz.ntmps46
    simp only [gV]
    go_wp2_with (first | (go_at_call 79; refine (rBet_any _ _ _ _).mono ?_; rintro e w' ⟨rfl, rfl⟩; simp only [h1]))
    go_ret
    exact ⟨rfl, (Below.refl _ _).alloc (Nat.le_refl _) _⟩
  case pos =>
    have t2 : decide (512 < m) = false := decide_eq_false (by omega)
    have HR : Hid (okG n ts = ts.all (tieB · n)) := by rw [Hid, HOK.out, h1, decide_eq_true h2]; rfl
    rw [HR.out]
    obtain ⟨E, hE⟩ : ∃ E : Int, E = if ts.all (tieB · n) = true then 0 else 40 := ⟨_, rfl⟩
    have HEE := Lib.hid hE
    rw [← hE]
    clear hE
    have hn : 1 ≤ n ∧ n ≤ 32 := by unfold ftB at h1; simp only [Bool.and_eq_true, decide_eq_true_eq] at h1; exact h1
    have HT : Hid (∀ t W, Calls Tryz.prog 80 #[tieV t, .int .i64 n] W fun e w' => e = .returned (.bool (tieB t n)) ∧ Below W.heap.size W w') := fun t W => rValid_any t n W hn
    clear hn HOK HR
    go_enter Tryz.func46, Tryz.ntmps46
    simp only [gV]
    go_wp2_with (first | (go_at_call 79; refine (rBet_any _ _ _ _).mono ?_; rintro e w' ⟨rfl, rfl⟩; simp only [h1]))
    go_loopw [3] (fun ti wr => ∃ k : Nat, k ≤ m ∧ ti = .int .i64 k ∧ Hid ((ts.take k).all (tieB · n) = true) ∧ Blk wr w.heap.size [.int .i64 n, .slice a m cap] 24 ∧ Hid (Below w.heap.size w wr)) (fun ti _ => m - (intOf ti).toNat)
    case atStart => exact ⟨0, by omega, rfl, rfl, Blk.new w _ _, (Below.refl _ _).alloc (Nat.le_refl _) _⟩
    case round =>
      obtain ⟨k, hk, rfl, HA, hbk, HB⟩ := hrel
      have d0 := hbk.cell (i := 0) rfl
      have d1 := hbk.cell (i := 1) rfl
      have HK := Lib.hid hbk
      clear hbk
      by_cases hlt : k < m
      · have hkl : k < ts.length := by rw [← HM.out]; exact hlt
        have HAS : Hid ((ts.take (k + 1)).all (tieB · n) = tieB ts[k] n) := by rw [Hid, tall_step hkl, HA.out, Bool.true_and]
        have HBAD : Hid (tieB ts[k] n = false → ts.all (tieB · n) = false) := tall_bad hkl
        obtain ⟨lb, lo, rfl, hlb, c0, c1, c2, c3, c4⟩ := (HS.out.below HB.out).at hkl
        obtain ⟨x, hx⟩ : ∃ x, x = ts[k] := ⟨_, rfl⟩
        rw [← hx] at HAS HBAD c0 c1 c2 c3 c4
        have HC := Lib.hid fun W => HT.out x W
        obtain ⟨p, hp⟩ : ∃ p, p = tieB x n := ⟨_, rfl⟩
        rw [← hp] at HAS HBAD HC
        have HLD : Hid (∀ W, Old wr.drew W → (Instr.loadAt 54 (.pointer (some ⟨lb, lo + k * 5, none⟩))).run Tryz.prog W = .ok (tieV x) W) := fun W h => load_tie (by rw [Below.cell h (by exact hlb)]; exact c0) (by rw [Below.cell h (by exact hlb)]; exact c1) (by rw [Below.cell h (by exact hlb)]; exact c2) (by rw [Below.cell h (by exact hlb)]; exact c3) (by rw [Below.cell h (by exact hlb)]; exact c4)
        have HLT : Hid (k < m) := hlt
        clear hx hkl HA hp HT c0 c1 c2 c3 c4 hlb
        have t3 : decide (k < m) = true := decide_eq_true hlt
        obtain ⟨b0, hb0⟩ : ∃ b0, b0 = w.heap.size := ⟨_, rfl⟩
        rw [← hb0] at HK d0 d1 ⊢
        have HB0 := Lib.hid hb0
        clear hb0
        cases p with
        | true =>
          go_upto_region 6 with (fail)
          refine wp_region_old 9 30 (by kernel_rfl) (by kernel_rfl) (by rfl) ?_
          simp only [List.take_succ_cons, List.take_zero, List.drop_succ_cons, List.drop_zero, List.drop_nil]
          refine chain_val (.pointer (some ⟨b0, 1, none⟩)) (fun _ _ => Below.refl _ _) rfl (by intro cs b h; cases h) (by kernel_rfl) (by kernel_rfl) (fun w1 _ => by simp [execOp, evE, lk_cons, lk_nil, slotL, go_sem]) ?_
          refine chain_load (.slice (some ⟨lb, lo, none⟩) m cap) _ _ _ (fun _ _ => Below.refl _ _) rfl rfl (by kernel_rfl) (by kernel_rfl) rfl (fun w1 hC => load_slt ((HK.out.below (show Below wr.heap.size wr w1 from old_end (Below.refl _ _) hC (Nat.le_refl _))).cell rfl)) ?_
          refine chain_move (.int .i64 k) _ (fun _ _ => Below.refl _ _) rfl rfl (by kernel_rfl) (by kernel_rfl) rfl ?_
          refine chain_idx (.pointer (some ⟨lb, lo + k * 5, none⟩)) _ _ _ (.slice (some ⟨lb, lo, none⟩) m cap) (.int .i64 k) (fun _ _ => Below.refl _ _) rfl rfl (by kernel_rfl) (by kernel_rfl) rfl rfl (fun w1 => idx_tie _ _ _ _ _ HLT.out w1) ?_
          refine chain_load (tieV x) _ _ _ (fun _ _ => Below.refl _ _) rfl rfl (by kernel_rfl) (by kernel_rfl) rfl (fun w1 hC => HLD.out w1 hC) ?_
          refine chain_val (.pointer (some ⟨b0, 0, none⟩)) (fun _ _ => Below.refl _ _) rfl (by intro cs b h; cases h) (by kernel_rfl) (by kernel_rfl) (fun w1 _ => by simp [execOp, evE, lk_cons, lk_nil, slotL, go_sem]) ?_
          refine chain_load (.int .i64 n) _ _ _ (fun _ _ => Below.refl _ _) rfl rfl (by kernel_rfl) (by kernel_rfl) rfl (fun w1 hC => load_i64 ((HK.out.below (show Below wr.heap.size wr w1 from old_end (Below.refl _ _) hC (Nat.le_refl _))).cell rfl)) ?_
          refine chain_call (.bool true) 80 [tieV x, .int .i64 n] _ _ (enters_of Tryz.func80 (by kernel_rfl) rfl) rfl rfl rfl (by kernel_rfl) (by kernel_rfl) rfl rfl (fun w1 hC => HC.out w1) ?_
          refine chain_un (.bool false) _ _ _ (.bool true) (fun _ _ => Below.refl _ _) rfl rfl (by kernel_rfl) (by kernel_rfl) rfl (fun w => un_not _ w) ?_
          refine chain_end (by rfl) ?_
          intro xs w1 hCw1 hrew1
          simp only [layE, List.foldr_cons, List.foldr_nil, List.set_cons_succ, List.set_cons_zero]
          have HO : Hid (Below wr.heap.size wr w1) := old_end (Below.refl wr.heap.size wr) hCw1 (Nat.le_refl _)
          clear hCw1 hrew1
          go_wp2_with fail
          exact ⟨⟨k + 1, by omega, by simp, HAS.out, HK.out.below HO.out, (by have := HB.out.trans (HO.out.mono HB.out.size); rw [← HB0.out] at this; exact this)⟩, by simp [intOf]; omega⟩
        | false =>
          go_upto_region 6 with (fail)
          refine wp_region_old 9 30 (by kernel_rfl) (by kernel_rfl) (by rfl) ?_
          simp only [List.take_succ_cons, List.take_zero, List.drop_succ_cons, List.drop_zero, List.drop_nil]
          refine chain_val (.pointer (some ⟨b0, 1, none⟩)) (fun _ _ => Below.refl _ _) rfl (by intro cs b h; cases h) (by kernel_rfl) (by kernel_rfl) (fun w1 _ => by simp [execOp, evE, lk_cons, lk_nil, slotL, go_sem]) ?_
          refine chain_load (.slice (some ⟨lb, lo, none⟩) m cap) _ _ _ (fun _ _ => Below.refl _ _) rfl rfl (by kernel_rfl) (by kernel_rfl) rfl (fun w1 hC => load_slt ((HK.out.below (show Below wr.heap.size wr w1 from old_end (Below.refl _ _) hC (Nat.le_refl _))).cell rfl)) ?_
          refine chain_move (.int .i64 k) _ (fun _ _ => Below.refl _ _) rfl rfl (by kernel_rfl) (by kernel_rfl) rfl ?_
          refine chain_idx (.pointer (some ⟨lb, lo + k * 5, none⟩)) _ _ _ (.slice (some ⟨lb, lo, none⟩) m cap) (.int .i64 k) (fun _ _ => Below.refl _ _) rfl rfl (by kernel_rfl) (by kernel_rfl) rfl rfl (fun w1 => idx_tie _ _ _ _ _ HLT.out w1) ?_
          refine chain_load (tieV x) _ _ _ (fun _ _ => Below.refl _ _) rfl rfl (by kernel_rfl) (by kernel_rfl) rfl (fun w1 hC => HLD.out w1 hC) ?_
          refine chain_val (.pointer (some ⟨b0, 0, none⟩)) (fun _ _ => Below.refl _ _) rfl (by intro cs b h; cases h) (by kernel_rfl) (by kernel_rfl) (fun w1 _ => by simp [execOp, evE, lk_cons, lk_nil, slotL, go_sem]) ?_
          refine chain_load (.int .i64 n) _ _ _ (fun _ _ => Below.refl _ _) rfl rfl (by kernel_rfl) (by kernel_rfl) rfl (fun w1 hC => load_i64 ((HK.out.below (show Below wr.heap.size wr w1 from old_end (Below.refl _ _) hC (Nat.le_refl _))).cell rfl)) ?_
          refine chain_call (.bool false) 80 [tieV x, .int .i64 n] _ _ (enters_of Tryz.func80 (by kernel_rfl) rfl) rfl rfl rfl (by kernel_rfl) (by kernel_rfl) rfl rfl (fun w1 hC => HC.out w1) ?_
          refine chain_un (.bool true) _ _ _ (.bool false) (fun _ _ => Below.refl _ _) rfl rfl (by kernel_rfl) (by kernel_rfl) rfl (fun w => un_not _ w) ?_
          refine chain_end (by rfl) ?_
          intro xs w1 hCw1 hrew1
          simp only [layE, List.foldr_cons, List.foldr_nil, List.set_cons_succ, List.set_cons_zero]
          have HO : Hid (Below wr.heap.size wr w1) := old_end (Below.refl wr.heap.size wr) hCw1 (Nat.le_refl _)
          clear hCw1 hrew1
          go_wp2_with fail
          go_ret
          exact ⟨by rw [HEE.out, HBAD.out (by trivial)]; rfl, HB.out.trans (HO.out.mono HB.out.size)⟩
      · have HE : Hid (ts.all (tieB · n) = true) := by
          have := HA.out
          rwa [List.take_of_length_le (by rw [← HM.out]; omega)] at this
        have t3 : decide (k < m) = false := decide_eq_false hlt
        clear HT
        go_wp2_with fail
        go_ret
        exact ⟨by rw [HEE.out, HE.out]; rfl, HB.out⟩
end Go.Proofs.YthjeiaildabadaaGreat
/- Layer 4: slices.Index and Contains of ties. -/
namespace Go.Proofs.YthjeiaildabadaaGreat
set_option linter.unusedSimpArgs false
set_option linter.unusedVariables false
open Go Go.RowKit

def tieE (s t : TieD) : Bool := decide (s.a = t.a) && decide (s.b = t.b) && decide (s.kind = t.kind) && decide (s.str = t.str) && decide (s.src = t.src)
theorem tieE_iff (s t : TieD) : tieE s t = true ↔ s = t := by
  obtain ⟨a, b, c, d, e⟩ := s
  obtain ⟨a', b', c', d', e'⟩ := t
  simp [tieE, and_assoc]
instance : DecidableEq TieD := fun s t => decidable_of_iff (tieE s t = true) (tieE_iff s t)
theorem tieE_dec (s t : TieD) : tieE s t = decide (s = t) := by
  rw [Bool.eq_iff_iff, tieE_iff, decide_eq_true_eq]
def ixT : List TieD → TieD → Nat → Option Nat
  | [], _, _ => none
  | y :: l, x, i => if x = y then some i else ixT l x (i + 1)
theorem ixT_drop {l : List TieD} {x : TieD} {k : Nat} (hk : k < l.length) : ixT (l.drop k) x k = if x = l[k] then some k else ixT (l.drop (k + 1)) x (k + 1) := by
  rw [← List.getElem_cons_drop hk]; rfl
def ixTI (l : List TieD) (x : TieD) : Int := match ixT l x 0 with | some j => (j : Int) | none => -1
theorem ixT_has (x : TieD) : ∀ (l : List TieD) (i : Nat), (ixT l x i).isSome = decide (x ∈ l)
  | [], i => by simp [ixT]
  | y :: l, i => by
    unfold ixT
    by_cases h : x = y
    · simp [h]
    · rw [if_neg h, ixT_has x l (i + 1)]; simp [h]
theorem ixTI_has (l : List TieD) (x : TieD) : decide (0 ≤ ixTI l x) = decide (x ∈ l) := by
  rw [← ixT_has x l 0]
  unfold ixTI
  cases ixT l x 0 with
  | none => rfl
  | some j => simp
set_option maxHeartbeats 2000000 in
theorem eql_tie (x y : Operand) (c d : TieD) (p : Bool) (hp : p = decide (c = d)) (w : World) : (do eqGuard .eql 54 x y (tieV c) (tieV d); binOp .eql 54 (tieV c) (tieV d) : Sem Value).run Tryz.prog w = .ok (.bool p) w := by
  rw [← tieE_dec] at hp
  subst hp
  simp [go_sem, tieV]
  unfold tieE
  by_cases h0 : c.a = d.a <;> by_cases h1 : c.b = d.b <;> by_cases h2 : c.kind = d.kind <;> by_cases h3 : c.str = d.str <;> by_cases h4 : c.src = d.src <;> simp [h0, h1, h2, h3, h4]
end Go.Proofs.YthjeiaildabadaaGreat
/- Layer 4: slices.Contains of ties, and the closure of Merge. -/
namespace Go.Proofs.YthjeiaildabadaaGreat
set_option linter.unusedSimpArgs false
set_option linter.unusedVariables false
open Go Go.RowKit

end Go.Proofs.YthjeiaildabadaaGreat
