/- Layer 4: holds and Rests of the specification. -/
import Derived.Test.YthjeiaildabadaaGreatKf
import Derived.Test.YthjeiaildabadaaGreatKd
import Derived.Test.YthjeiaildabadaaGreatK6
namespace Go.Proofs.YthjeiaildabadaaGreat
set_option linter.unusedSimpArgs false
set_option linter.unusedVariables false
open Go Go.RowKit

set_option maxRecDepth 100000 in
set_option maxHeartbeats 4000000 in
theorem rHolds_any (k x y : Nat) (a : Option Addr) (cap : Nat) (ts : List TieD) (w : World) (hk : k ≤ 32) (hx : x < k) (hy : y < k) (hl : ts.length ≤ 512) (hv : ∀ t ∈ ts, tieB t k = true) (hs : TiesAt w a ts) :
    Calls Tryz.prog 70 #[.agg #[.int .i64 k, .slice a ts.length cap], .int .i64 x, .int .i64 y] w fun e w' => e = .returned (.bool (told k ts x y)) ∧ Below w.heap.size w w' := by
  have hLk : (grpL k ts).length = k := grpL_len k ts
  have HGR : Hid (∀ W, Below w.heap.size w W → Calls Tryz.prog 47 #[.agg #[.int .i64 k, .slice a ts.length cap]] W fun e w' => ∃ g, e = .returned (.slice (some ⟨g, 0, none⟩) k k) ∧ NB w' g (grpL k ts) ∧ Below W.heap.size W w') := fun W hb => (rGroups_any k a cap ts W hk hl hv (hs.below hb)).mono fun e w' ⟨g, h1, _, h3, h4⟩ => ⟨g, h1, h3, h4⟩
  have HAP : Hid (∀ W g, Below w.heap.size w W → NB W g (grpL k ts) → Calls Tryz.prog 100 #[.agg #[.int .i64 k, .slice a ts.length cap], .slice (some ⟨g, 0, none⟩) k k, .int .i64 x, .int .i64 y] W fun e w' => e = .returned (.bool (apB (grpL k ts) ts x y)) ∧ Below W.heap.size W w') := fun W g hb hg => rApart_any a cap ts g k x y (grpL k ts) W (by omega) (hs.below hb) hLk hk hx hy hv hg
  have HLX : Hid ((grpL k ts)[x]? = some (atI (grpL k ts) x) ∧ (grpL k ts)[y]? = some (atI (grpL k ts) y)) := by
    have h1 := atI_some (l := grpL k ts) (i := (x : Int)) (by rw [hLk]; simpa using hx)
    have h2 := atI_some (l := grpL k ts) (i := (y : Int)) (by rw [hLk]; simpa using hy)
    rw [Int.toNat_natCast] at h1 h2
    exact ⟨h1, h2⟩
  obtain ⟨T, hT⟩ : ∃ T, T = told k ts x y := ⟨_, rfl⟩
  rw [← hT]
  unfold told at hT
  generalize atI (grpL k ts) x = u at *
  generalize atI (grpL k ts) y = v at *
  generalize apB (grpL k ts) ts x y = A at *
  have HT := Lib.hid hT
  have HXB : Hid (x < k ∧ y < k) := ⟨hx, hy⟩
  obtain ⟨m, hm⟩ : ∃ m, m = ts.length := ⟨_, rfl⟩
  rw [← hm] at HGR HAP ⊢
  have FB := Lib.hid (FA.new w [.int .i64 k, .slice a m cap])
  clear hT hk hx hy hl hv hs hm hLk
  go_enter Tryz.func70, Tryz.ntmps70
  go_upto_region 2 with (first | (go_at_call 47; go_loud (refine (HGR.out _ FB.out.2).mono ?_; rintro e w1 ⟨g, rfl, hg, hb⟩; clear HGR; replace FB := Lib.hid (FB.out.below hb); have HG := Lib.hid hg; clear hb hg)))
  have HPA := Lib.hid (HG.out.cell HLX.out.1)
  have HPB := Lib.hid (HG.out.cell HLX.out.2)
  have HPL := Lib.hid HG.out.lt
  have HOWD : Hid (∀ W, (clOld w1.drew).C W → Below w1.heap.size w1 W) := fun W hC => old_end (Below.refl _ _) hC (Nat.le_refl _)
  have HPX : Hid (∀ W x y, (clOld w1.drew).C W → w1.cell? ⟨g, x, none⟩ = some y → W.cell? ⟨g, x, none⟩ = some y) := fun W x y hC h => by rw [Below.cell (HOWD.out W hC) (by exact HPL.out)]; exact h
  clear HLX
  by_cases huv : u = v
  · have HJ : Hid (true = decide (u = v)) := by simp [Hid, huv]
    replace HT : Hid (T = true) := by rw [Hid, HT.out]; simp [huv]
    clear huv
    refine wp_region_old 17 26 (by kernel_rfl) (by kernel_rfl) (by rfl) ?_
    simp only [List.take_succ_cons, List.take_zero, List.drop_succ_cons, List.drop_zero, List.drop_nil]
    refine chain_move (.slice (some ⟨g, 0, none⟩) k k) _ (fun _ _ => Below.refl _ _) rfl rfl (by kernel_rfl) (by kernel_rfl) rfl ?_
    refine chain_move (.int .i64 x) _ (fun _ _ => Below.refl _ _) rfl rfl (by kernel_rfl) (by kernel_rfl) rfl ?_
    refine chain_idx (.pointer (some ⟨g, 0 + x, none⟩)) _ _ _ (.slice (some ⟨g, 0, none⟩) k k) (.int .i64 x) (fun _ _ => Below.refl _ _) rfl rfl (by kernel_rfl) (by kernel_rfl) rfl rfl (fun w1 => idx_i64 _ _ _ _ _ HXB.out.1 w1) ?_
    refine chain_load (.int .i64 u) _ _ _ (fun _ _ => Below.refl _ _) rfl rfl (by kernel_rfl) (by kernel_rfl) rfl (fun w1 hC => load_i64 (by rw [Nat.zero_add]; exact HPX.out w1 _ _ hC HPA.out)) ?_
    refine chain_move (.slice (some ⟨g, 0, none⟩) k k) _ (fun _ _ => Below.refl _ _) rfl rfl (by kernel_rfl) (by kernel_rfl) rfl ?_
    refine chain_move (.int .i64 y) _ (fun _ _ => Below.refl _ _) rfl rfl (by kernel_rfl) (by kernel_rfl) rfl ?_
    refine chain_idx (.pointer (some ⟨g, 0 + y, none⟩)) _ _ _ (.slice (some ⟨g, 0, none⟩) k k) (.int .i64 y) (fun _ _ => Below.refl _ _) rfl rfl (by kernel_rfl) (by kernel_rfl) rfl rfl (fun w1 => idx_i64 _ _ _ _ _ HXB.out.2 w1) ?_
    refine chain_load (.int .i64 v) _ _ _ (fun _ _ => Below.refl _ _) rfl rfl (by kernel_rfl) (by kernel_rfl) rfl (fun w1 hC => load_i64 (by rw [Nat.zero_add]; exact HPX.out w1 _ _ hC HPB.out)) ?_
    refine chain_bin (.bool true) _ _ _ _ _ (.int .i64 u) (.int .i64 v) (fun _ _ => Below.refl _ _) rfl rfl (by kernel_rfl) (by kernel_rfl) rfl rfl (fun w1 => eql_i64 _ _ _ _ _ _ HJ.out w1) ?_
    refine chain_move (.bool true) _ (fun _ _ => Below.refl _ _) rfl rfl (by kernel_rfl) (by kernel_rfl) rfl ?_
    refine chain_skip rfl (by kernel_rfl) ?_
    refine chain_skip rfl (by kernel_rfl) ?_
    refine chain_skip rfl (by kernel_rfl) ?_
    refine chain_skip rfl (by kernel_rfl) ?_
    refine chain_skip rfl (by kernel_rfl) ?_
    refine chain_pick (.bool true) _ _ _ true (fun _ _ => Below.refl _ _) rfl rfl (by kernel_rfl) (by kernel_rfl) rfl rfl ?_
    refine chain_assign (.bool true) _ (fun _ _ => Below.refl _ _) rfl rfl (by kernel_rfl) (by kernel_rfl) rfl ?_
    refine chain_end (by rfl) ?_
    intro xs w5 hCw5 hrew5
    simp only [layE, List.foldr_cons, List.foldr_nil, List.set_cons_succ, List.set_cons_zero]
    have HY := Lib.hid (HOWD.out w5 hCw5)
    clear hCw5 hrew5 HOWD HPX
    go_wp2_with fail
    go_ret
    exact ⟨by rw [HT.out]; rfl, FB.out.2.trans (HY.out.mono FB.out.2.size)⟩
  · have HJ : Hid (false = decide (u = v)) := by simp [Hid, huv]
    replace HT : Hid (T = A) := by rw [Hid, HT.out]; simp [huv]
    clear huv
    refine wp_region_old 17 26 (by kernel_rfl) (by kernel_rfl) (by rfl) ?_
    simp only [List.take_succ_cons, List.take_zero, List.drop_succ_cons, List.drop_zero, List.drop_nil]
    refine chain_move (.slice (some ⟨g, 0, none⟩) k k) _ (fun _ _ => Below.refl _ _) rfl rfl (by kernel_rfl) (by kernel_rfl) rfl ?_
    refine chain_move (.int .i64 x) _ (fun _ _ => Below.refl _ _) rfl rfl (by kernel_rfl) (by kernel_rfl) rfl ?_
    refine chain_idx (.pointer (some ⟨g, 0 + x, none⟩)) _ _ _ (.slice (some ⟨g, 0, none⟩) k k) (.int .i64 x) (fun _ _ => Below.refl _ _) rfl rfl (by kernel_rfl) (by kernel_rfl) rfl rfl (fun w1 => idx_i64 _ _ _ _ _ HXB.out.1 w1) ?_
    refine chain_load (.int .i64 u) _ _ _ (fun _ _ => Below.refl _ _) rfl rfl (by kernel_rfl) (by kernel_rfl) rfl (fun w1 hC => load_i64 (by rw [Nat.zero_add]; exact HPX.out w1 _ _ hC HPA.out)) ?_
    refine chain_move (.slice (some ⟨g, 0, none⟩) k k) _ (fun _ _ => Below.refl _ _) rfl rfl (by kernel_rfl) (by kernel_rfl) rfl ?_
    refine chain_move (.int .i64 y) _ (fun _ _ => Below.refl _ _) rfl rfl (by kernel_rfl) (by kernel_rfl) rfl ?_
    refine chain_idx (.pointer (some ⟨g, 0 + y, none⟩)) _ _ _ (.slice (some ⟨g, 0, none⟩) k k) (.int .i64 y) (fun _ _ => Below.refl _ _) rfl rfl (by kernel_rfl) (by kernel_rfl) rfl rfl (fun w1 => idx_i64 _ _ _ _ _ HXB.out.2 w1) ?_
    refine chain_load (.int .i64 v) _ _ _ (fun _ _ => Below.refl _ _) rfl rfl (by kernel_rfl) (by kernel_rfl) rfl (fun w1 hC => load_i64 (by rw [Nat.zero_add]; exact HPX.out w1 _ _ hC HPB.out)) ?_
    refine chain_bin (.bool false) _ _ _ _ _ (.int .i64 u) (.int .i64 v) (fun _ _ => Below.refl _ _) rfl rfl (by kernel_rfl) (by kernel_rfl) rfl rfl (fun w1 => eql_i64 _ _ _ _ _ _ HJ.out w1) ?_
    refine chain_move (.bool false) _ (fun _ _ => Below.refl _ _) rfl rfl (by kernel_rfl) (by kernel_rfl) rfl ?_
    refine chain_load (.agg #[.int .i64 k, .slice a m cap]) _ _ _ (fun _ _ => Below.refl _ _) rfl rfl (by kernel_rfl) (by kernel_rfl) rfl (fun w1 hC => load_g ((FB.out.1.below (HOWD.out w1 hC)).cell rfl) ((FB.out.1.below (HOWD.out w1 hC)).cell rfl)) ?_
    refine chain_move (.slice (some ⟨g, 0, none⟩) k k) _ (fun _ _ => Below.refl _ _) rfl rfl (by kernel_rfl) (by kernel_rfl) rfl ?_
    refine chain_move (.int .i64 x) _ (fun _ _ => Below.refl _ _) rfl rfl (by kernel_rfl) (by kernel_rfl) rfl ?_
    refine chain_move (.int .i64 y) _ (fun _ _ => Below.refl _ _) rfl rfl (by kernel_rfl) (by kernel_rfl) rfl ?_
    refine chain_call (.bool A) 100 [.agg #[.int .i64 k, .slice a m cap], .slice (some ⟨g, 0, none⟩) k k, .int .i64 x, .int .i64 y] _ _ (enters_of Tryz.func100 (by kernel_rfl) rfl) rfl rfl rfl (by kernel_rfl) (by kernel_rfl) rfl rfl (fun w1 hC => HAP.out w1 g (FB.out.2.trans ((HOWD.out w1 hC).mono FB.out.2.size)) (HG.out.block ((HOWD.out w1 hC).block g HG.out.lt))) ?_
    refine chain_pick (.bool A) _ _ _ false (fun _ _ => Below.refl _ _) rfl rfl (by kernel_rfl) (by kernel_rfl) rfl rfl ?_
    refine chain_assign (.bool A) _ (fun _ _ => Below.refl _ _) rfl rfl (by kernel_rfl) (by kernel_rfl) rfl ?_
    refine chain_end (by rfl) ?_
    intro xs w5 hCw5 hrew5
    simp only [layE, List.foldr_cons, List.foldr_nil, List.set_cons_succ, List.set_cons_zero]
    have HY := Lib.hid (HOWD.out w5 hCw5)
    clear hCw5 hrew5 HOWD HPX
    go_wp2_with fail
    go_ret
    exact ⟨by rw [HT.out]; rfl, FB.out.2.trans (HY.out.mono FB.out.2.size)⟩
theorem inc_ext : ∀ {l l' : List Int}, l.Pairwise (· < ·) → l'.Pairwise (· < ·) → (∀ x, x ∈ l ↔ x ∈ l') → l = l'
  | [], [], _, _, _ => rfl
  | [], y :: l', _, _, h => absurd ((h y).2 List.mem_cons_self) (by simp)
  | x :: l, [], _, _, h => absurd ((h x).1 List.mem_cons_self) (by simp)
  | x :: l, y :: l', h1, h2, h => by
    have e : x = y := by
      rcases List.mem_cons.1 ((h x).1 List.mem_cons_self) with e | hx
      · exact e
      · rcases List.mem_cons.1 ((h y).2 List.mem_cons_self) with e | hy
        · exact e.symm
        · have a := List.rel_of_pairwise_cons h1 hy
          have b := List.rel_of_pairwise_cons h2 hx
          omega
    subst e
    rw [inc_ext h1.of_cons h2.of_cons fun z => ⟨fun hz => ?_, fun hz => ?_⟩]
    · rcases List.mem_cons.1 ((h z).1 (List.mem_cons_of_mem _ hz)) with e | hz'
      · subst e; have := List.rel_of_pairwise_cons h1 hz; omega
      · exact hz'
    · rcases List.mem_cons.1 ((h z).2 (List.mem_cons_of_mem _ hz)) with e | hz'
      · subst e; have := List.rel_of_pairwise_cons h2 hz; omega
      · exact hz'
/-- The sources below a number on which it rests. -/
def srcB (n : Nat) (ts : List TieD) (x y : Int) (s : Nat) : Bool := ts.any (fun t => t.src == (s : Int)) && !told n (wo ts s) x y
def srcL (n : Nat) (ts : List TieD) (x y : Int) (S : Nat) : List Int := ((List.range S).filter (srcB n ts x y)).map fun (s : Nat) => (s : Int)
theorem srcL_step (n : Nat) (ts : List TieD) (x y : Int) (S : Nat) : srcL n ts x y (S + 1) = srcL n ts x y S ++ (if srcB n ts x y S then [(S : Int)] else []) := by
  unfold srcL
  rw [List.range_succ, List.filter_append, List.map_append]
  congr 1
  cases h : srcB n ts x y S <;> simp [h]
theorem srcL_len (n : Nat) (ts : List TieD) (x y : Int) (S : Nat) : (srcL n ts x y S).length ≤ S := by
  unfold srcL; rw [List.length_map]; exact Nat.le_trans (List.length_filter_le _ _) (by simp)
theorem srcL_inc (n : Nat) (ts : List TieD) (x y : Int) (S : Nat) : (srcL n ts x y S).Pairwise (· < ·) := by
  unfold srcL
  rw [List.pairwise_map]
  exact (List.Pairwise.filter _ List.pairwise_lt_range).imp fun h => by omega
theorem srcL_mem {n : Nat} {ts : List TieD} {x y : Int} (hv : ∀ t ∈ ts, tieB t n = true) (ht : told n ts x y = true) (s : Int) : s ∈ srcL n ts x y 4096 ↔ told n (wo ts s) x y = false := by
  unfold srcL
  simp only [List.mem_map, List.mem_filter, List.mem_range]
  constructor
  · rintro ⟨S, ⟨_, h⟩, rfl⟩
    unfold srcB at h
    simp only [Bool.and_eq_true, Bool.not_eq_true'] at h
    exact h.2
  · intro h
    have hex : ∃ t ∈ ts, t.src = s := Classical.byContradiction fun hno => by
      have e : wo ts s = ts := by
        unfold wo
        refine List.filter_eq_self.2 fun t h1 => ?_
        have : t.src ≠ s := fun e => hno ⟨t, h1, e⟩
        simp [this]
      rw [e, ht] at h; cases h
    obtain ⟨t, htm, hts⟩ := hex
    have hb := hv t htm
    unfold tieB ftB at hb
    simp only [Bool.and_eq_true, decide_eq_true_eq] at hb
    obtain ⟨S, hS⟩ := Int.eq_ofNat_of_zero_le (by omega : 0 ≤ s)
    subst hS
    refine ⟨S, ⟨by omega, ?_⟩, rfl⟩
    unfold srcB
    rw [h]
    have : ts.any (fun t => t.src == (S : Int)) = true := List.any_eq_true.2 ⟨t, htm, by simpa using hts⟩
    rw [this]; rfl
end Go.Proofs.YthjeiaildabadaaGreat
