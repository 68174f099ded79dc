/- For all sets, Union, Common, Minus, Size, Within, Meets and Compare answer as the specification does: the law BitsSets returns true. Conditions: the listed variables of Go's library hold what their text lays. -/
import Derived.Test.YtfeknabddcohoaaDoorQc
import Derived.Test.YtfeknabddcohoaaDoorQb
import Derived.Test.YtfeknabddcohoaaDoorQd
import Derived.Test.YtfeknabddcohoaaDoorQ9
import Derived.Test.YtfeknabddcohoaaDoorQe
namespace Go.Proofs.YtfeknabddcohoaaDoor
set_option linter.unusedSimpArgs false
set_option linter.unusedVariables false
open Go Go.RowKit

set_option maxRecDepth 100000 in
set_option maxHeartbeats 1000000 in
theorem bitsSets_any (hsane : SaneOk) (N M : Nat) (w : World) (hg : Gl w) (hN : N < 2 ^ 256) (hM : M < 2 ^ 256) :
    Calls Tryd.prog 4 #[setV N, setV M] w fun e w' => e = .returned (.bool true) ∧ Below w.heap.size w w' := by
  have HS : Hid SaneOk := hsane
  have HG := Lib.hid hg
  clear hg hsane
  go_enter Tryd.func4, Tryd.ntmps4
  simp only [setV]
  go_wp2_with (first | (go_at_call 16; refine (HS.out _ (HG.out.below (below_new2 _ _ _))).mono ?_; rintro e w2 ⟨rfl, hb⟩))
  have hB0 : Blk w2 w.heap.size (setA N) 25 := ((Blk.newW w N _).alloc _).below hb (by simp; omega)
  have hB1 : Blk w2 (w.heap.size + 1) (setA M) 25 := (Blk.new1 w _ _ _).below hb (by simp)
  have hW : Below w.heap.size w w2 := (below_new2 _ _ _).trans (hb.mono (by simp; omega))
  clear hb
  have l0 : ∀ w1, Old w2.drew w1 → (Instr.loadAt 25 (.pointer (some ⟨w.heap.size, 0, none⟩))).run Tryd.prog w1 = .ok (setV N) w1 := fun w1 hC => load_set (hB0.drew.below hC hB0.lt)
  have l1 : ∀ w1, Old w2.drew w1 → (Instr.loadAt 25 (.pointer (some ⟨w.heap.size + 1, 0, none⟩))).run Tryd.prog w1 = .ok (setV M) w1 := fun w1 hC => load_set (hB1.drew.below hC hB1.lt)
  refine wp_region_old 60 66 (by kernel_rfl) (by kernel_rfl) (by rfl) ?_
  simp only [List.take_succ_cons, List.take_zero, List.drop_succ_cons, List.drop_zero, List.drop_nil]
  refine chain_load (setV N) _ _ _ (fun _ _ => Below.refl _ _) rfl rfl (by kernel_rfl) (by kernel_rfl) rfl (l0) ?_
  refine chain_load (setV M) _ _ _ (fun _ _ => Below.refl _ _) rfl rfl (by kernel_rfl) (by kernel_rfl) rfl (l1) ?_
  refine chain_call (setV (N ||| M)) 31 [setV N, setV M] _ _ (enters_of Tryd.func31 (by kernel_rfl) rfl) rfl rfl rfl (by kernel_rfl) (by kernel_rfl) rfl rfl (fun w1 _ => union_any N M w1) ?_
  refine chain_load (setV N) _ _ _ (fun _ _ => Below.refl _ _) rfl rfl (by kernel_rfl) (by kernel_rfl) rfl (l0) ?_
  refine chain_load (setV M) _ _ _ (fun _ _ => Below.refl _ _) rfl rfl (by kernel_rfl) (by kernel_rfl) rfl (l1) ?_
  refine chain_call (setV (N ||| M)) 32 [setV N, setV M] _ _ (enters_of Tryd.func32 (by kernel_rfl) rfl) rfl rfl rfl (by kernel_rfl) (by kernel_rfl) rfl rfl (fun w1 _ => rUnion_any N M w1 hN hM) ?_
  refine chain_bin (.bool true) _ _ _ _ _ (setV (N ||| M)) (setV (N ||| M)) (fun _ _ => Below.refl _ _) rfl rfl (by kernel_rfl) (by kernel_rfl) rfl rfl (fun w => eql_set_same _ _ _ w) ?_
  refine chain_move (.bool true) _ (fun _ _ => Below.refl _ _) rfl rfl (by kernel_rfl) (by kernel_rfl) rfl ?_
  refine chain_load (setV N) _ _ _ (fun _ _ => Below.refl _ _) rfl rfl (by kernel_rfl) (by kernel_rfl) rfl (l0) ?_
  refine chain_load (setV M) _ _ _ (fun _ _ => Below.refl _ _) rfl rfl (by kernel_rfl) (by kernel_rfl) rfl (l1) ?_
  refine chain_call (setV (N &&& M)) 33 [setV N, setV M] _ _ (enters_of Tryd.func33 (by kernel_rfl) rfl) rfl rfl rfl (by kernel_rfl) (by kernel_rfl) rfl rfl (fun w1 _ => common_any N M w1) ?_
  refine chain_load (setV N) _ _ _ (fun _ _ => Below.refl _ _) rfl rfl (by kernel_rfl) (by kernel_rfl) rfl (l0) ?_
  refine chain_load (setV M) _ _ _ (fun _ _ => Below.refl _ _) rfl rfl (by kernel_rfl) (by kernel_rfl) rfl (l1) ?_
  refine chain_call (setV (N &&& M)) 34 [setV N, setV M] _ _ (enters_of Tryd.func34 (by kernel_rfl) rfl) rfl rfl rfl (by kernel_rfl) (by kernel_rfl) rfl rfl (fun w1 _ => rCommon_any N M w1 hN hM) ?_
  refine chain_bin (.bool true) _ _ _ _ _ (setV (N &&& M)) (setV (N &&& M)) (fun _ _ => Below.refl _ _) rfl rfl (by kernel_rfl) (by kernel_rfl) rfl rfl (fun w => eql_set_same _ _ _ w) ?_
  refine chain_pick (.bool true) _ _ _ true (fun _ _ => Below.refl _ _) rfl rfl (by kernel_rfl) (by kernel_rfl) rfl rfl ?_
  refine chain_move (.bool true) _ (fun _ _ => Below.refl _ _) rfl rfl (by kernel_rfl) (by kernel_rfl) rfl ?_
  refine chain_load (setV N) _ _ _ (fun _ _ => Below.refl _ _) rfl rfl (by kernel_rfl) (by kernel_rfl) rfl (l0) ?_
  refine chain_load (setV M) _ _ _ (fun _ _ => Below.refl _ _) rfl rfl (by kernel_rfl) (by kernel_rfl) rfl (l1) ?_
  refine chain_call (setV (diff N M)) 35 [setV N, setV M] _ _ (enters_of Tryd.func35 (by kernel_rfl) rfl) rfl rfl rfl (by kernel_rfl) (by kernel_rfl) rfl rfl (fun w1 _ => minus_any N M w1) ?_
  refine chain_load (setV N) _ _ _ (fun _ _ => Below.refl _ _) rfl rfl (by kernel_rfl) (by kernel_rfl) rfl (l0) ?_
  refine chain_load (setV M) _ _ _ (fun _ _ => Below.refl _ _) rfl rfl (by kernel_rfl) (by kernel_rfl) rfl (l1) ?_
  refine chain_call (setV (diff N M)) 36 [setV N, setV M] _ _ (enters_of Tryd.func36 (by kernel_rfl) rfl) rfl rfl rfl (by kernel_rfl) (by kernel_rfl) rfl rfl (fun w1 _ => rMinus_any N M w1 hN hM) ?_
  refine chain_bin (.bool true) _ _ _ _ _ (setV (diff N M)) (setV (diff N M)) (fun _ _ => Below.refl _ _) rfl rfl (by kernel_rfl) (by kernel_rfl) rfl rfl (fun w => eql_set_same _ _ _ w) ?_
  refine chain_pick (.bool true) _ _ _ true (fun _ _ => Below.refl _ _) rfl rfl (by kernel_rfl) (by kernel_rfl) rfl rfl ?_
  refine chain_move (.bool true) _ (fun _ _ => Below.refl _ _) rfl rfl (by kernel_rfl) (by kernel_rfl) rfl ?_
  refine chain_load (setV N) _ _ _ (fun _ _ => Below.refl _ _) rfl rfl (by kernel_rfl) (by kernel_rfl) rfl (l0) ?_
  refine chain_call (.int .i64 (card N)) 37 [setV N] _ _ (enters_of Tryd.func37 (by kernel_rfl) rfl) rfl rfl rfl (by kernel_rfl) (by kernel_rfl) rfl rfl (fun w1 _ => size_any N w1) ?_
  refine chain_load (setV N) _ _ _ (fun _ _ => Below.refl _ _) rfl rfl (by kernel_rfl) (by kernel_rfl) rfl (l0) ?_
  refine chain_call (.int .i64 (card N)) 38 [setV N] _ _ (enters_of Tryd.func38 (by kernel_rfl) rfl) rfl rfl rfl (by kernel_rfl) (by kernel_rfl) rfl rfl (fun w1 _ => rSize_any N w1) ?_
  refine chain_bin (.bool true) _ _ _ _ _ (.int .i64 (card N)) (.int .i64 (card N)) (fun _ _ => Below.refl _ _) rfl rfl (by kernel_rfl) (by kernel_rfl) rfl rfl (fun w => eql_int_same _ _ _ _ w) ?_
  refine chain_pick (.bool true) _ _ _ true (fun _ _ => Below.refl _ _) rfl rfl (by kernel_rfl) (by kernel_rfl) rfl rfl ?_
  refine chain_move (.bool true) _ (fun _ _ => Below.refl _ _) rfl rfl (by kernel_rfl) (by kernel_rfl) rfl ?_
  refine chain_load (setV N) _ _ _ (fun _ _ => Below.refl _ _) rfl rfl (by kernel_rfl) (by kernel_rfl) rfl (l0) ?_
  refine chain_load (setV M) _ _ _ (fun _ _ => Below.refl _ _) rfl rfl (by kernel_rfl) (by kernel_rfl) rfl (l1) ?_
  refine chain_call (.bool (eqS (diff N M) 0)) 39 [setV N, setV M] _ _ (enters_of Tryd.func39 (by kernel_rfl) rfl) rfl rfl rfl (by kernel_rfl) (by kernel_rfl) rfl rfl (fun w1 _ => within_any N M w1) ?_
  refine chain_load (setV N) _ _ _ (fun _ _ => Below.refl _ _) rfl rfl (by kernel_rfl) (by kernel_rfl) rfl (l0) ?_
  refine chain_load (setV M) _ _ _ (fun _ _ => Below.refl _ _) rfl rfl (by kernel_rfl) (by kernel_rfl) rfl (l1) ?_
  refine chain_call (.bool (eqS (diff N M) 0)) 40 [setV N, setV M] _ _ (enters_of Tryd.func40 (by kernel_rfl) rfl) rfl rfl rfl (by kernel_rfl) (by kernel_rfl) rfl rfl (fun w1 _ => rWithin_any N M w1 hN hM) ?_
  refine chain_bin (.bool true) _ _ _ _ _ (.bool (eqS (diff N M) 0)) (.bool (eqS (diff N M) 0)) (fun _ _ => Below.refl _ _) rfl rfl (by kernel_rfl) (by kernel_rfl) rfl rfl (fun w => eql_bool_same _ _ _ w) ?_
  refine chain_pick (.bool true) _ _ _ true (fun _ _ => Below.refl _ _) rfl rfl (by kernel_rfl) (by kernel_rfl) rfl rfl ?_
  refine chain_move (.bool true) _ (fun _ _ => Below.refl _ _) rfl rfl (by kernel_rfl) (by kernel_rfl) rfl ?_
  refine chain_load (setV N) _ _ _ (fun _ _ => Below.refl _ _) rfl rfl (by kernel_rfl) (by kernel_rfl) rfl (l0) ?_
  refine chain_load (setV M) _ _ _ (fun _ _ => Below.refl _ _) rfl rfl (by kernel_rfl) (by kernel_rfl) rfl (l1) ?_
  refine chain_call (.bool (!eqS (N &&& M) 0)) 41 [setV N, setV M] _ _ (enters_of Tryd.func41 (by kernel_rfl) rfl) rfl rfl rfl (by kernel_rfl) (by kernel_rfl) rfl rfl (fun w1 _ => meets_any N M w1) ?_
  refine chain_load (setV N) _ _ _ (fun _ _ => Below.refl _ _) rfl rfl (by kernel_rfl) (by kernel_rfl) rfl (l0) ?_
  refine chain_load (setV M) _ _ _ (fun _ _ => Below.refl _ _) rfl rfl (by kernel_rfl) (by kernel_rfl) rfl (l1) ?_
  refine chain_call (.bool (!eqS (N &&& M) 0)) 42 [setV N, setV M] _ _ (enters_of Tryd.func42 (by kernel_rfl) rfl) rfl rfl rfl (by kernel_rfl) (by kernel_rfl) rfl rfl (fun w1 _ => rMeets_any N M w1 hN hM) ?_
  refine chain_bin (.bool true) _ _ _ _ _ (.bool (!eqS (N &&& M) 0)) (.bool (!eqS (N &&& M) 0)) (fun _ _ => Below.refl _ _) rfl rfl (by kernel_rfl) (by kernel_rfl) rfl rfl (fun w => eql_bool_same _ _ _ w) ?_
  refine chain_pick (.bool true) _ _ _ true (fun _ _ => Below.refl _ _) rfl rfl (by kernel_rfl) (by kernel_rfl) rfl rfl ?_
  refine chain_move (.bool true) _ (fun _ _ => Below.refl _ _) rfl rfl (by kernel_rfl) (by kernel_rfl) rfl ?_
  refine chain_load (setV N) _ _ _ (fun _ _ => Below.refl _ _) rfl rfl (by kernel_rfl) (by kernel_rfl) rfl (l0) ?_
  refine chain_load (setV M) _ _ _ (fun _ _ => Below.refl _ _) rfl rfl (by kernel_rfl) (by kernel_rfl) rfl (l1) ?_
  refine chain_call (.int .i64 (cmpS N M)) 43 [setV N, setV M] _ _ (enters_of Tryd.func43 (by kernel_rfl) rfl) rfl rfl rfl (by kernel_rfl) (by kernel_rfl) rfl rfl (fun w1 _ => compare_any N M w1 hN hM) ?_
  refine chain_load (setV N) _ _ _ (fun _ _ => Below.refl _ _) rfl rfl (by kernel_rfl) (by kernel_rfl) rfl (l0) ?_
  refine chain_load (setV M) _ _ _ (fun _ _ => Below.refl _ _) rfl rfl (by kernel_rfl) (by kernel_rfl) rfl (l1) ?_
  refine chain_call (.int .i64 (cmpS N M)) 44 [setV N, setV M] _ _ (enters_of Tryd.func44 (by kernel_rfl) rfl) rfl rfl rfl (by kernel_rfl) (by kernel_rfl) rfl rfl (fun w1 _ => rCompare_any N M w1 hN hM) ?_
  refine chain_bin (.bool true) _ _ _ _ _ (.int .i64 (cmpS N M)) (.int .i64 (cmpS N M)) (fun _ _ => Below.refl _ _) rfl rfl (by kernel_rfl) (by kernel_rfl) rfl rfl (fun w => eql_int_same _ _ _ _ w) ?_
  refine chain_pick (.bool true) _ _ _ true (fun _ _ => Below.refl _ _) rfl rfl (by kernel_rfl) (by kernel_rfl) rfl rfl ?_
  refine chain_assign (.bool true) _ (fun _ _ => Below.refl _ _) rfl rfl (by kernel_rfl) (by kernel_rfl) rfl ?_
  refine chain_end (by rfl) ?_
  intro xs w1 hCw1 hrew1
  simp only [layE, List.foldr_cons, List.foldr_nil, List.set_cons_succ, List.set_cons_zero]
  go_wp2_with fail
  go_ret
  exact ⟨rfl, old_end hW hCw1 hW.size⟩
end Go.Proofs.YtfeknabddcohoaaDoor
namespace Go.Proofs.YtfeknabddcohoaaDoor
set_option linter.unusedSimpArgs false
set_option linter.unusedVariables false
open Go Go.RowKit Go.ChangeShapes Go.WideShapes Go.ChangeAt

set_option maxRecDepth 100000 in
theorem bitsSets_lifted (os : Os) (started : os.Started) (H : Type) (enc : TypeId × Value → H) :
    ReturnsInHanded {} Tryd.checked os 4 .any (fun w args => (Rows.bitsSetsSpec.pre enc Tryd.prog Tryd.f4 [] false w args ∧ laidMetH Tryd.prog laidS w) ∧ sizedMet enc Tryd.prog Tryd.f4 (OpenSpec.ofChange Rows.bitsSetsSpec) false w args)
      (Rows.bitsSetsSpec.post enc Tryd.prog Tryd.f4 false true false false) := by
  refine lifted_of started (by kernel_rfl) Tryd.func4
    (ChangeSpec.witness_shaped (enc := enc) (C := Tryd.checked) (os := os) (X := fun w _ => laidMetH Tryd.prog laidS w) false (World.laidAll Tryd.prog os laidS) #[.agg #[.int .u64 0, .int .u64 0, .int .u64 0, .int .u64 0], .agg #[.int .u64 0, .int .u64 0, .int .u64 0, .int .u64 0]] 8 (World.laidAll_os _ _ _)
      (World.shaped_of_ZipB (by kernel_rfl) (by kernel_rfl)) (by kernel_rfl) (by kernel_rfl) (by kernel_rfl) (laid_met os _)) ?_
  intro W base args ds gs before hg hval0 hW _
  have hval : ∀ (j : Nat) t v, Tryd.f4.params[j]? = some t → args[j]? = some v → Value.okWide Tryd.prog W .any base t v := hval0
  have hW' := hW
  obtain ⟨p, q, hA0, hV, rfl, _, _⟩ := hW
  have hA : DataW.TrodAll enc Tryd.prog W 0 (fun _ => true) true Tryd.f4.params.toList args.toList ds p := hA0
  rw [Tryd.params4] at hA hval
  obtain ⟨v0, v1, d0, d1, p0, p1, rfl, rfl, rfl, h0, h1⟩ := trodAll_two hA
  obtain ⟨rfl, rfl⟩ := trodVars_none hV
  obtain ⟨N, hN, rfl, rfl, rfl⟩ := open_set (hval 0 _ v0 rfl rfl) h0
  obtain ⟨M, hM, rfl, rfl, rfl⟩ := open_set (hval 1 _ v1 rfl rfl) h1
  simp only [List.append_nil] at hW'
  refine (bitsSets_any sane_any N M W hg hN hM).mono fun e W' ⟨he, hb⟩ => ?_
  subst he
  exact ⟨_, rfl, _, _, _, [], [], [], hW', trodAll_mk1 (shut_bool Tryd.underlying4 _), trodAll_mk2 (shut_set N) (shut_set M), rfl, hb.frame _, fun h => by cases h⟩
theorem bitsSets_holds : Rows.BitsSetsSaid :=
  OpenClaim.holds_of_wide 4 Tryd.f4 rfl rfl rfl rfl rfl rfl rfl ⟨rfl, rfl, rfl, rfl, rfl⟩ rfl rfl rfl rfl rfl (by kernel_rfl) Tryd.func4 (by kernel_rfl)
    (of_decide_eq_true (by kernel_rfl)) (by unfold Func.isWrapper; first | (rw [if_pos (by decide +kernel)]; kernel_rfl) | (rw [if_neg (by decide +kernel)]; exact ⟨rfl, rfl⟩))
    (fun os started H enc _ => bitsSets_lifted os started H enc)
theorem bitsSets_card : Rows.BitsSetsCardSaid :=
  Claim7.holds_tied_plain_at .later [] [.data, .data, .data, .sentinel, .sentinel] true (true, "59e61a00cd98b593f7d767dbd8ecda973868b3dd18ed44325eee520d7d50c5d2") true bitsSets_holds (fun _ h => by cases h) (by kernel_rfl) (fun _ h => by cases h) bitsSets_row_tie rfl ⟨rfl, rfl⟩ (by kernel_rfl) rfl
    (fun f fn hf hfn => by
      obtain rfl : f = 4 := Option.some.inj ((show Tryd.prog.funcNamed "bonehouse/bonehouselaw01.BitsSets" = some 4 by kernel_rfl).symm.trans hf) |>.symm
      obtain rfl : fn = Tryd.f4 := (Option.some.inj (Tryd.func4.symm.trans hfn)).symm
      exact ⟨by kernel_rfl, fun j t ht => by
        rw [Tryd.params4] at ht
        have hm : t ∈ [25, 25] := by simpa using Array.mem_of_getElem? ht
        have hall : ([25, 25].all fun u => !Tryd.prog.wantsStandIn u) = true := by kernel_rfl
        exact (show Tryd.prog.wantsStandIn t = false by simpa using List.all_eq_true.1 hall t hm)⟩)
    (by kernel_rfl)
#print axioms bitsSets_card
end Go.Proofs.YtfeknabddcohoaaDoor
