/- For all finds and events, valid or not, what the package answers of them is what the specification answers: the law FindsCheckSpec returns true. Conditions: the listed variables of Go's library hold what their text lays. -/
import Derived.Test.YtilfiadkhohfiaaGreatDoorPl
import Derived.Test.YtilfiadkhohfiaaGreatDoorPk
import Derived.Test.YtilfiadkhohfiaaGreatDoorPn
import Derived.Test.YtilfiadkhohfiaaGreatDoorPo
namespace Go.Proofs.YtilfiadkhohfiaaGreatDoor
set_option linter.unusedSimpArgs false
set_option linter.unusedVariables false
open Go Go.RowKit Go.ChangeShapes Go.WideShapes Go.ChangeAt

theorem findsCheckSpec_any (W : World) (hg : Gl W) {no el sd : Int} {a b d e : Nat} {lo hi sex wear layer square : Int} {n kn kd fd ot no' el' sd' : Int} {a' b' d' e' : Nat} {lo' hi' sex' wear' layer' square' : Int} {oc oc' : Option Nat} {l l' : List Mea} {ms ms' : Value}
    (hu : a < 18446744073709551616 ∧ b < 18446744073709551616 ∧ d < 18446744073709551616 ∧ e < 18446744073709551616) (hu' : a' < 18446744073709551616 ∧ b' < 18446744073709551616 ∧ d' < 18446744073709551616 ∧ e' < 18446744073709551616)
    (ho : oc = none → l = []) (ho' : oc' = none → l' = []) (hr : EvR n kn kd fd ot no' el' sd' lo' hi' sex' wear' layer' square' a' b' d' e') (hm : RM l') (hq : R64 (.ofNat l'.length)) (h1 : MeaAt W ms oc l) (h2 : MeaAt W ms' oc' l') :
    Calls Tryz.prog 3 #[.agg (finVs no el sd a b d e ms lo hi sex wear layer square).toArray, evVs n kn kd fd ot (finVs no' el' sd' a' b' d' e' ms' lo' hi' sex' wear' layer' square')] W fun q w' => q = .returned (.bool true) ∧ Below W.heap.size W w' :=
  law_true (by kernel_rfl) (by have := hg.size; omega) (fun w hb => sane_any w (hg.below hb)) ho ho'
    (find_both (by kernel_rfl) ho no el sd a b d e lo hi sex wear layer square (zones_good hg hu.1 hu.2.1 hu.2.2.1 hu.2.2.2) (rzones_good hu.1 hu.2.1 hu.2.2.1 hu.2.2.2))
    (event_both (by kernel_rfl) ho' n kn kd fd ot no' el' sd' a' b' d' e' lo' hi' sex' wear' layer' square' hr hm hq (zones_good hg hu'.1 hu'.2.1 hu'.2.2.1 hu'.2.2.2) (rzones_good hu'.1 hu'.2.1 hu'.2.2.1 hu'.2.2.2)) h1 h2
set_option maxRecDepth 100000 in
theorem findsCheckSpec_lifted (os : Os) (started : os.Started) (H : Type) (enc : TypeId × Value → H) :
    ReturnsInHanded {} Tryz.checked os 3 .any (fun w args => (Rows.findsCheckSpecSpec.pre enc Tryz.prog Tryz.f3 [] false w args ∧ laidMetH Tryz.prog laidS w) ∧ sizedMet enc Tryz.prog Tryz.f3 (OpenSpec.ofChange Rows.findsCheckSpecSpec) false w args)
      (Rows.findsCheckSpecSpec.post enc Tryz.prog Tryz.f3 false true false false) := by
  refine lifted_of started (by kernel_rfl) Tryz.func3
    (ChangeSpec.witness_shaped (enc := enc) (C := Tryz.checked) (os := os) (X := fun w _ => laidMetH Tryz.prog laidS w) false (World.laidAll Tryz.prog os laidS) #[.agg #[.int .i64 0, .int .i64 0, .int .i64 0, .int .u64 0, .int .u64 0, .int .u64 0, .int .u64 0, .slice none 0 0, .int .i64 0, .int .i64 0, .int .i64 0, .int .i64 0, .int .i64 0, .int .i64 0], .agg #[.int .i64 0, .int .i64 0, .int .i64 0, .int .i64 0, .int .i64 0, .int .i64 0, .int .i64 0, .int .i64 0, .int .u64 0, .int .u64 0, .int .u64 0, .int .u64 0, .slice none 0 0, .int .i64 0, .int .i64 0, .int .i64 0, .int .i64 0, .int .i64 0, .int .i64 0]] 12 (World.laidAll_os _ _ _)
      (World.shaped_of_ZipB (by kernel_rfl) (by kernel_rfl)) (by kernel_rfl) (by kernel_rfl) (by kernel_rfl) (laid_met os _)) ?_
  intro W base args ds gs before hg hval0 hW _
  have hval : ∀ (j : Nat) t v, Tryz.f3.params[j]? = some t → args[j]? = some v → Value.okWide Tryz.prog W .any base t v := hval0
  have hW' := hW
  obtain ⟨p, q, hA0, hV, rfl, _, _⟩ := hW
  have hA : DataW.TrodAll enc Tryz.prog W 0 (fun _ => true) true Tryz.f3.params.toList args.toList ds p := hA0
  rw [Tryz.params3] at hA hval
  obtain ⟨v0, v1, d0, d1, p0, p1, rfl, rfl, rfl, h0, h1⟩ := trodAll_two hA
  obtain ⟨rfl, rfl⟩ := trodVars_none hV
  simp only [List.append_nil] at hW'
  have hlt0 : ∀ x ∈ p0, x.block < W.heap.size := fun x hx => by simpa using hW'.lt x (List.mem_append_left _ hx)
  have hlt1 : ∀ x ∈ p1, x.block < W.heap.size := fun x hx => by simpa using hW'.lt x (List.mem_append_right _ hx)
  have h0k := h0
  have h1k := h1
  have hs0 : 0 < W.heap.size := by have := hg.size; omega
  obtain ⟨no, el, sd, a, b, d, e, ms, lo, hi, sex, wear, layer, square, oc, l, rfl, _, hu, hM, ho, _, _⟩ := open_find hs0 (hval 0 _ v0 rfl rfl) h0
  obtain ⟨n, kn, kd, fd, ot, no', el', sd', a', b', d', e', ms', lo', hi', sex', wear', layer', square', oc', l', rfl, hr, hu', hM', ho', hm, hq⟩ := open_event hs0 (hval 1 _ v1 rfl rfl) h1
  refine (findsCheckSpec_any W hg hu hu' ho ho' hr hm hq hM hM').mono fun e W' ⟨he, hb⟩ => ?_
  subst he
  exact ⟨_, rfl, _, _, _, [], _, [], hW', trodAll_mk1 (shut_bool Tryz.underlying4 _), trodAll_mk2 (Below.trod (by kernel_rfl) (by kernel_rfl) (of_decide_eq_true (by kernel_rfl)) h0k hb hlt0) (Below.trod (by kernel_rfl) (by kernel_rfl) (of_decide_eq_true (by kernel_rfl)) h1k hb hlt1), rfl, hb.frame _, fun h => by cases h⟩
theorem findsCheckSpec_card : Rows.FindsCheckSpecCardSaid := findsCheckSpec_cardOf (findsCheckSpec_holdsOf findsCheckSpec_lifted)
#print axioms findsCheckSpec_card
end Go.Proofs.YtilfiadkhohfiaaGreatDoor
