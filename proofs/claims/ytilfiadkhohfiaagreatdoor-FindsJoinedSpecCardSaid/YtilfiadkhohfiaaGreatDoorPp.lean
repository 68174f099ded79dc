/- On any two finds and any number, Joined, Overlap and Sides answer what the text of the chapter asks, each error in its order: the law FindsJoinedSpec returns true. Conditions: the listed variables of Go's library hold what their text lays. -/
import Derived.Test.YtilfiadkhohfiaaGreatDoorPl
import Derived.Test.YtilfiadkhohfiaaGreatDoorPj
import Derived.Test.YtilfiadkhohfiaaGreatDoorPk
import Derived.Test.YtilfiadkhohfiaaGreatDoorPn
import Derived.Test.YtilfiadkhohfiaaGreatDoorPo
namespace Go.Proofs.YtilfiadkhohfiaaGreatDoor
set_option linter.unusedSimpArgs false
set_option linter.unusedVariables false
open Go Go.RowKit Go.ChangeShapes Go.WideShapes Go.ChangeAt

theorem checks_any {W : World} (hg : Gl W) {f : Fd} (hf : f.OK) : ∃ z, Checks W f z := by
  have key := fun (w : World) (hb : Below W.heap.size W w) => check_calls (W := w) (by kernel_rfl) (l := f.l) hf.ho f.no f.el f.sd f.a f.b f.d f.e f.lo f.hi f.sex f.wear f.layer f.square (zones_good (hg.below hb) hf.a hf.b hf.d hf.e)
  by_cases hv : f.Valid
  · refine ⟨0, .inl ⟨hv, rfl⟩, fun w ms hb hm => ?_⟩
    obtain ⟨z, hz, hc⟩ := key w hb
    rcases hz with ⟨_, rfl⟩ | ⟨h, _⟩
    · exact hc ms hm w (Below.refl _ _)
    · exact absurd hv h
  · refine ⟨20, .inr ⟨hv, rfl⟩, fun w ms hb hm => ?_⟩
    obtain ⟨z, hz, hc⟩ := key w hb
    rcases hz with ⟨h, _⟩ | ⟨_, rfl⟩
    · exact absurd h hv
    · exact hc ms hm w (Below.refl _ _)
theorem checksR_any {W : World} (hg : Gl W) {f : Fd} (hf : f.OK) {z : Int} (hz : Checks W f z) : ChecksR W f z := fun w ms hb hm => by
  obtain ⟨v, hv, hc⟩ := valid_calls (W := w) (by kernel_rfl) (l := f.l) hf.ho f.no f.el f.sd f.a f.b f.d f.e f.lo f.hi f.sex f.wear f.layer f.square (rzones_good hf.a hf.b hf.d hf.e)
  have e : v = Go.Clo.intBeq z 0 := by
    rcases hz.1 with ⟨h1, rfl⟩ | ⟨h1, rfl⟩ <;> rcases hv with ⟨h2, rfl⟩ | ⟨h2, rfl⟩
    · rfl
    · exact absurd h1 h2
    · exact absurd h2 h1
    · rfl
  rw [← e]
  exact hc ms hm
theorem findsJoinedSpec_any (W : World) (hg : Gl W) {f g : Fd} (hf : f.OK) (hf' : g.OK) {ms ms' : Value} (num : Int) (h1 : MeaAt W ms f.oc f.l) (h2 : MeaAt W ms' g.oc g.l) :
    Calls Tryz.prog 8 #[f.U ms, g.U ms', .int .i64 num] W fun q w' => q = .returned (.bool true) ∧ Below W.heap.size W w' := by
  exact spec_law (by kernel_rfl) (by have := hg.size; omega) (fun w hb => sane_any w (hg.below hb)) (fun p hp => (checks_any hg hp).elim fun z hz => ⟨z, hz, checksR_any hg hp hz⟩) hf hf' num h1 h2
set_option maxRecDepth 100000 in
theorem find_room {W : World} {r : Reach} {base : Nat} {no el sd : Int} {a b c d : Nat} {ms : Value} {lo hi sex wear layer square : Int} {oc : Option Nat} {l : List Mea} (hval : Value.okWide Tryz.prog W r base 29 (.agg (finVs no el sd a b c d ms lo hi sex wear layer square).toArray)) (hM : MeaAt W ms oc l) : Room oc l := by
  simp only [Value.okWide, Tryz.underlying29] at hval
  obtain ⟨cs, h1, h2, ts, ht, _, hc⟩ := hval
  injection h1 with h1
  subst h1
  rw [typesFind] at ht
  injection ht with ht
  subst ht
  obtain ⟨u, h5, h6⟩ := hc 7 ms rfl
  have h5 : some 25 = some u := h5
  injection h5 with h5
  subst h5
  intro cap hcap
  subst hcap
  obtain ⟨b, o, rfl, _⟩ := hM
  simp only [Tryz.underlying25, Cell.okWide, Cell.ok] at h6
  exact h6.1
set_option maxRecDepth 100000 in
theorem findsJoinedSpec_lifted (os : Os) (started : os.Started) (H : Type) (enc : TypeId × Value → H) :
    ReturnsInHanded {} Tryz.checked os 8 .any (fun w args => (Rows.findsJoinedSpecSpec.pre enc Tryz.prog Tryz.f8 [] false w args ∧ laidMetH Tryz.prog laidS w) ∧ sizedMet enc Tryz.prog Tryz.f8 (OpenSpec.ofChange Rows.findsJoinedSpecSpec) false w args)
      (Rows.findsJoinedSpecSpec.post enc Tryz.prog Tryz.f8 false true false false) := by
  refine lifted_of started (by kernel_rfl) Tryz.func8
    (ChangeSpec.witness_shaped (enc := enc) (C := Tryz.checked) (os := os) (X := fun w _ => laidMetH Tryz.prog laidS w) false (World.laidAll Tryz.prog os laidS) #[.agg #[.int .i64 0, .int .i64 0, .int .i64 0, .int .u64 0, .int .u64 0, .int .u64 0, .int .u64 0, .slice none 0 0, .int .i64 0, .int .i64 0, .int .i64 0, .int .i64 0, .int .i64 0, .int .i64 0], .agg #[.int .i64 0, .int .i64 0, .int .i64 0, .int .u64 0, .int .u64 0, .int .u64 0, .int .u64 0, .slice none 0 0, .int .i64 0, .int .i64 0, .int .i64 0, .int .i64 0, .int .i64 0, .int .i64 0], .int .i64 0] 12 (World.laidAll_os _ _ _)
      (World.shaped_of_ZipB (by kernel_rfl) (by kernel_rfl)) (by kernel_rfl) (by kernel_rfl) (by kernel_rfl) (laid_met os _)) ?_
  intro W base args ds gs before hg hval0 hW _
  have hval : ∀ (j : Nat) t v, Tryz.f8.params[j]? = some t → args[j]? = some v → Value.okWide Tryz.prog W .any base t v := hval0
  have hW' := hW
  obtain ⟨p, q, hA0, hV, rfl, _, _⟩ := hW
  have hA : DataW.TrodAll enc Tryz.prog W 0 (fun _ => true) true Tryz.f8.params.toList args.toList ds p := hA0
  rw [Tryz.params8] at hA hval
  obtain ⟨v0, v1, v2, d0, d1, d2, p0, p1, p2, rfl, rfl, rfl, h0, h1, h2⟩ := trodAll_three hA
  obtain ⟨rfl, rfl⟩ := trodVars_none hV
  obtain ⟨num, rfl, rfl, rfl, w2⟩ := open_int Tryz.underlying3 (hval 2 _ v2 rfl rfl) h2
  simp only [List.append_nil] at hW'
  have hlt0 : ∀ x ∈ p0, x.block < W.heap.size := fun x hx => by simpa using hW'.lt x (List.mem_append_left _ hx)
  have hlt1 : ∀ x ∈ p1, x.block < W.heap.size := fun x hx => by simpa using hW'.lt x (List.mem_append_right _ hx)
  have h0k := h0
  have h1k := h1
  have hs0 : 0 < W.heap.size := by have := hg.size; omega
  have hv0 := hval 0 _ v0 rfl rfl
  have hv1 := hval 1 _ v1 rfl rfl
  obtain ⟨no, el, sd, a, b, d, e, ms, lo, hi, sex, wear, layer, square, oc, l, rfl, _, hu, hM, ho, _, _⟩ := open_find hs0 hv0 h0
  obtain ⟨no', el', sd', a', b', d', e', ms', lo', hi', sex', wear', layer', square', oc', l', rfl, _, hu', hM', ho', _, _⟩ := open_find hs0 hv1 h1
  refine (findsJoinedSpec_any W hg (f := ⟨no, el, sd, a, b, d, e, lo, hi, sex, wear, layer, square, oc, l⟩) (g := ⟨no', el', sd', a', b', d', e', lo', hi', sex', wear', layer', square', oc', l'⟩) ⟨ho, find_room hv0 hM, hu.1, hu.2.1, hu.2.2.1, hu.2.2.2⟩ ⟨ho', find_room hv1 hM', hu'.1, hu'.2.1, hu'.2.2.1, hu'.2.2.2⟩ num hM hM').mono fun e W' ⟨he, hb⟩ => ?_
  subst he
  exact ⟨_, rfl, _, _, _, [], _, [], hW', trodAll_mk1 (shut_bool Tryz.underlying4 _), trodAll_mk3 (Below.trod (by kernel_rfl) (by kernel_rfl) (of_decide_eq_true (by kernel_rfl)) h0k hb hlt0) (Below.trod (by kernel_rfl) (by kernel_rfl) (of_decide_eq_true (by kernel_rfl)) h1k hb hlt1) (shut_int Tryz.underlying3 w2), rfl, hb.frame _, fun h => by cases h⟩
theorem findsJoinedSpec_card : Rows.FindsJoinedSpecCardSaid := findsJoinedSpec_cardOf (findsJoinedSpec_holdsOf findsJoinedSpec_lifted)
#print axioms findsJoinedSpec_card
end Go.Proofs.YtilfiadkhohfiaaGreatDoor
