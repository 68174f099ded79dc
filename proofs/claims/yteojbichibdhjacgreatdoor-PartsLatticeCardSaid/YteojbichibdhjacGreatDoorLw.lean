/- For all two lists, Finer, Meet and Join answer what the specification answers: the law PartsLattice returns true. Conditions: the listed variables of Go's library hold what their text lays. -/
import Derived.Test.YteojbichibdhjacGreatDoorRows
import Derived.Test.YteojbichibdhjacGreatDoorCards
import Derived.Test.YteojbichibdhjacGreatDoorTie
import Derived.Test.YteojbichibdhjacGreatDoorLs
import Derived.Test.YteojbichibdhjacGreatDoorPu
import Derived.Test.YteojbichibdhjacGreatDoorPv
import Derived.Test.YteojbichibdhjacGreatDoorLu
import Derived.Test.YteojbichibdhjacGreatDoorLv
import Derived.HandedShaped
import Derived.ProofKit
import Derived.OpenShut
import Derived.LaidMore
import Derived.Lay
import Derived.Lib.LaidTab
import Derived.Stop.LaidErr
import Derived.Shelf.Vars
import Derived.SevenTiedAt
import Derived.Stop.Joined
namespace Go.Proofs.YteojbichibdhjacGreatDoor
set_option linter.unusedSimpArgs false
set_option linter.unusedVariables false
open Go Go.RowKit Go.ChangeShapes Go.WideShapes Go.ChangeAt

theorem own : ownKnob Tryz.prog.godebug = none := by kernel_rfl
/-- The variables that every row lists. -/
def laidS : List (String × DataW Unit) := Rows.partsLatticeRow.laid
theorem cells_u8 : Tryz.prog.cellsOf 5 = 1 := by kernel_rfl
theorem cells_64u8 : Tryz.prog.cellsOf 199 = 64 := by kernel_rfl
theorem cells_u64 : Tryz.prog.cellsOf 157 = 1 := by kernel_rfl
theorem cells_32u8 : Tryz.prog.cellsOf 198 = 32 := by kernel_rfl
theorem cells_20u64 : Tryz.prog.cellsOf 181 = 20 := by kernel_rfl
theorem gl_of {W : World} (hL : laidMetH Tryz.prog laidS W) (hsh : W.ShapedOpen Tryz.prog) : Gl W := by
  rw [MakeChecks.laidMetH_plain _ _ _ (by kernel_rfl)] at hL
  have h1 : laidMet Tryz.prog (("math/bits.deBruijn32tab", Lib.tabData .u8 (Lib.deBruijn32tab.map Int.ofNat)) :: ("math/bits.deBruijn64tab", Lib.tabData .u8 (Lib.deBruijn64tab.map Int.ofNat)) :: [("internal/strconv.uint64pow10", Lib.tabData .u64 Lib.pow10Tab)]) W := hL
  have t32 := Lib.tabIs_of_head (k := .u8) (zs := Lib.deBruijn32tab.map Int.ofNat) (g := 2) (t := 198) (by kernel_rfl) (by kernel_rfl) Tryz.underlying198 Tryz.underlying5 cells_u8 cells_32u8 h1
  have t64 := Lib.tabIs_of_head (k := .u8) (zs := Lib.deBruijn64tab.map Int.ofNat) (g := 3) (t := 199) (by kernel_rfl) (by kernel_rfl) Tryz.underlying199 Tryz.underlying5 cells_u8 cells_64u8 h1.tail
  have tp := Lib.tabIs_of_head (k := .u64) (zs := Lib.pow10Tab) (g := 0) (t := 181) (by kernel_rfl) (by kernel_rfl) Tryz.underlying181 Tryz.underlying157 cells_u64 cells_20u64 h1.tail.tail
  refine ⟨fun j hj => ?_, ?_, tp⟩
  · have := t32.cell (g := 2) (by kernel_rfl) j (by simpa using hj)
    rw [this]
    have hj' : j < Lib.deBruijn32tab.length := hj
    simp [List.getD, hj']
  · have := t64.cell (g := 3) (by kernel_rfl) 0 (by decide)
    have h8 : (3 : Nat) < W.heap.size := block_lt_of_cell this
    omega
theorem laid_met (os : Os) (args : Array Value) : laidMetH Tryz.prog laidS ((World.laidAll Tryz.prog os laidS).forCall (fun _ _ => 0) ⟨#[], args, []⟩).memory := by
  rw [MakeChecks.laidMetH_plain _ _ _ (by kernel_rfl)]; exact laidMet_laidAll _ (by kernel_rfl) (by kernel_rfl)
set_option maxRecDepth 100000 in
/-- A law's contract, where its listed variables hold what the text lays, and the library's own have their types, makes the form that a row asks. -/
theorem lifted_of {H : Type} {enc : TypeId × Value → H} {os : Os} {f : FuncId} {fn : Func} {s : ChangeSpec} (started : os.Started) (noInit : Tryz.prog.inits.idxOf? f = none) (hfn : Tryz.prog.funcs[f]? = some fn)
    (witness : ∃ (w : World) (tape : Tape) (i : Input), w.os = os ∧ (w.forCall tape i).Shaped Tryz.prog ∧ i.vars = [] ∧ Input.okWide Tryz.prog (w.forCall tape i) .any w.heap.size f i ∧
      ((s.pre enc Tryz.prog fn [] false (w.forCall tape i).memory i.args ∧ laidMetH Tryz.prog laidS (w.forCall tape i).memory) ∧ sizedMet enc Tryz.prog fn (OpenSpec.ofChange s) false (w.forCall tape i).memory i.args) ∧ ({} : Assume).holds Tryz.prog (lone (Frame.enter Tryz.prog f i.args .normal) [] (w.forCall tape i)))
    (law : ∀ (W : World) (base : Nat) (args : Array Value) (ds gs : List (DataW H)) (before : List MemPlace), Gl W →
      (∀ (j : Nat) t v, fn.params[j]? = some t → args[j]? = some v → Value.okWide Tryz.prog W .any base t v) →
      DataW.Whole enc Tryz.prog fn.params.toList s.vars false W args.toList ds gs before →
      (DataW.weightsEach Tryz.prog (fn.params.toList ++ s.plain.varTypes Tryz.prog) (ds ++ gs)).all (· ≤ reachBytes) = true →
      Calls Tryz.prog f args W fun e W' => ∃ v, e = .returned v ∧ s.post enc Tryz.prog fn false true false false W args v W') :
    ReturnsInHanded {} Tryz.checked os f .any (fun w args => (s.pre enc Tryz.prog fn [] false w args ∧ laidMetH Tryz.prog laidS w) ∧ sizedMet enc Tryz.prog fn (OpenSpec.ofChange s) false w args) (s.post enc Tryz.prog fn false true false false) :=
  returnsInHanded_of_calls own started noInit witness fun w tape i _ hsh _ hok ⟨⟨⟨ds, gs, before, hw, _⟩, hx⟩, hz⟩ _ => by
    obtain ⟨_, _, _, fn', hfn', _, _, _, _, hval⟩ := hok
    obtain rfl : fn' = fn := Option.some.inj (hfn'.symm.trans hfn)
    exact (law (w.forCall tape i) w.heap.size i.args ds gs before (gl_of (laidMetH.of_heap (w' := w.forCall tape i) (by rfl) hx) hsh) hval (DataW.Whole.of_heap (by rfl) hw) (hz.weights hw)).mono fun e W' ⟨v, he, hp⟩ => by
      subst he; exact ChangeSpec.post_blind hp

set_option maxRecDepth 100000 in
theorem partsLattice_lifted (os : Os) (started : os.Started) (H : Type) (enc : TypeId × Value → H) :
    ReturnsInHanded {} Tryz.checked os 3 .any (fun w args => (Rows.partsLatticeSpec.pre enc Tryz.prog Tryz.f3 [] false w args ∧ laidMetH Tryz.prog laidS w) ∧ sizedMet enc Tryz.prog Tryz.f3 (OpenSpec.ofChange Rows.partsLatticeSpec) false w args)
      (Rows.partsLatticeSpec.post enc Tryz.prog Tryz.f3 false true false false) := by
  refine lifted_of started (by kernel_rfl) Tryz.func3
    (ChangeSpec.witness_shaped (enc := enc) (C := Tryz.checked) (os := os) (X := fun w _ => laidMetH Tryz.prog laidS w) false (World.laidAll Tryz.prog os laidS) #[.slice none 0 0, .slice none 0 0] 12 (World.laidAll_os _ _ _)
      (World.shaped_of_ZipB (by kernel_rfl) (by kernel_rfl)) (by kernel_rfl) (by kernel_rfl) (by kernel_rfl) (laid_met os _)) ?_
  intro W base args ds gs before hg hval0 hW _
  have hval : ∀ (j : Nat) t v, Tryz.f3.params[j]? = some t → args[j]? = some v → Value.okWide Tryz.prog W .any base t v := hval0
  have hW' := hW
  obtain ⟨p, q, hA0, hV, rfl, _, _⟩ := hW
  have hA : DataW.TrodAll enc Tryz.prog W 0 (fun _ => true) true Tryz.f3.params.toList args.toList ds p := hA0
  rw [Tryz.params3] at hA hval
  obtain ⟨v0, v1, d0, d1, p0, p1, rfl, rfl, rfl, h0, h1⟩ := trodAll_two hA
  obtain ⟨rfl, rfl⟩ := trodVars_none hV
  simp only [List.append_nil] at hW'
  have hlt0 : ∀ x ∈ p0, x.block < W.heap.size := fun x hx => by simpa using hW'.lt x (List.mem_append_left _ hx)
  have hlt1 : ∀ x ∈ p1, x.block < W.heap.size := fun x hx => by simpa using hW'.lt x (List.mem_append_right _ hx)
  have h0k := h0
  have h1k := h1
  obtain ⟨a, ca, la, rfl, hla, hA1⟩ := open_nums (hval 0 _ v0 rfl rfl) h0
  obtain ⟨b, cb, lb, rfl, hlb, hB1⟩ := open_nums (hval 1 _ v1 rfl rfl) h1
  refine (partsLattice_any a b ca cb la lb W hla hlb hA1 hB1 (sane_any W hg)).mono fun e W' ⟨he, hb⟩ => ?_
  subst he
  exact ⟨_, rfl, _, _, _, [], _, [], hW', trodAll_mk1 (shut_bool Tryz.underlying4 _), trodAll_mk2 (Below.trod (by kernel_rfl) (by kernel_rfl) (of_decide_eq_true (by kernel_rfl)) h0k hb hlt0) (Below.trod (by kernel_rfl) (by kernel_rfl) (of_decide_eq_true (by kernel_rfl)) h1k hb hlt1), rfl, hb.frame _, fun h => by cases h⟩
theorem partsLattice_card : Rows.PartsLatticeCardSaid := partsLattice_cardOf (partsLattice_holdsOf partsLattice_lifted)
#print axioms partsLattice_card
end Go.Proofs.YteojbichibdhjacGreatDoor
