/- What all cards share. -/
import Derived.Test.YtjifajigigflkaaDoorRows
import Derived.Test.YtjifajigigflkaaDoorCards
import Derived.Test.YtjifajigigflkaaDoorTie
import Derived.Test.YtjifajigigflkaaDoorQd
import Derived.Test.YtjifajigigflkaaDoorQc
import Derived.HandedShaped
import Derived.ProofKit
import Derived.OpenShut
import Derived.LaidMore
import Derived.Lay
import Derived.Lib.LaidTab
import Derived.Stop.LaidErr
import Derived.Shelf.Vars
import Derived.SevenTiedAt
import Derived.Stop.Joined
/- The cards: what all of them share. -/
namespace Go.Proofs.YtjifajigigflkaaDoor
set_option linter.unusedSimpArgs false
set_option linter.unusedVariables false
open Go Go.RowKit Go.ChangeShapes Go.WideShapes Go.ChangeAt

theorem own : ownKnob Tryd.prog.godebug = none := by kernel_rfl
/-- The variables that every row lists. -/
def laidS : List (String × DataW Unit) := Rows.bitsSetsRow.laid
theorem cells_u8 : Tryd.prog.cellsOf 5 = 1 := by kernel_rfl
theorem cells_64u8 : Tryd.prog.cellsOf 93 = 64 := by kernel_rfl
theorem cells_20u64 : Tryd.prog.cellsOf 124 = 20 := by kernel_rfl
theorem iface_cell {W : World} {n : String} {nm : String} {d : DataW Unit} {r : List (String × DataW Unit)} {g : Nat} {t : TypeId} {ms : Array (String × TypeId)} (h : laidMet Tryd.prog ((n, .iface nm d) :: r) W)
    (hg : Tryd.prog.globalNamed n = some g) (ht : (Tryd.prog.globals[g]?).map (·.type) = some t) (hi : Tryd.prog.underlying t = some (.interface ms)) : ∃ u p, W.cell? ⟨g, 0, none⟩ = some (.iface u p) := by
  obtain ⟨ps, ⟨g', t', cs, fuel, p, q, hg', ht', hvar, hd, _, _⟩, _⟩ := h
  obtain rfl := Option.some.inj (hg.symm.trans hg')
  obtain rfl := Option.some.inj (ht.symm.trans ht')
  obtain ⟨_, u, v, hcs, _, _⟩ := iface_of_trod hi hd
  refine ⟨u, v, ?_⟩
  rw [World.var?_cell hg hvar 0, ← Array.getElem?_toList, hcs]; rfl
theorem gl_of {W : World} (hL : laidMetH Tryd.prog laidS W) (hsh : W.ShapedOpen Tryd.prog) : Gl W := by
  rw [MakeChecks.laidMetH_plain _ _ _ (by kernel_rfl)] at hL
  have h2 : laidMet Tryd.prog (("math/bits.deBruijn64tab", Lib.tabData .u8 (Lib.deBruijn64tab.map Int.ofNat)) :: ("internal/strconv.uint64pow10", Lib.tabData .u64 Lib.pow10Tab) :: ("strconv.ErrRange", Rows.laid_strconv_ErrRange) :: [("strconv.ErrSyntax", Rows.laid_strconv_ErrSyntax)]) W := hL.tail
  have t64 := Lib.tabIs_of_head (k := .u8) (zs := Lib.deBruijn64tab.map Int.ofNat) (g := 0) (t := 93) (by kernel_rfl) (by kernel_rfl) Tryd.underlying93 Tryd.underlying5 cells_u8 cells_64u8 h2
  have tp := Lib.tabIs_of_head (k := .u64) (zs := Lib.pow10Tab) (g := 3) (t := 124) (by kernel_rfl) (by kernel_rfl) Tryd.underlying124 Tryd.underlying23 cellsU64 cells_20u64 h2.tail
  have er := iface_cell (g := 5) (t := 104) h2.tail.tail (by kernel_rfl) (by kernel_rfl) Tryd.underlying104
  have es := iface_cell (g := 4) (t := 104) h2.tail.tail.tail (by kernel_rfl) (by kernel_rfl) Tryd.underlying104
  have em := cell_of_shapedOpen_int (g := 2) (t := 3) (zero := #[.int .i64 0]) (k := .i64) hsh (of_decide_eq_true (by kernel_rfl)) (by kernel_rfl) rfl (by kernel_rfl) (by kernel_rfl) Tryd.underlying3
  obtain ⟨u, p, hu⟩ := er
  refine ⟨fun j hj => ?_, ?_, tp, es, ⟨u, p, hu⟩, em⟩
  · have := t64.cell (g := 0) (by kernel_rfl) j (by simpa using hj)
    rw [this]
    have hj' : j < Lib.deBruijn64tab.length := hj
    simp [List.getD, hj']
  · have : 5 < W.heap.size := block_lt_of_cell hu
    omega
theorem laid_met (os : Os) (args : Array Value) : laidMetH Tryd.prog laidS ((World.laidAll Tryd.prog os laidS).forCall (fun _ _ => 0) ⟨#[], args, []⟩).memory := by
  rw [MakeChecks.laidMetH_plain _ _ _ (by kernel_rfl)]; exact laidMet_laidAll _ (by kernel_rfl) (by kernel_rfl)
set_option maxRecDepth 100000 in
/-- A law's contract, where its listed variables hold what the text lays, and the library's own have their types, makes the form that a row asks. -/
theorem lifted_of {H : Type} {enc : TypeId × Value → H} {os : Os} {f : FuncId} {fn : Func} {s : ChangeSpec} (started : os.Started) (noInit : Tryd.prog.inits.idxOf? f = none) (hfn : Tryd.prog.funcs[f]? = some fn)
    (witness : ∃ (w : World) (tape : Tape) (i : Input), w.os = os ∧ (w.forCall tape i).Shaped Tryd.prog ∧ i.vars = [] ∧ Input.okWide Tryd.prog (w.forCall tape i) .any w.heap.size f i ∧
      ((s.pre enc Tryd.prog fn [] false (w.forCall tape i).memory i.args ∧ laidMetH Tryd.prog laidS (w.forCall tape i).memory) ∧ sizedMet enc Tryd.prog fn (OpenSpec.ofChange s) false (w.forCall tape i).memory i.args) ∧ ({} : Assume).holds Tryd.prog (lone (Frame.enter Tryd.prog f i.args .normal) [] (w.forCall tape i)))
    (law : ∀ (W : World) (base : Nat) (args : Array Value) (ds gs : List (DataW H)) (before : List MemPlace), Gl W →
      (∀ (j : Nat) t v, fn.params[j]? = some t → args[j]? = some v → Value.okWide Tryd.prog W .any base t v) →
      DataW.Whole enc Tryd.prog fn.params.toList s.vars false W args.toList ds gs before →
      (DataW.weightsEach Tryd.prog (fn.params.toList ++ s.plain.varTypes Tryd.prog) (ds ++ gs)).all (· ≤ reachBytes) = true →
      Calls Tryd.prog f args W fun e W' => ∃ v, e = .returned v ∧ s.post enc Tryd.prog fn false true false false W args v W') :
    ReturnsInHanded {} Tryd.checked os f .any (fun w args => (s.pre enc Tryd.prog fn [] false w args ∧ laidMetH Tryd.prog laidS w) ∧ sizedMet enc Tryd.prog fn (OpenSpec.ofChange s) false w args) (s.post enc Tryd.prog fn false true false false) :=
  returnsInHanded_of_calls own started noInit witness fun w tape i _ hsh _ hok ⟨⟨⟨ds, gs, before, hw, _⟩, hx⟩, hz⟩ _ => by
    obtain ⟨_, _, _, fn', hfn', _, _, _, _, hval⟩ := hok
    obtain rfl : fn' = fn := Option.some.inj (hfn'.symm.trans hfn)
    exact (law (w.forCall tape i) w.heap.size i.args ds gs before (gl_of (laidMetH.of_heap (w' := w.forCall tape i) (by rfl) hx) hsh) hval (DataW.Whole.of_heap (by rfl) hw) (hz.weights hw)).mono fun e W' ⟨v, he, hp⟩ => by
      subst he; exact ChangeSpec.post_blind hp
end Go.Proofs.YtjifajigigflkaaDoor
