/- The own sane of the laws says yes. -/
import Derived.Test.YtilfiadkhohfiaaGreatDoorShelf3
import Derived.Test.YtilfiadkhohfiaaGreatDoorPc
import Derived.Test.YtilfiadkhohfiaaGreatDoorPs
import Derived.Test.YtilfiadkhohfiaaGreatDoorPe
import Derived.Test.YtilfiadkhohfiaaGreatDoorShelf2
import Derived.Lib.LaidTab
import Derived.Lib.ItoaNum
import Derived.Lib.AppendIntMem
/- (ledger).numbers: a map's keys, in order. -/
namespace Go.Proofs.YtilfiadkhohfiaaGreatDoor
set_option linter.unusedSimpArgs false
set_option linter.unusedVariables false
open Go Go.RowKit Go.Maps Go.Sort Go.Shelf

theorem sorts_any (m : Nat) : AnyZI.SortsIn Tryz.prog Tryz.sortedA_ren Fence.wide m :=
  ⟨fun blk off cap ss W hH hblk hsz => callsIn_wide.2 (AnyM.slices_Sort_int Tryz.sortA blk off cap ss W hH hblk hsz),
   fun p cap W => callsIn_wide.2 (AnyM.slices_Sort_int_none Tryz.sortA p cap W)⟩

set_option maxRecDepth 100000 in
set_option maxHeartbeats 1000000 in
theorem numbers_any : Go.Clo.NumC Tryz.prog 104 3 3 := by
  intro b nn D0 R w hown hmax hbytes
  refine (callsIn_wide (n := 6)).1 ?_
  have hbl := hown.lt
  have hseq := AnyZI.keys_gives (ρ := Tryz.keysA_ren) { Tryz.keysA with } Fence.wide 2 trivial rfl (by omega) w.heap.size b nn D0 (w.alloc (.cells #[.map (some b)] 118)) (by simp) (by simp) (R := R) (by
      obtain ⟨es, clock, hb, Ft, hs, hD⟩ := hown
      exact ⟨es, clock, (Below.heap_alloc _ _ b hbl).trans hb, Ft, hs, hD⟩)
  have cK : ∀ mb W, CallsIn Fence.wide 5 Tryz.prog 166 #[.map mb] W fun e w' => e = .returned (.func (.func 202) #[] #[.pointer (some ⟨W.heap.size, 0, none⟩)]) ∧ w' = W.alloc (.cells #[.map mb] 118) := fun mb W => AnyZI.keys_in Tryz.keysA Fence.wide 5 trivial rfl mb W
  have cS := AnyZI.sorted_in Tryz.sortedA Fence.wide 5 trivial trivial trivial trivial rfl (by omega) (sorts_any _) (enters_of Tryz.func111 (by kernel_rfl) rfl) 202 #[.pointer (some ⟨w.heap.size, 0, none⟩)] trivial (enters_of Tryz.func202 (by kernel_rfl) rfl) _ _ hmax hbytes _ hseq
  change CallsIn _ _ Tryz.prog 165 _ _ _ at cS
  have hfK : Fence.wide.fn 166 := trivial
  have hfS : Fence.wide.fn 165 := trivial
  refine callsIn_of_wp Tryz.func104 rfl trivial ?_ rfl
  simp only [Tryz.ntmps104, List.size_toArray, List.length_cons, List.length_nil, Nat.reduceAdd, Nat.reduceSub, Array.replicate_succ, Array.replicate_zero, List.push_toArray, List.append_toArray, List.nil_append, List.cons_append]
  gi_wp2_with (first
    | (gi_at_call 166; refine (cK _ _).mono ?_; rintro e w' ⟨rfl, rfl⟩)
    | (gi_at_call 165; refine cS.mono ?_; rintro e w' ⟨v, ss, rfl, hS, hrow, hnil, hb⟩))
  go_ret
  exact ⟨v, ss, rfl, hS, ownsRow_base_a hrow (by simp), hnil, ((Below.refl _ w).alloc (Nat.le_refl _) _).trans (hb.mono (by simp))⟩
end Go.Proofs.YtilfiadkhohfiaaGreatDoor
/- What layer 2's sane asks of the world, and that it says yes. -/
namespace Go.Proofs.YtilfiadkhohfiaaGreatDoor
set_option linter.unusedSimpArgs false
set_option linter.unusedVariables false
open Go Go.RowKit

theorem tz_any : Go.Clo.TzC Tryz.prog 234 Gl := fun x w hg hx =>
  Any7.bits_TrailingZeros64 Tryz.lxLays7n29 x hx w (fun _ => hg.tz)
theorem itoa_any : Go.Clo.ItoaC Tryz.prog 178 Gl := fun n w hg h0 h1 =>
  (Tryz.strconv_Itoa n h0 h1 w hg.pow).mono fun e w' ⟨he, k, os, hw⟩ => ⟨he, by rw [hw]; exact Lib.below_grow _ w (Nat.le_refl _) k os⟩
theorem join_any : Go.Clo.JoinC Tryz.prog 177 := fun bk o c xs sep w h1 h2 h3 h4 h5 =>
  Tryz.strings_Join bk o c xs sep w h1 h2 h3 h4 h5
theorem sane_any (w : World) (h : Gl w) : Calls Tryz.prog 18 #[] w fun e w' => e = .returned (.bool true) ∧ Below w.heap.size w w' :=
  sane_from (by kernel_rfl) (fun _ _ h hb => h.below hb) numbers_any itoa_any join_any tz_any w h
end Go.Proofs.YtilfiadkhohfiaaGreatDoor
