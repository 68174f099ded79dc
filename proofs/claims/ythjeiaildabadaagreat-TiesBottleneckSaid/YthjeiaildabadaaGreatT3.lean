/- Layer 4: slices.SortFunc as Widest calls it, out of the library's contract. -/
import Derived.Test.YthjeiaildabadaaGreatShelf3
import Derived.Shelf.SlSortCmp.NoneTotal
import Derived.Test.YthjeiaildabadaaGreatT2
namespace Go.Proofs.YthjeiaildabadaaGreat
set_option linter.unusedSimpArgs false
set_option linter.unusedVariables false
open Go Go.RowKit Go.Sort

instance : Inhabited TieD := ⟨⟨0, 0, 0, 0, 0⟩⟩
def strCf (x y : TieD) : Int := Lib.compareInt y.str x.str
theorem strLt (x y : TieD) : ltOf strCf x y = decide (y.str < x.str) := by
  unfold ltOf strCf Lib.compareInt
  by_cases h1 : y.str < x.str
  · simp [h1]
  · by_cases h2 : x.str < y.str <;> simp [h1, h2]
theorem strSwo : SWO (ltOf strCf) where
  irrefl x := by rw [strLt]; simp
  trans x y z h1 h2 := by rw [strLt] at *; simp at *; omega
  ntrans x y z h1 h2 := by rw [strLt] at *; simp at *; omega
theorem cmp_int (x y : Int) (w : World) : Calls Tryz.prog 54 #[.int .i64 x, .int .i64 y] w fun e w' => e = .returned (.int .i64 (Lib.compareInt x y)) ∧ w' = w := Any.cmp_Compare_int Tryz.cmpC x y w
set_option maxRecDepth 100000 in
set_option maxHeartbeats 2000000 in
theorem srtFn_any (x y : TieD) (W : World) : Calls Tryz.prog 53 #[.agg (tvC x).toArray, .agg (tvC y).toArray] W fun e w' => e = .returned (.int .i64 (strCf x y)) ∧ ∃ q os', w' = grow (W.drewN q) os' := by
  obtain ⟨xa, xb, xk, xs, xr⟩ := x
  obtain ⟨ya, yb, yk, ys, yr⟩ := y
  unfold strCf tvC
  simp only
  have HC : Hid (∀ W', Calls Tryz.prog 54 #[.int .i64 ys, .int .i64 xs] W' fun e w' => e = .returned (.int .i64 (Lib.compareInt ys xs)) ∧ w' = W') := fun W' => cmp_int ys xs W'
  generalize Lib.compareInt ys xs = r at HC ⊢
  go_enter Tryz.func53, Tryz.ntmps53
  go_wp2_with (go_at_call 54; refine (HC.out _).mono ?_; rintro e w' ⟨rfl, rfl⟩)
  go_ret
  exact ⟨rfl, 0, _, by rw [alloc_eq_grow, alloc_eq_grow, grow_grow]; rfl⟩
theorem own_holdsT {W : World} {base cap n : Nat} {r : Option Addr} {l : List TieD} (h : W.ownsRow base 54 5 (.slice r n cap) l.length (tvL l)) : l = [] ∨ ∃ g, r = some ⟨g, 0, none⟩ ∧ base ≤ g ∧ g < W.heap.size ∧ HoldsK tvC 5 W g 0 l.toArray := by
  obtain ⟨hl, h⟩ := h
  rcases h with ⟨_, h0⟩ | ⟨g, cap', cur, e, hg, hb, h1, h2, h3, h4⟩
  · exact .inl (List.length_eq_zero_iff.1 h0)
  · injection e with e1 e2 e3
    refine .inr ⟨g, e1, hg, (Array.getElem?_eq_some_iff.1 hb).1, fun j hj => ?_⟩
    rw [size_flatK] at hj
    have hj' : j < l.length * 5 := by simpa using hj
    rw [get_flatK _ _ _ _ hj]
    have hd : j / 5 < l.length := by omega
    have hm : j % 5 < (tvC l[j / 5]).length := by show j % 5 < 5; omega
    have key := tvL_get (List.getElem?_eq_getElem hd) (List.getElem?_eq_getElem hm)
    rw [show j / 5 * 5 + j % 5 = j by omega, ← h4, List.getElem?_take, if_pos hj', Array.getElem?_toList] at key
    refine ⟨?_, by simp [World.frozen?, hb]⟩
    rw [Nat.zero_add]
    have e4 : l.toArray[j / 5]! = l[j / 5] := by rw [getElem!_pos l.toArray _ (by simpa using hd)]; simp
    rw [e4, getElem!_pos (tvC l[j / 5]) _ hm]
    simp [World.cell?, hb, key]
theorem holdsK_ties {W : World} {g : Nat} {d : Array TieD} (hlt : g < W.heap.size) (h : HoldsK tvC 5 W g 0 d) : TiesAt W (some ⟨g, 0, none⟩) d.toList := by
  refine .inr ⟨g, 0, rfl, hlt, fun i t hi => ?_⟩
  have hi2 : i < d.size := by simpa using (List.getElem?_eq_some_iff.1 hi).1
  have e : d[i]! = t := by
    rw [getElem!_pos d _ hi2]
    have := (List.getElem?_eq_some_iff.1 hi).2
    simpa using this
  have c := fun c hc => (h.cell hi2 (c := c) hc).1
  rw [e] at c
  exact ⟨c 0 (by omega), c 1 (by omega), c 2 (by omega), c 3 (by omega), c 4 (by omega)⟩
theorem put_below {W : World} {base g n : Nat} {d : Array TieD} (os : Array Obj) (hg : base ≤ g) (hb : base ≤ W.heap.size) : Below base W (sortWorldK tvC 5 W g 0 n d os) := by
  refine ⟨rfl, rfl, rfl, ?_, fun k hk => ?_⟩
  · simp [sortWorldK, grow, putRowK, putRow, mapBlock, Sort.ahead]
  · have hkk : k ≠ g := by omega
    unfold sortWorldK putRowK
    have e : (grow (putRow id (Sort.ahead W n) g 0 (flatK tvC 5 d)) os).heap[k]? = (putRow id (Sort.ahead W n) g 0 (flatK tvC 5 d)).heap[k]? := by
      simp only [grow]
      rw [Array.getElem?_append_left (by simp [putRow, mapBlock, Sort.ahead]; omega)]
    rw [e]
    simp only [putRow, mapBlock, Sort.ahead, Array.getElem?_modify]
    rw [if_neg (fun e => hkk e.symm)]
theorem sort_okT : SortOk := by
  intro W base r cap l hl hbase h
  rcases own_holdsT h with h0 | ⟨g, rfl, hg, hlt, hH⟩
  · subst h0
    refine (AnyF.slices_SortFunc_none Tryz.sortTies r cap (.func (.func 53) #[] #[]) W).mono fun e w' he => ?_
    obtain ⟨rfl, rfl⟩ := he
    exact ⟨⟨_, rfl⟩, ⟨[], List.Perm.refl _, List.Pairwise.nil, .inl rfl⟩, Below.refl _ _⟩
  · have eg : ∀ args w, (callFunc 53 args).run Tryz.prog w = .ok (.enter 53 args) w := enters_of Tryz.func53 (by kernel_rfl) rfl
    have hc : CmpLays Tryz.prog 53 #[] tvC 5 strCf g 0 l.toArray.size W := fun _ _ _ _ x y => srtFn_any x y _
    have hcon := AnyQ.slices_SortFunc Tryz.sortTies 5 Tryz.isAgg54 Tryz.sizeOf54 tvC (fun _ => rfl) (fun x v hv => by simp [tvC] at hv; rcases hv with rfl | rfl | rfl | rfl | rfl <;> rfl) strCf strSwo 53 #[] g 0 cap l.toArray W eg hc hH hlt (by simp; omega)
    rw [List.size_toArray] at hcon
    refine Calls.mono hcon fun e w' he => ?_
    obtain ⟨rfl, d', n, os, hp, hs, rfl⟩ := he
    obtain ⟨hp1, -, hp3⟩ := hp
    have hsz : d'.size = l.length := by simpa using hp1
    refine ⟨⟨_, rfl⟩, ⟨d'.toList, ?_, ?_, ?_⟩, put_below os hg hbase⟩
    · have e1 : d'.extract 0 l.length = d' := by rw [← hsz]; exact Array.extract_size
      have e2 : l.toArray.extract 0 l.length = l.toArray := by simp
      rw [e1, e2] at hp3
      simpa using hp3
    · rw [List.pairwise_iff_getElem]
      intro i j hi hj hij
      have hj2 : j < d'.size := by simpa using hj
      have hi2 : i < d'.size := by simpa using hi
      have := hs i j (Nat.zero_le _) hij (by rw [← hsz]; exact hj2)
      rw [strLt, getElem!_pos d' i hi2, getElem!_pos d' j hj2] at this
      simp at this
      simpa using this
    · refine holdsK_ties (by simp [sortWorldK, grow, putRowK, putRow, mapBlock, Sort.ahead]; omega) ?_
      unfold sortWorldK
      refine holdsK_grow _ _ _ _ _ _ _ (by simp [putRowK, putRow, mapBlock, Sort.ahead]; omega) ?_
      exact holdsK_putRowK _ _ _ _ _ l.toArray _ (holdsK_ahead _ _ _ _ _ _ _ hH) (by simpa using hp1)
end Go.Proofs.YthjeiaildabadaaGreat
