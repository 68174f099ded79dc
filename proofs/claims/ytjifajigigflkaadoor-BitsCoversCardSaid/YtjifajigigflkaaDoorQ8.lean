/- Hit finds the best set. -/
import Derived.Test.YtjifajigigflkaaDoorQ7
import Derived.Laws.EntriesVeiled
import Derived.Deep.Cut
/- Package bits: Hit's inner function. -/
namespace Go.Proofs.YtjifajigigflkaaDoor
set_option linter.unusedSimpArgs false
set_option linter.unusedVariables false
open Go Go.RowKit Go.Shelf
attribute [local go_sem] Oper.semAt_some

theorem tz_any (x : Nat) (hx : x < 18446744073709551616) (w : World) (hg : Gl w) :
    Calls Tryd.prog 79 #[.int .u64 x] w fun e w' => e = .returned (.int .i64 (Lib.ctz 64 x)) ∧ w = w' := by
  have HG := Lib.hid hg
  clear hg
  go_enter Tryd.func79, Tryd.ntmps79
  go_wp2_with (go_at_call 68; refine (tz64_any x hx _ HG.out).mono ?_; rintro e w' ⟨rfl, rfl⟩)
  go_ret
  exact ⟨rfl, rfl⟩

/-- What Hit$1 finds, and does not turn: its captured boxes, the sets, which numbers hit which. -/
structure HtEnv (bk bb bl bh bs gk gb : Nat) (a : Option Addr) (cap M : Nat) (ls : List Nat) (w : World) : Prop where
  ek : Blk w bk #[.slice (some ⟨gk, 0, none⟩) M M] 78
  eb : Blk w bb #[.slice (some ⟨gb, 0, none⟩) M M] 54
  el : Blk w bl #[.slice a ls.length cap] 54
  eh : Blk w bh #[.func (.func 78) #[] #[.pointer (some ⟨bk, 0, none⟩), .pointer (some ⟨bb, 0, none⟩), .pointer (some ⟨bl, 0, none⟩), .pointer (some ⟨bh, 0, none⟩), .pointer (some ⟨bs, 0, none⟩)]] 79
  es : Blk w bs (hasA (hold ls ls.length)) 76
  sets : SetCells w a ls
  gl : Gl w
structure HtFix (bk bb bl bh bs gk gb M : Nat) (a : Option Addr) (ls : List Nat) : Prop where
  sets : ∀ N ∈ ls, N < 2 ^ 256 ∧ N ≠ 0
  len : ls.length ≤ 16
  M : M = 2 ^ ls.length
  g6 : 6 ≤ gk ∧ 6 ≤ gb
  ne : gk ≠ gb ∧ bk ≠ gk ∧ bk ≠ gb ∧ bb ≠ gk ∧ bb ≠ gb ∧ bl ≠ gk ∧ bl ≠ gb ∧ bh ≠ gk ∧ bh ≠ gb ∧ bs ≠ gk ∧ bs ≠ gb
  old : ∀ ad, a = some ad → ad.block ≠ gk ∧ ad.block ≠ gb
/-- The two blocks that turn. -/
def Sm (gk gb : Nat) (k : Nat) : Prop := k = gk ∨ k = gb
/-- The tables. -/
def Memo (gk gb M : Nat) (kn : Nat → Bool) (be : Nat → Nat) (w : World) : Prop := Blk w gk (knA M kn) 4 ∧ Blk w gb (beA M be) 25
theorem Memo.keep {gk gb M : Nat} {kn : Nat → Bool} {be : Nat → Nat} {w w' : World} (h : Memo gk gb M kn be w) (hb : Below w.heap.size w w') : Memo gk gb M kn be w' := ⟨h.1.below hb h.1.lt, h.2.below hb h.2.lt⟩
theorem SetCells.but {S : Nat → Prop} {w w' : World} {a : Option Addr} {ls : List Nat} (h : SetCells w a ls) (ho : ∀ ad, a = some ad → ¬ S ad.block) (hb : But S w w') : SetCells w' a ls := by
  rcases h with hs | ⟨b, o, rfl, hs⟩
  · exact .inl hs
  · refine .inr ⟨b, o, rfl, fun i N hi j hj => ?_⟩
    have h1 := hs i N hi j hj
    rw [World.cell?_of_block (w := w)]
    · exact h1
    · exact hb.block b (World.block_lt_of_cell? w _ h1) (ho _ rfl)
theorem HtEnv.but {bk bb bl bh bs gk gb : Nat} {a : Option Addr} {cap M : Nat} {ls : List Nat} {w w' : World} (hf : HtFix bk bb bl bh bs gk gb M a ls) (h : HtEnv bk bb bl bh bs gk gb a cap M ls w) (hb : But (Sm gk gb) w w') : HtEnv bk bb bl bh bs gk gb a cap M ls w' := by
  obtain ⟨h0, h1, h2, h3, h4, h5, h6, h7, h8, h9, h10⟩ := hf.ne
  exact ⟨hb.blk h.ek (by unfold Sm; omega), hb.blk h.eb (by unfold Sm; omega), hb.blk h.el (by unfold Sm; omega), hb.blk h.eh (by unfold Sm; omega), hb.blk h.es (by unfold Sm; omega),
    h.sets.but (fun ad e => by have := hf.old ad e; unfold Sm; omega) hb, hb.gl h.gl (fun k hk => by have := hf.g6; unfold Sm; omega)⟩
/-- The tables are right up to bound, and as they were beyond. -/
def Right (ls : List Nat) (kn : Nat → Bool) (be : Nat → Nat) (left : Nat) : Prop := (∀ x, x ≤ left → kn x = true → be x = hitV ls x) ∧ kn 0 = true
def HitPost (ls : List Nat) (gk gb M : Nat) (kn : Nat → Bool) (be : Nat → Nat) (left : Nat) (w : World) (e : Ending) (w' : World) : Prop :=
  e = .returned (setV (hitV ls left)) ∧ But (Sm gk gb) w w' ∧ ∃ kn' be', Memo gk gb M kn' be' w' ∧ Right ls kn' be' left ∧ ∀ x, left < x → kn' x = kn x ∧ be' x = be x

set_option maxRecDepth 100000 in
set_option maxHeartbeats 4000000 in
theorem hit1_known (bk bb bl bh bs gk gb : Nat) (a : Option Addr) (cap M : Nat) (ls : List Nat) (hf : HtFix bk bb bl bh bs gk gb M a ls) (left : Nat) (w : World) (kn : Nat → Bool) (be : Nat → Nat) (hl : left < M) (henv : HtEnv bk bb bl bh bs gk gb a cap M ls w) (hm : Memo gk gb M kn be w) (hr : Right ls kn be left) (hk : kn left = true) :
    Calls Tryd.prog 78 #[.int .i64 left, .pointer (some ⟨bk, 0, none⟩), .pointer (some ⟨bb, 0, none⟩), .pointer (some ⟨bl, 0, none⟩), .pointer (some ⟨bh, 0, none⟩), .pointer (some ⟨bs, 0, none⟩)] w (HitPost ls gk gb M kn be left w) := by
  obtain ⟨ck, fk⟩ := henv.ek.cell1
  obtain ⟨cb, fb⟩ := henv.eb.cell1
  have hk1 := henv.ek.lt
  have hb1 := henv.eb.lt
  have hk2 := hm.1.lt
  have hb2 := hm.2.lt
  have hM16 : M ≤ 65536 := by rw [hf.M]; exact Nat.pow_le_pow_right (n := 2) (by decide) hf.len
  have e0 : w.cell? ⟨gk, left, none⟩ = some (.bool true) := by rw [hm.1.cell, knA_get M kn left hl, hk]
  have hv := hr.1 left (Nat.le_refl _) hk
  have b0 : w.cell? ⟨gb, left * 4, none⟩ = some (.int .u64 (word (hitV ls left) 0)) := by rw [hm.2.cell, beA_get M be _ (by omega), show left * 4 / 4 = left by omega, show left * 4 % 4 = 0 by omega, hv]
  have b1 : w.cell? ⟨gb, left * 4 + 1, none⟩ = some (.int .u64 (word (hitV ls left) 1)) := by rw [hm.2.cell, beA_get M be _ (by omega), show (left * 4 + 1) / 4 = left by omega, show (left * 4 + 1) % 4 = 1 by omega, hv]
  have b2 : w.cell? ⟨gb, left * 4 + 2, none⟩ = some (.int .u64 (word (hitV ls left) 2)) := by rw [hm.2.cell, beA_get M be _ (by omega), show (left * 4 + 2) / 4 = left by omega, show (left * 4 + 2) % 4 = 2 by omega, hv]
  have b3 : w.cell? ⟨gb, left * 4 + 3, none⟩ = some (.int .u64 (word (hitV ls left) 3)) := by rw [hm.2.cell, beA_get M be _ (by omega), show (left * 4 + 3) / 4 = left by omega, show (left * 4 + 3) % 4 = 3 by omega, hv]
  have HR := Lib.hid hr
  have HM := Lib.hid hm
  clear hr hm hv henv
  go_enter Tryd.func78, Tryd.ntmps78
  go_wp2_with fail
  refine named (fun V => Blk V (w.heap.size + 1) (setA (hitV ls left)) 25 ∧ Below w.heap.size w V) ⟨Blk.new1 _ _ _ _, below_new2 _ _ _⟩ ?_
  rintro V ⟨hB, hbV⟩
  obtain ⟨q0, q1, q2, q3, _⟩ := hB.set4
  exact bodyPost_ret (v := setV (hitV ls left)) (by simp [results, Tryd.results78, go_sem, q0, q1, q2, q3, setV]) rfl ⟨rfl, But.of_below hbV, kn, be, HM.out.keep hbV, HR.out, fun _ _ => ⟨rfl, rfl⟩⟩

theorem But.tr {S : Nat → Prop} {a b c : World} (h : But S a b) (k : But S b c) : But S a c := h.trans k fun _ _ h => h
theorem but_drew (S : Nat → Prop) (U : World) : But S U U.drew := ⟨rfl, rfl, rfl, Nat.le_refl _, fun _ _ _ => rfl⟩
def Cells4 (U : World) (c o : Nat) (s : Nat) : World := ((((U.setCell ⟨c, o, none⟩ (.int .u64 ↑(word s 0))).setCell ⟨c, o + 1, none⟩ (.int .u64 ↑(word s 1))).setCell ⟨c, o + 2, none⟩ (.int .u64 ↑(word s 2))).setCell ⟨c, o + 3, none⟩ (.int .u64 ↑(word s 3)))
theorem cells4_other {U : World} {c o s b : Nat} {cs : Array Value} {t : TypeId} (h : Blk U b cs t) (hne : b ≠ c) : Blk (Cells4 U c o s) b cs t := (((h.other _ _ hne).other _ _ hne).other _ _ hne).other _ _ hne
theorem cells4_best {U : World} {gb M left s : Nat} {be : Nat → Nat} (h : Blk U gb (beA M be) 25) (hl : left < M) : Blk (Cells4 U gb (left * 4) s) gb (beA M (updN be left s)) 25 := by
  have e := (((h.set (left * 4) (.int .u64 ↑(word s 0))).set (left * 4 + 1) (.int .u64 ↑(word s 1))).set (left * 4 + 2) (.int .u64 ↑(word s 2))).set (left * 4 + 3) (.int .u64 ↑(word s 3))
  rw [beA_set _ _ _ _ hl] at e
  exact e
theorem cells4_but {gk gb : Nat} {V U : World} (h : But (Sm gk gb) V U) (o s : Nat) : But (Sm gk gb) V (Cells4 U gb o s) := by
  have step : ∀ {U : World} (_ : But (Sm gk gb) V U) (i : Nat) (v : Value), But (Sm gk gb) V (U.setCell ⟨gb, i, none⟩ v) := fun h i v => h.trans (But.setCell (S := Sm gk gb) (a := ⟨gb, i, none⟩) (.inr rfl) v) fun k hk e => e
  exact step (step (step (step h _ _) _ _) _ _) _ _
def StoreFacts (gk gb M left s c6 c7 c9 : Nat) (kn : Nat → Bool) (be : Nat → Nat) (V X : World) : Prop := But (Sm gk gb) V X ∧ Blk X c6 #[.int .i64 (left : Int)] 3 ∧ Blk X c7 (setA 0) 25 ∧ Blk X c9 (setA s) 25 ∧ Memo gk gb M kn be X
theorem store_best {gk gb M left s c6 c7 c9 : Nat} {kn : Nat → Bool} {be : Nat → Nat} {V U : World} (hl : left < M) (h0 : gk ≠ gb) (h6 : c6 ≠ gb) (h7 : c7 ≠ gb) (h9 : c9 ≠ gb) (h : StoreFacts gk gb M left s c6 c7 c9 kn be V U) : StoreFacts gk gb M left s c6 c7 c9 kn (updN be left s) V (Cells4 U gb (left * 4) s).drew := by
  obtain ⟨a1, a2, a3, a4, a5, a6⟩ := h
  have e1 := cells4_but a1 (left * 4) s
  have e2 : Blk (Cells4 U gb (left * 4) s) c6 _ _ := cells4_other a2 h6
  have e3 : Blk (Cells4 U gb (left * 4) s) c7 _ _ := cells4_other a3 h7
  have e4 : Blk (Cells4 U gb (left * 4) s) c9 _ _ := cells4_other a4 h9
  have e5 : Blk (Cells4 U gb (left * 4) s) gk _ _ := cells4_other a5 h0
  have e6 := cells4_best (s := s) a6 hl
  generalize Cells4 U gb (left * 4) s = X at *
  exact ⟨e1.tr (but_drew _ _), e2, e3, e4, e5, e6⟩
theorem store_known {gk gb M left s c6 c7 c9 : Nat} {kn : Nat → Bool} {be : Nat → Nat} {V U : World} (hl : left < M) (h0 : gk ≠ gb) (h6 : c6 ≠ gk) (h7 : c7 ≠ gk) (h9 : c9 ≠ gk) (h : StoreFacts gk gb M left s c6 c7 c9 kn be V U) : StoreFacts gk gb M left s c6 c7 c9 (updB kn left true) be V (U.setCell ⟨gk, left, none⟩ (.bool true)) := by
  refine ⟨h.1.trans (But.setCell (S := Sm gk gb) (a := ⟨gk, left, none⟩) (.inl rfl) _) fun k hk e => e, h.2.1.other _ _ h6, h.2.2.1.other _ _ h7, h.2.2.2.1.other _ _ h9, ?_, h.2.2.2.2.2.other _ _ (Ne.symm h0)⟩
  have e := h.2.2.2.2.1.set left (.bool true)
  rw [knA_set _ _ _ _ hl] at e
  exact e

/-- What the loop knows of the tables: beyond left they are as they were, below it right, and at left they have the best so far. -/
def Mid (ls : List Nat) (gk gb M : Nat) (kn0 : Nat → Bool) (be0 : Nat → Nat) (left : Nat) (acc : Option Nat) (W : World) : Prop :=
  ∃ kn be, Memo gk gb M kn be W ∧ (∀ x, left < x → kn x = kn0 x ∧ be x = be0 x) ∧ (∀ x, x < left → kn x = true → be x = hitV ls x) ∧ kn 0 = true ∧ kn left = acc.isSome ∧ ∀ t, acc = some t → be left = t
theorem vals_prop {p : Nat → Prop} {q : Nat → Prop} (h : ∀ n, p n → q n) : ∀ (l : List (MemOf p)) (n : Nat), n ∈ vals l → q n
  | [], n, hn => by simp [vals] at hn
  | x :: l, n, hn => by
    simp only [vals, List.mem_cons] at hn
    rcases hn with rfl | hn
    · exact h _ x.2
    · exact vals_prop h l n hn
theorem keeps_but {gk gb B : Nat} {V U : World} (h : But (Sm gk gb) V U) (h1 : gk < B) (h2 : gb < B) : KeepsFrom B V U :=
  ⟨h.size, fun k o hB hk _ => (h.block k (Array.getElem?_eq_some_iff.1 hk).1 (by unfold Sm; omega)).trans hk⟩
theorem kb_but {gk gb b : Nat} {V U : World} (h : But (Sm gk gb) V U) (h1 : 6 ≤ gk) (h2 : 6 ≤ gb) (h3 : b ≠ gk) (h4 : b ≠ gb) (h5 : b < V.heap.size) (h6 : 6 ≤ V.heap.size) : Kb b V U :=
  ⟨h.size, fun k hk => h.block k (by omega) (by unfold Sm; omega)⟩
/-- A call for fewer sets leaves what the loop knows. -/
theorem mid_call {ls : List Nat} {kn0 kn1 kn2 : Nat → Bool} {be0 be1 be2 : Nat → Nat} {left lf : Nat} {acc : Option Nat} (hlf : lf < left) (hgt : ∀ x, left < x → kn1 x = kn0 x ∧ be1 x = be0 x) (hlt : ∀ x, x < left → kn1 x = true → be1 x = hitV ls x) (hkl : kn1 left = acc.isSome) (hbl : ∀ t, acc = some t → be1 left = t)
    (hr : Right ls kn2 be2 lf) (hs : ∀ x, lf < x → kn2 x = kn1 x ∧ be2 x = be1 x) :
    (∀ x, left < x → kn2 x = kn0 x ∧ be2 x = be0 x) ∧ (∀ x, x < left → kn2 x = true → be2 x = hitV ls x) ∧ kn2 0 = true ∧ kn2 left = acc.isSome ∧ ∀ t, acc = some t → be2 left = t := by
  refine ⟨fun x hx => ?_, fun x hx hk => ?_, hr.2, by rw [(hs left hlf).1]; exact hkl, fun t ht => by rw [(hs left hlf).2]; exact hbl t ht⟩
  · obtain ⟨h1, h2⟩ := hs x (by omega)
    obtain ⟨h3, h4⟩ := hgt x hx
    exact ⟨h1.trans h3, h2.trans h4⟩
  · by_cases h : x ≤ lf
    · exact hr.1 x h hk
    · obtain ⟨h1, h2⟩ := hs x (by omega)
      rw [h1] at hk
      rw [h2]; exact hlt x hx hk
theorem mid_put {ls : List Nat} {gk gb M : Nat} {kn0 kn2 : Nat → Bool} {be0 be2 : Nat → Nat} {left s : Nat} {W : World} (h0 : left ≠ 0) (hm : Memo gk gb M (updB kn2 left true) (updN be2 left s) W)
    (hgt : ∀ x, left < x → kn2 x = kn0 x ∧ be2 x = be0 x) (hlt : ∀ x, x < left → kn2 x = true → be2 x = hitV ls x) (hz : kn2 0 = true) : Mid ls gk gb M kn0 be0 left (some s) W := by
  refine ⟨_, _, hm, fun x hx => ?_, fun x hx hk => ?_, ?_, by simp [updB], fun t ht => by cases ht; simp [updN]⟩
  · simp only [updB, updN, if_neg (show ¬ x = left by omega)]; exact hgt x hx
  · simp only [updB, updN, if_neg (show ¬ x = left by omega)] at hk ⊢; exact hlt x hx hk
  · simp only [updB, if_neg (show ¬ 0 = left by omega)]; exact hz
theorem mid_own {β : Type} (B : Nat) (ls : List Nat) (gk gb M : Nat) (kn0 : Nat → Bool) (be0 : Nat → Nat) (left : Nat) (acc : β → Option Nat) : OwnFrom B (fun s W => Mid ls gk gb M kn0 be0 left (acc s) W) := by
  rintro s W W' row ⟨kn, be, ⟨h1, h2⟩, h3⟩ hg hr
  exact ⟨kn, be, ⟨blk_own B gk (fun _ : Unit => knA M kn) _ () W W' row h1 hg hr, blk_own B gb (fun _ : Unit => beA M be) _ () W W' row h2 hg hr⟩, h3⟩
theorem but_own {β : Type} {B : Nat} {S : Nat → Prop} {w : World} (hB : w.heap.size ≤ B) : OwnFrom B (fun (_ : β) W => But S w W) := by
  intro s W W' row hs hg hr
  refine hs.trans (But.grown (S := fun k => B ≤ k) hg fun k hk => (hr k hk).1) fun i hi h => by omega

theorem but_put4 {S : Nat → Prop} {V U : World} (h : But S V U) {c : Nat} (hc : V.heap.size ≤ c) (x y z u : Value) : But S V ((((U.setCell ⟨c, 0, none⟩ x).setCell ⟨c, 1, none⟩ y).setCell ⟨c, 2, none⟩ z).setCell ⟨c, 3, none⟩ u) := by
  have step : ∀ {U : World} (_ : But S V U) (i : Nat) (v : Value), But S V (U.setCell ⟨c, i, none⟩ v) := fun h i v => h.trans (But.setCell (S := fun k => k = c) rfl v) fun k hk e => by omega
  exact step (step (step (step h 0 x) 1 y) 2 z) 3 u
theorem but_cells4 {S : Nat → Prop} {U : World} {c : Nat} (hc : S c) (i j k l : Nat) (x y z u : Value) : But S U ((((U.setCell ⟨c, i, none⟩ x).setCell ⟨c, j, none⟩ y).setCell ⟨c, k, none⟩ z).setCell ⟨c, l, none⟩ u) :=
  (((But.setCell (a := ⟨c, i, none⟩) hc x).tr (But.setCell (a := ⟨c, j, none⟩) hc y)).tr (But.setCell (a := ⟨c, k, none⟩) hc z)).tr (But.setCell (a := ⟨c, l, none⟩) hc u)
theorem but_put4' {S : Nat → Prop} {V U : World} (h : But S V U) {c : Nat} (hc : V.heap.size ≤ c) (x y z u : Value) : But S V ((((U.setCell ⟨c, 0, none⟩ x).setCell ⟨c, 1, none⟩ y).setCell ⟨c, 2, none⟩ z).setCell ⟨c, 3, none⟩ u) := but_put4 h hc x y z u
theorem Memo.put4 {gk gb M : Nat} {kn : Nat → Bool} {be : Nat → Nat} {w : World} (h : Memo gk gb M kn be w) {c : Nat} (h1 : gk ≠ c) (h2 : gb ≠ c) (x y z u : Value) : Memo gk gb M kn be ((((w.setCell ⟨c, 0, none⟩ x).setCell ⟨c, 1, none⟩ y).setCell ⟨c, 2, none⟩ z).setCell ⟨c, 3, none⟩ u) := ⟨h.1.other4 h1 _ _ _ _, h.2.other4 h2 _ _ _ _⟩

set_option maxRecDepth 100000 in
set_option maxHeartbeats 20000000 in
theorem hit1_in (bk bb bl bh bs gk gb : Nat) (a : Option Addr) (cap M : Nat) (ls : List Nat) (hf : HtFix bk bb bl bh bs gk gb M a ls) : ∀ (left : Nat) (w : World) (kn : Nat → Bool) (be : Nat → Nat), left < M → HtEnv bk bb bl bh bs gk gb a cap M ls w → Memo gk gb M kn be w → Right ls kn be left →
    Calls Tryd.prog 78 #[.int .i64 left, .pointer (some ⟨bk, 0, none⟩), .pointer (some ⟨bb, 0, none⟩), .pointer (some ⟨bl, 0, none⟩), .pointer (some ⟨bh, 0, none⟩), .pointer (some ⟨bs, 0, none⟩)] w (HitPost ls gk gb M kn be left w) := by
  intro left
  induction left using Nat.strongRecOn with
  | _ left ih =>
  intro w kn be hl henv hm hr
  by_cases hk : kn left = true
  · exact hit1_known bk bb bl bh bs gk gb a cap M ls hf left w kn be hl henv hm hr hk
  have hk' : kn left = false := by simpa using hk
  have h0 : left ≠ 0 := fun e => by subst e; rw [hr.2] at hk'; cases hk'
  obtain ⟨ck, fk⟩ := henv.ek.cell1
  obtain ⟨cl, fl⟩ := henv.el.cell1
  have hk1 := henv.ek.lt
  have hl1 := henv.el.lt
  have hk2 := hm.1.lt
  have hM16 : M ≤ 65536 := by rw [hf.M]; exact Nat.pow_le_pow_right (n := 2) (by decide) hf.len
  have e0 : w.cell? ⟨gk, left, none⟩ = some (.bool false) := by rw [hm.1.cell, knA_get M kn left hl, hk']
  have hM := hf.M
  rw [hM] at hl
  have hc := ctz_spec left h0 (by have := Nat.pow_le_pow_right (n := 2) (by decide) hf.len; omega)
  have htl : Lib.ctz 64 left < ls.length := by
    rcases Nat.lt_or_ge (Lib.ctz 64 left) ls.length with h1 | h1
    · exact h1
    · have := Nat.testBit_lt_two_pow (Nat.lt_of_lt_of_le hl (Nat.pow_le_pow_right (n := 2) (by decide) h1))
      rw [hc.2.1] at this; cases this
  rw [← hM] at hl
  obtain ⟨b, o, rfl, hcell⟩ := henv.sets.at htl
  obtain ⟨x, hx⟩ : ∃ x, x = ls[Lib.ctz 64 left] := ⟨_, rfl⟩
  rw [← hx] at hcell
  have HX : Hid (ls.getD (Lib.ctz 64 left) 0 = x) := by rw [Hid, hx]; simp [htl]
  have HXL : Hid (x < 2 ^ 256 ∧ x ≠ 0) := by rw [Hid, hx]; exact hf.sets _ (List.getElem_mem htl)
  obtain ⟨z, hz⟩ : ∃ z, z = Lib.ctz 64 left := ⟨_, rfl⟩
  rw [← hz] at hcell htl
  have HZ := Lib.hid hz
  have x0 : w.cell? ⟨b, o + z * 4, none⟩ = _ := hcell 0 (by omega)
  have x1 := hcell 1 (by omega)
  have x2 := hcell 2 (by omega)
  have x3 := hcell 3 (by omega)
  have hbl : b < w.heap.size := World.block_lt_of_cell? w _ x0
  have HR := Lib.hid hr
  have HMM := Lib.hid hm
  have HE := Lib.hid henv
  have HF := Lib.hid hf
  have HK := Lib.hid hk'
  have IH := Lib.hid ih
  have H0 := Lib.hid h0
  clear hr hm henv hk hk' hc hcell hx hz ih hM h0 hf
  refine callsIn_wide.1 (callsIn_of_wp_marks (n := 8) Tryd.func78 rfl trivial ?_ rfl)
  simp only [Tryd.ntmps78, List.size_toArray, List.length_cons, List.length_nil, Nat.reduceAdd, Nat.reduceSub, Array.replicate_succ, Array.replicate_zero, List.push_toArray, List.append_toArray, List.nil_append, List.cons_append]
  gi_wp2_with fail
  refine named (fun V => Blk V w.heap.size #[.int .i64 (left : Int)] 3 ∧ Blk V (w.heap.size + 1) (setA 0) 25 ∧ Below w.heap.size w V) ⟨(Blk.new _ _ _).alloc _, Blk.newS1 _ _ _, below_new2 _ _ _⟩ ?_
  rintro W ⟨hb6, hb7, hbW⟩
  have hoc := (bcell hbW).1
  have c6 := hb6.cell1.1
  have l6 := hb6.lt
  have s6 := hbW.size
  have y0 : W.cell? ⟨b, o + z * 4, none⟩ = _ := (hoc b _ hbl).trans x0
  have y1 : W.cell? ⟨b, o + z * 4 + 1, none⟩ = _ := (hoc b _ hbl).trans x1
  have y2 : W.cell? ⟨b, o + z * 4 + 2, none⟩ = _ := (hoc b _ hbl).trans x2
  have y3 : W.cell? ⟨b, o + z * 4 + 3, none⟩ = _ := (hoc b _ hbl).trans x3
  have yl : W.cell? ⟨bl, 0, none⟩ = _ := (hoc bl 0 hl1).trans cl
  have hbl' : b < W.heap.size := by omega
  have hl1' : bl < W.heap.size := by omega
  have hdr : W.drew.heap.size = W.heap.size := rfl
  have HGW : Hid (Gl W) := HE.out.gl.below hbW
  have HTZ : Hid (∀ V, Gl V → Calls Tryd.prog 79 #[.int .u64 left] V fun e w' => e = .returned (.int .i64 z) ∧ V = w') := fun V hV => by
    rw [HZ.out]; exact tz_any left (by omega) V hV
  clear x0 x1 x2 x3 hoc cl ck fk fl hk1 hl1 hk2 e0
  refine wpIn_region_calm (open_wide) 6 63 [0, 1, 2, 3, 4, 5] [] (fun _ => .bool false) (by kernel_rfl) (by kernel_rfl) (by kernel_rfl) (by kernel_rfl) (by kernel_rfl) (fun _ h => by cases h) (by rfl) ?_
  (refine calm_step rfl (by rfl) (by rfl) rfl (Nat.le_of_ble_eq_true rfl) ?_; apply Exists.intro; refine ⟨fun w1 hC K hK => ?_, ?_⟩; (next => (obtain ⟨hoc, hof⟩ := old_cells hC; have HC := Lib.hid hC; clear hC; go_wp2; all_goals (first | exact Below.refl _ _ | assumption | exact (Below.refl _ _).drew))); try simp only [Act.put, slotL_succ, slotL_zero, List.setIfInBounds_toArray, List.set_cons_zero, List.set_cons_succ])
  (refine calm_step rfl (by rfl) (by rfl) rfl (Nat.le_of_ble_eq_true rfl) ?_; apply Exists.intro; refine ⟨fun w1 hC K hK => ?_, ?_⟩; (next => (obtain ⟨hoc, hof⟩ := old_cells hC; have HC := Lib.hid hC; clear hC; go_wp2; all_goals (first | exact Below.refl _ _ | assumption | exact (Below.refl _ _).drew))); try simp only [Act.put, slotL_succ, slotL_zero, List.setIfInBounds_toArray, List.set_cons_zero, List.set_cons_succ])
  (refine calm_step rfl (by rfl) (by rfl) rfl (Nat.le_of_ble_eq_true rfl) ?_; apply Exists.intro; refine ⟨fun w1 hC K hK => ?_, ?_⟩; (next => (go_wp2; all_goals (first | exact Below.refl _ _ | assumption | exact (Below.refl _ _).drew))); try simp only [Act.put, slotL_succ, slotL_zero, List.setIfInBounds_toArray, List.set_cons_zero, List.set_cons_succ])
  (refine calm_step rfl (by rfl) (by rfl) rfl (Nat.le_of_ble_eq_true rfl) ?_; apply Exists.intro; refine ⟨fun w1 hC K hK => ?_, ?_⟩; (next => (obtain ⟨hoc, hof⟩ := old_cells hC; have HC := Lib.hid hC; clear hC; go_wp2_with (first | (go_at_call 79; refine (HTZ.out _ (HGW.out.below ((Below.refl _ W).drew.trans HC.out))).mono ?_; rintro e w2 ⟨rfl, rfl⟩)); all_goals (first | exact Below.refl _ _ | assumption | exact (Below.refl _ _).drew))); try simp only [Act.put, slotL_succ, slotL_zero, List.setIfInBounds_toArray, List.set_cons_zero, List.set_cons_succ])
  (refine calm_step rfl (by rfl) (by rfl) rfl (Nat.le_of_ble_eq_true rfl) ?_; apply Exists.intro; refine ⟨fun w1 hC K hK => ?_, ?_⟩; (next => (go_wp2; all_goals (first | exact Below.refl _ _ | assumption | exact (Below.refl _ _).drew))); try simp only [Act.put, slotL_succ, slotL_zero, List.setIfInBounds_toArray, List.set_cons_zero, List.set_cons_succ])
  (refine calm_step rfl (by rfl) (by rfl) rfl (Nat.le_of_ble_eq_true rfl) ?_; apply Exists.intro; refine ⟨fun w1 hC K hK => ?_, ?_⟩; (next => (obtain ⟨hoc, hof⟩ := old_cells hC; have HC := Lib.hid hC; clear hC; go_wp2; all_goals (first | exact Below.refl _ _ | assumption | exact (Below.refl _ _).drew))); try simp only [Act.put, slotL_succ, slotL_zero, List.setIfInBounds_toArray, List.set_cons_zero, List.set_cons_succ])
  refine wpC_nil ?_
  intro w1 hCw1 hNw1
  clear hNw1
  have hocw1 := (old_cells hCw1).1
  have hofw1 := (old_cells hCw1).2
  simp only [List.drop_succ_cons, List.drop_zero, List.drop_nil]
  have Hb1 := Lib.hid ((Below.refl _ W).drew.trans hCw1)
  clear hocw1 hofw1 hCw1 y0 y1 y2 y3 yl hdr c6
  gi_wp2_with ((refine ⟨trivial, ?_⟩; gi_at_call 24; refine (callsIn_wide.2 (All_any x w1)).mono ?_; rintro e w4 ⟨rfl, hB4, hb4⟩))
  have hb1s := Hb1.out.size
  have hs1 : W.drew.heap.size = W.heap.size := rfl
  have hb4s := hb4.size
  have hbW4 : Below W.heap.size W w4 := Hb1.out.trans (hb4.mono Hb1.out.size)
  have hbw4 : Below w.heap.size w w4 := hbW.trans (hbW4.mono hbW.size)
  have h6x := hb6.below hbW4 hb6.lt
  have h7x := hb7.below hbW4 hb7.lt
  have l7 := hb7.lt
  have hg4 : Gl w4 := HE.out.gl.below hbw4
  have g6 := HE.out.gl.size
  have HXM : Hid (∀ y ∈ mem x, y < 256 ∧ y ∈ mem x) := fun y hy => ⟨by have := (memF_iff.1 hy).2.1; omega, hy⟩
  have HHV : Hid (∀ n ∈ mem x, diff left (hold ls ls.length n) < left) := fun n hn => by
    have := HF.out
    refine left_lt H0.out (by omega) (by rw [← HZ.out]; exact htl) ?_ ?_
    · rw [HX.out]; exact HXL.out.1
    · rw [HX.out]; exact hn
  have hmid : Mid ls gk gb M kn be left none w4 := by
    refine ⟨kn, be, HMM.out.keep hbw4, fun _ _ => ⟨rfl, rfl⟩, fun x hx => HR.out.1 x (by omega), HR.out.2, by rw [HK.out]; rfl, fun t ht => by cases ht⟩
  refine wpIn_rangeFunc_ownG (F := Fence.wide) (n := 8) rfl (by decide) (gf := 69) (lb := #[.pointer (some ⟨w1.heap.size, 0, none⟩)]) rfl trivial (enters_of Tryd.func69 (by kernel_rfl) rfl)
    (All1_stops (fun y => y < 256 ∧ y ∈ mem x) x w1.heap.size (8 - 1) HXM.out _ hg4 hB4 (by decide)) Kb.trans (Kb.turn hg4.size hB4.lt) (Below.refl _ _) (fun _ => rfl)
    (fun (pre : List (MemOf fun y => y < 256 ∧ y ∈ mem x)) V => ((Blk V w.heap.size #[.int .i64 (left : Int)] 3 ∧ Blk V (w.heap.size + 1) (setA 0) 25) ∧ Mid ls gk gb M kn be left ((vals pre).foldl (hitS fun n => hitV ls (diff left (hold ls ls.length n))) none) V) ∧ (But (Sm gk gb) w V ∧ But (Sm gk gb) w4 V))
    (fun _ _ _ => False)
    (OwnFrom.and (OwnFrom.and (OwnFrom.and (blk_own _ _ (fun _ => #[.int .i64 (left : Int)]) _) (blk_own _ _ (fun _ => setA 0) _)) (mid_own _ _ _ _ _ _ _ _ (fun (pre : List (MemOf fun y => y < 256 ∧ y ∈ mem x)) => (vals pre).foldl (hitS fun n => hitV ls (diff left (hold ls ls.length n))) none))) (OwnFrom.and (but_own (by omega)) (but_own (Nat.le_refl _))))
    (fun _ _ _ _ _ hs _ _ => hs)
    ⟨⟨⟨h6x, h7x⟩, hmid⟩, But.of_below hbw4, But.refl _ _⟩
    (fun y : MemOf (fun y => y < 256 ∧ y ∈ mem x) => { tmps := #[Value.int IntKind.i64 ↑left, Value.pointer (some { block := bk, off := 0 }), Value.pointer (some { block := bb, off := 0 }), Value.pointer (some { block := bl, off := 0 }), Value.pointer (some { block := bh, off := 0 }), Value.pointer (some { block := bs, off := 0 }),
      Value.pointer (some { block := w.heap.size, off := 0 }), Value.pointer (some { block := w.heap.size + 1, off := 0 }), .int .i64 (y.1 : Int), undef, undef, Value.slice (some { block := gk, off := 0 }) M M, Value.int IntKind.i64 ↑left,
      Value.pointer (some { block := gk, off := left }), Value.bool false, undef, undef, undef, undef, Value.slice (some { block := b, off := o }) ls.length cap, Value.int IntKind.i64 ↑left, Value.int IntKind.u64 ↑left, Value.int IntKind.i64 ↑z, Value.pointer (some { block := b, off := o + z * 4 }),
      Value.agg #[Value.int IntKind.u64 ↑(word x 0), Value.int IntKind.u64 ↑(word x 1), Value.int IntKind.u64 ↑(word x 2), Value.int IntKind.u64 ↑(word x 3)], Value.func (Fn.func 69) #[] #[Value.pointer (some { block := w1.heap.size, off := 0 })], .int .i64 (y.1 : Int), undef, undef, undef, undef, undef, undef, undef, undef, undef, undef, undef, undef, undef, undef, undef, undef, undef, undef, undef, undef, undef, undef, undef, undef, undef, undef, undef, undef, undef, undef, undef, undef, undef, undef, undef, undef], defers := [] }) ?assign ?body ?done ?stop
  case assign =>
    intro l y V K hK
    gi_wp2
    exact hK
  case body =>
    rintro l pre y V ⟨⟨⟨v6, v7⟩, vM⟩, vB, vB4⟩ hlen
    have hv4 := vB4.size
    have l14 := hB4.lt
    obtain ⟨acc, hacc⟩ : ∃ acc, acc = (vals pre).foldl (hitS fun n => hitV ls (diff left (hold ls ls.length n))) none := ⟨_, rfl⟩
    rw [← hacc] at vM
    have HAL : Hid (∀ t, acc = some t → t < 2 ^ 256) := fun t ht => hitS_lt (vals pre) none (fun n hn => ⟨hitV_lt _ _, vals_prop (p := fun y => y < 256 ∧ y ∈ mem x) (q := fun n => n < 256) (fun n h => h.1) pre n hn⟩) (fun t ht => by cases ht) t (by rw [← hacc]; exact ht)
    have HACC : Hid ((vals (pre ++ [y])).foldl (hitS fun n => hitV ls (diff left (hold ls ls.length n))) none = hitS (fun n => hitV ls (diff left (hold ls ls.length n))) acc y.1) := by rw [Hid, vals_snoc, List.foldl_append, ← hacc]; rfl
    clear hacc
    have hEV := HE.out.but HF.out vB
    have hy := y.2.1
    have hyx := HHV.out y.1 y.2.2
    gi_wp2_with fail
    obtain ⟨kn1, be1, hm1, hgt, hlt1, hz1, hkl, hbl1⟩ := vM
    obtain ⟨lf, hlf⟩ : ∃ lf, lf = diff left (hold ls ls.length y.1) := ⟨_, rfl⟩
    have hh16 := hold_lt ls y.1 ls.length
    have hp16 : 2 ^ ls.length ≤ 65536 := Nat.pow_le_pow_right (n := 2) (by decide) HF.out.len
    have hand : bits .andNot .i64 (left : Int) ((hold ls ls.length y.1 : Nat) : Int) = (lf : Int) := by rw [hlf]; exact bits_andNot_i64 _ _ (by omega) (by omega)
    rw [← hlf] at hyx
    have HLF := Lib.hid hlf
    have IHC : Hid (∀ U, But (Sm gk gb) w U → Memo gk gb M kn1 be1 U → Calls Tryd.prog 78 #[.int .i64 lf, .pointer (some ⟨bk, 0, none⟩), .pointer (some ⟨bb, 0, none⟩), .pointer (some ⟨bl, 0, none⟩), .pointer (some ⟨bh, 0, none⟩), .pointer (some ⟨bs, 0, none⟩)] U (HitPost ls gk gb M kn1 be1 lf U)) := fun U hb hm =>
      IH.out lf hyx U kn1 be1 (by omega) (HE.out.but HF.out hb) hm ⟨fun x hx => hlt1 x (by omega), hz1⟩
    have ch := hEV.eh.cell1.1
    have c6 := v6.cell1.1
    have cs : V.cell? ⟨bs, y.1, none⟩ = some (.int .i64 (hold ls ls.length y.1 : Int)) := by rw [hEV.es.cell]; exact hasA_get _ _ hy
    clear hlf
    rename_i K hK
    have hrest : ∀ (U : World) (c9 : Nat) (kn2 : Nat → Bool) (be2 : Nat → Nat), But (Sm gk gb) V U → Blk U c9 (setA (hitV ls lf ||| 2 ^ y.1)) 25 → Memo gk gb M kn2 be2 U → Right ls kn2 be2 lf → (∀ x, lf < x → kn2 x = kn1 x ∧ be2 x = be1 x) → V.heap.size ≤ c9 → K { tmps := #[.int .i64 ↑left, .pointer (some ⟨bk, 0, none⟩), .pointer (some ⟨bb, 0, none⟩), .pointer (some ⟨bl, 0, none⟩), .pointer (some ⟨bh, 0, none⟩), .pointer (some ⟨bs, 0, none⟩), .pointer (some ⟨w.heap.size, 0, none⟩), .pointer (some ⟨w.heap.size + 1, 0, none⟩), .int .i64 (y.1 : Int), .pointer (some ⟨c9, 0, none⟩), .int .i64 0, .slice (some ⟨gk, 0, none⟩) M M, .int .i64 ↑left, .pointer (some ⟨gk, left, none⟩), .bool false, undef, undef, undef, undef, .slice (some ⟨b, o, none⟩) ls.length cap, .int .i64 ↑left, .int .u64 ↑left, .int .i64 ↑z, .pointer (some ⟨b, o + z * 4, none⟩), .agg #[.int .u64 ↑(word (x) 0), .int .u64 ↑(word (x) 1), .int .u64 ↑(word (x) 2), .int .u64 ↑(word (x) 3)], .func (.func 69) #[] #[.pointer (some ⟨w1.heap.size, 0, none⟩)], .int .i64 (y.1 : Int), .tuple #[.agg #[.int .u64 ↑(word (hitV ls lf ||| 2 ^ y.1) 0), .int .u64 ↑(word (hitV ls lf ||| 2 ^ y.1) 1), .int .u64 ↑(word (hitV ls lf ||| 2 ^ y.1) 2), .int .u64 ↑(word (hitV ls lf ||| 2 ^ y.1) 3)], .int .i64 0], .func (.func 78) #[] #[.pointer (some ⟨bk, 0, none⟩), .pointer (some ⟨bb, 0, none⟩), .pointer (some ⟨bl, 0, none⟩), .pointer (some ⟨bh, 0, none⟩), .pointer (some ⟨bs, 0, none⟩)], .int .i64 ↑left, .int .i64 (y.1 : Int), .pointer (some ⟨bs, y.1, none⟩), .int .i64 ↑(hold ls ls.length y.1), .int .i64 ↑lf, .agg #[.int .u64 ↑(word (hitV ls lf) 0), .int .u64 ↑(word (hitV ls lf) 1), .int .u64 ↑(word (hitV ls lf) 2), .int .u64 ↑(word (hitV ls lf) 3)], .int .i64 (y.1 : Int), .tuple #[.agg #[.int .u64 ↑(word (hitV ls lf ||| 2 ^ y.1) 0), .int .u64 ↑(word (hitV ls lf ||| 2 ^ y.1) 1), .int .u64 ↑(word (hitV ls lf ||| 2 ^ y.1) 2), .int .u64 ↑(word (hitV ls lf ||| 2 ^ y.1) 3)], .int .i64 0], .agg #[.int .u64 ↑(word (hitV ls lf ||| 2 ^ y.1) 0), .int .u64 ↑(word (hitV ls lf ||| 2 ^ y.1) 1), .int .u64 ↑(word (hitV ls lf ||| 2 ^ y.1) 2), .int .u64 ↑(word (hitV ls lf ||| 2 ^ y.1) 3)], .int .i64 0, undef, undef, undef, undef, undef, undef, undef, undef, undef, undef, undef, undef, undef, undef, undef, undef, undef, undef, undef, undef, undef, undef, undef, undef], defers := [] } U := by
      intro U c9 kn2 be2 uB u9 uM hR2 hS2 h9
      dsimp only
      apply hK
      clear hK
      obtain ⟨m1, m2, m3, m4, m5⟩ := mid_call hyx hgt hlt1 hkl hbl1 hR2 hS2
      have hgk : gk < w.heap.size := HMM.out.1.lt
      have hgb : gb < w.heap.size := HMM.out.2.lt
      have HM1 := Lib.hid m1
      have HM2 := Lib.hid m2
      have HM5 := Lib.hid m5
      have hwV := vB.size
      have hVU := uB.size
      have HEU := Lib.hid (HE.out.but HF.out (vB.tr uB))
      have U6 := Lib.hid (uB.blk v6 (by unfold Sm; omega))
      have U7 := Lib.hid (uB.blk v7 (by unfold Sm; omega))
      have U9 := Lib.hid u9
      have UM := Lib.hid uM
      have UB := Lib.hid uB
      have UW := Lib.hid (vB.tr uB)
      have l9 := u9.lt
      have lk := uM.1.lt
      have lb := uM.2.lt
      have l6 := (uB.blk v6 (by unfold Sm; omega)).lt
      have lek := HEU.out.ek.lt
      have leb := HEU.out.eb.lt
      have ck := HEU.out.ek.cell1.1
      have cb := HEU.out.eb.cell1.1
      have c6 := U6.out.cell1.1
      have k0 : U.cell? ⟨gk, left, none⟩ = some (.bool acc.isSome) := by rw [uM.1.cell, knA_get M kn2 left hl, m4]
      have hdr : U.drew.heap.size = U.heap.size := rfl
      clear u9 uM uB m1 m2 m5 hR2 hS2 hgt hlt1 hbl1
      have HKL := Lib.hid hkl
      have HK4 := Lib.hid m4
      clear hkl m4
      cases acc with
      | none =>
        simp only [Option.isSome_none] at k0
        obtain ⟨q0, q1, q2, q3, q4⟩ := U9.out.set4
        gi_wp2_with fail
        refine wpIn_region_calm (open_round l) 13 63 [0, 1, 2, 3, 4, 5, 6, 7, 8, 9, 10, 11, 12] [] (fun _ => .bool false) (by kernel_rfl) (by kernel_rfl) (by kernel_rfl) (by kernel_rfl) (by kernel_rfl) (fun _ h => by cases h) (by rfl) ?_
        (refine calm_step rfl (by rfl) (by rfl) rfl (Nat.le_of_ble_eq_true rfl) ?_; apply Exists.intro; refine ⟨fun w1 hC K hK => ?_, ?_⟩; (next => (obtain ⟨hoc, hof⟩ := old_cells hC; have HC := Lib.hid hC; clear hC; go_wp2; all_goals (first | exact Below.refl _ _ | assumption | exact (Below.refl _ _).drew))); try simp only [Act.put, slotL_succ, slotL_zero, List.setIfInBounds_toArray, List.set_cons_zero, List.set_cons_succ])
        (refine calm_step rfl (by rfl) (by rfl) rfl (Nat.le_of_ble_eq_true rfl) ?_; apply Exists.intro; refine ⟨fun w1 hC K hK => ?_, ?_⟩; (next => (obtain ⟨hoc, hof⟩ := old_cells hC; have HC := Lib.hid hC; clear hC; go_wp2; all_goals (first | exact Below.refl _ _ | assumption | exact (Below.refl _ _).drew))); try simp only [Act.put, slotL_succ, slotL_zero, List.setIfInBounds_toArray, List.set_cons_zero, List.set_cons_succ])
        (refine calm_step rfl (by rfl) (by rfl) rfl (Nat.le_of_ble_eq_true rfl) ?_; apply Exists.intro; refine ⟨fun w1 hC K hK => ?_, ?_⟩; (next => (go_wp2; all_goals (first | exact Below.refl _ _ | assumption | exact (Below.refl _ _).drew))); try simp only [Act.put, slotL_succ, slotL_zero, List.setIfInBounds_toArray, List.set_cons_zero, List.set_cons_succ])
        (refine calm_step rfl (by rfl) (by rfl) rfl (Nat.le_of_ble_eq_true rfl) ?_; apply Exists.intro; refine ⟨fun w1 hC K hK => ?_, ?_⟩; (next => (obtain ⟨hoc, hof⟩ := old_cells hC; have HC := Lib.hid hC; clear hC; go_wp2; all_goals (first | exact Below.refl _ _ | assumption | exact (Below.refl _ _).drew))); try simp only [Act.put, slotL_succ, slotL_zero, List.setIfInBounds_toArray, List.set_cons_zero, List.set_cons_succ])
        (refine calm_step rfl (by rfl) (by rfl) rfl (Nat.le_of_ble_eq_true rfl) ?_; apply Exists.intro; refine ⟨fun w1 hC K hK => ?_, ?_⟩; (next => (go_wp2; all_goals (first | exact Below.refl _ _ | assumption | exact (Below.refl _ _).drew))); try simp only [Act.put, slotL_succ, slotL_zero, List.setIfInBounds_toArray, List.set_cons_zero, List.set_cons_succ])
        (refine calm_step rfl (by rfl) (by rfl) rfl (Nat.le_of_ble_eq_true rfl) ?_; apply Exists.intro; refine ⟨fun w1 hC K hK => ?_, ?_⟩; (next => (go_wp2; all_goals (first | exact Below.refl _ _ | assumption | exact (Below.refl _ _).drew))); try simp only [Act.put, slotL_succ, slotL_zero, List.setIfInBounds_toArray, List.set_cons_zero, List.set_cons_succ])
        first | (refine wpC_skip rfl (by rfl) rfl ?_; try simp only [Act.put, slotL_succ, slotL_zero, List.setIfInBounds_toArray, List.set_cons_zero, List.set_cons_succ]) | (refine calm_step rfl (by rfl) (by rfl) rfl (Nat.le_of_ble_eq_true rfl) ?_; apply Exists.intro; refine ⟨fun w1 hC K hK => ?_, ?_⟩; (next => (obtain ⟨hoc, hof⟩ := old_cells hC; have HC := Lib.hid hC; clear hC; go_wp2; all_goals (first | exact Below.refl _ _ | assumption | exact (Below.refl _ _).drew))); try simp only [Act.put, slotL_succ, slotL_zero, List.setIfInBounds_toArray, List.set_cons_zero, List.set_cons_succ])
        first | (refine wpC_skip rfl (by rfl) rfl ?_; try simp only [Act.put, slotL_succ, slotL_zero, List.setIfInBounds_toArray, List.set_cons_zero, List.set_cons_succ]) | (refine calm_step rfl (by rfl) (by rfl) rfl (Nat.le_of_ble_eq_true rfl) ?_; apply Exists.intro; refine ⟨fun w1 hC K hK => ?_, ?_⟩; (next => (obtain ⟨hoc, hof⟩ := old_cells hC; have HC := Lib.hid hC; clear hC; go_wp2; all_goals (first | exact Below.refl _ _ | assumption | exact (Below.refl _ _).drew))); try simp only [Act.put, slotL_succ, slotL_zero, List.setIfInBounds_toArray, List.set_cons_zero, List.set_cons_succ])
        first | (refine wpC_skip rfl (by rfl) rfl ?_; try simp only [Act.put, slotL_succ, slotL_zero, List.setIfInBounds_toArray, List.set_cons_zero, List.set_cons_succ]) | (refine calm_step rfl (by rfl) (by rfl) rfl (Nat.le_of_ble_eq_true rfl) ?_; apply Exists.intro; refine ⟨fun w1 hC K hK => ?_, ?_⟩; (next => (obtain ⟨hoc, hof⟩ := old_cells hC; have HC := Lib.hid hC; clear hC; go_wp2; all_goals (first | exact Below.refl _ _ | assumption | exact (Below.refl _ _).drew))); try simp only [Act.put, slotL_succ, slotL_zero, List.setIfInBounds_toArray, List.set_cons_zero, List.set_cons_succ])
        first | (refine wpC_skip rfl (by rfl) rfl ?_; try simp only [Act.put, slotL_succ, slotL_zero, List.setIfInBounds_toArray, List.set_cons_zero, List.set_cons_succ]) | (refine calm_step rfl (by rfl) (by rfl) rfl (Nat.le_of_ble_eq_true rfl) ?_; apply Exists.intro; refine ⟨fun w1 hC K hK => ?_, ?_⟩; (next => (go_wp2; all_goals (first | exact Below.refl _ _ | assumption | exact (Below.refl _ _).drew))); try simp only [Act.put, slotL_succ, slotL_zero, List.setIfInBounds_toArray, List.set_cons_zero, List.set_cons_succ])
        first | (refine wpC_skip rfl (by rfl) rfl ?_; try simp only [Act.put, slotL_succ, slotL_zero, List.setIfInBounds_toArray, List.set_cons_zero, List.set_cons_succ]) | (refine calm_step rfl (by rfl) (by rfl) rfl (Nat.le_of_ble_eq_true rfl) ?_; apply Exists.intro; refine ⟨fun w1 hC K hK => ?_, ?_⟩; (next => (obtain ⟨hoc, hof⟩ := old_cells hC; have HC := Lib.hid hC; clear hC; go_wp2; all_goals (first | exact Below.refl _ _ | assumption | exact (Below.refl _ _).drew))); try simp only [Act.put, slotL_succ, slotL_zero, List.setIfInBounds_toArray, List.set_cons_zero, List.set_cons_succ])
        first | (refine wpC_skip rfl (by rfl) rfl ?_; try simp only [Act.put, slotL_succ, slotL_zero, List.setIfInBounds_toArray, List.set_cons_zero, List.set_cons_succ]) | (refine calm_step rfl (by rfl) (by rfl) rfl (Nat.le_of_ble_eq_true rfl) ?_; apply Exists.intro; refine ⟨fun w1 hC K hK => ?_, ?_⟩; (next => (obtain ⟨hoc, hof⟩ := old_cells hC; have HC := Lib.hid hC; clear hC; go_wp2_with (first | (go_at_call 80; fail)); all_goals (first | exact Below.refl _ _ | assumption | exact (Below.refl _ _).drew))); try simp only [Act.put, slotL_succ, slotL_zero, List.setIfInBounds_toArray, List.set_cons_zero, List.set_cons_succ])
        (refine calm_step rfl (by rfl) (by rfl) rfl (Nat.le_of_ble_eq_true rfl) ?_; apply Exists.intro; refine ⟨fun w1 hC K hK => ?_, ?_⟩; (next => (go_wp2; all_goals (first | exact Below.refl _ _ | assumption | exact (Below.refl _ _).drew))); try simp only [Act.put, slotL_succ, slotL_zero, List.setIfInBounds_toArray, List.set_cons_zero, List.set_cons_succ])
        refine wpC_nil ?_
        intro U1 hCU1 hNU1
        clear hNU1
        have hocU1 := (old_cells hCU1).1
        have hofU1 := (old_cells hCU1).2
        simp only [List.drop_succ_cons, List.drop_zero, List.drop_nil]
        have Hx := Lib.hid ((Below.refl _ U).drew.trans hCU1)
        clear hocU1 hofU1 hCU1 ck cb c6 k0 q0 q1 q2 q3 q4 hdr
        gi_wp2_with fail
        have NB := Lib.hid (UB.out.tr (But.of_below Hx.out))
        have NW := Lib.hid (UW.out.tr (But.of_below Hx.out))
        have N6 := Lib.hid (U6.out.below Hx.out l6)
        have N7 := Lib.hid (U7.out.below Hx.out U7.out.lt)
        have N9 := Lib.hid (U9.out.below Hx.out l9)
        have NM := Lib.hid (UM.out.keep Hx.out)
        have hne9 : gk ≠ c9 ∧ gb ≠ c9 := by omega
        have hne := HF.out.ne
        have HCX : Hid (∀ X, But (Sm gk gb) w X → Blk X w.heap.size #[.int .i64 (left : Int)] 3 → Blk X c9 (setA (hitV ls lf ||| 2 ^ y.1)) 25 → (fun X => X.cell? ⟨bb, 0, none⟩ = some (.slice (some ⟨gb, 0, none⟩) M M) ∧ X.cell? ⟨w.heap.size, 0, none⟩ = some (.int .i64 (left : Int)) ∧ X.cell? ⟨bk, 0, none⟩ = some (.slice (some ⟨gk, 0, none⟩) M M) ∧ X.cell? ⟨c9, 0, none⟩ = some (.int .u64 ↑(word (hitV ls lf ||| 2 ^ y.1) 0)) ∧ X.cell? ⟨c9, 1, none⟩ = some (.int .u64 ↑(word (hitV ls lf ||| 2 ^ y.1) 1)) ∧ X.cell? ⟨c9, 2, none⟩ = some (.int .u64 ↑(word (hitV ls lf ||| 2 ^ y.1) 2)) ∧ X.cell? ⟨c9, 3, none⟩ = some (.int .u64 ↑(word (hitV ls lf ||| 2 ^ y.1) 3))) X) := fun X h1 h2 h3 =>
          ⟨(HE.out.but HF.out h1).eb.cell1.1, h2.cell1.1, (HE.out.but HF.out h1).ek.cell1.1, h3.set4.1, h3.set4.2.1, h3.set4.2.2.1, h3.set4.2.2.2.1⟩
        refine wpIn_region_reads_seq (fun X => X.cell? ⟨bb, 0, none⟩ = some (.slice (some ⟨gb, 0, none⟩) M M) ∧ X.cell? ⟨w.heap.size, 0, none⟩ = some (.int .i64 (left : Int)) ∧ X.cell? ⟨bk, 0, none⟩ = some (.slice (some ⟨gk, 0, none⟩) M M) ∧ X.cell? ⟨c9, 0, none⟩ = some (.int .u64 ↑(word (hitV ls lf ||| 2 ^ y.1) 0)) ∧ X.cell? ⟨c9, 1, none⟩ = some (.int .u64 ↑(word (hitV ls lf ||| 2 ^ y.1) 1)) ∧ X.cell? ⟨c9, 2, none⟩ = some (.int .u64 ↑(word (hitV ls lf ||| 2 ^ y.1) 2)) ∧ X.cell? ⟨c9, 3, none⟩ = some (.int .u64 ↑(word (hitV ls lf ||| 2 ^ y.1) 3))) 6 (by kernel_rfl) (by kernel_rfl) (by kernel_rfl) (fun c d u a w h => h) (by kernel_rfl) (by decide) (by kernel_rfl) ?_
        refine ⟨_, .slice (some ⟨gb, 0, none⟩) M M, rfl, .inl ⟨by rfl, fun X hX => (by obtain ⟨e1, e2, e3, e4, e5, e6, e7⟩ := hX; go_simp; all_goals (intro h9; exfalso; omega))⟩, ?_⟩; try simp only [Act.put, slotL_succ, slotL_zero, List.setIfInBounds_toArray, List.set_cons_zero, List.set_cons_succ]
        refine ⟨_, .int .i64 (left : Int), rfl, .inl ⟨by rfl, fun X hX => (by obtain ⟨e1, e2, e3, e4, e5, e6, e7⟩ := hX; go_simp; all_goals (intro h9; exfalso; omega))⟩, ?_⟩; try simp only [Act.put, slotL_succ, slotL_zero, List.setIfInBounds_toArray, List.set_cons_zero, List.set_cons_succ]
        refine ⟨_, .slice (some ⟨gk, 0, none⟩) M M, rfl, .inl ⟨by rfl, fun X hX => (by obtain ⟨e1, e2, e3, e4, e5, e6, e7⟩ := hX; go_simp; all_goals (intro h9; exfalso; omega))⟩, ?_⟩; try simp only [Act.put, slotL_succ, slotL_zero, List.setIfInBounds_toArray, List.set_cons_zero, List.set_cons_succ]
        refine ⟨_, .int .i64 (left : Int), rfl, .inl ⟨by rfl, fun X hX => (by obtain ⟨e1, e2, e3, e4, e5, e6, e7⟩ := hX; go_simp; all_goals (intro h9; exfalso; omega))⟩, ?_⟩; try simp only [Act.put, slotL_succ, slotL_zero, List.setIfInBounds_toArray, List.set_cons_zero, List.set_cons_succ]
        refine ⟨_, .agg #[.int .u64 ↑(word (hitV ls lf ||| 2 ^ y.1) 0), .int .u64 ↑(word (hitV ls lf ||| 2 ^ y.1) 1), .int .u64 ↑(word (hitV ls lf ||| 2 ^ y.1) 2), .int .u64 ↑(word (hitV ls lf ||| 2 ^ y.1) 3)], rfl, .inl ⟨by rfl, fun X hX => (by obtain ⟨e1, e2, e3, e4, e5, e6, e7⟩ := hX; go_simp; all_goals (intro h9; exfalso; omega))⟩, ?_⟩; try simp only [Act.put, slotL_succ, slotL_zero, List.setIfInBounds_toArray, List.set_cons_zero, List.set_cons_succ]
        refine ⟨_, .pointer (some ⟨gb, left * 4, none⟩), rfl, .inl ⟨by rfl, fun X hX => (by obtain ⟨e1, e2, e3, e4, e5, e6, e7⟩ := hX; go_simp; all_goals (intro h9; exfalso; omega))⟩, ?_⟩; try simp only [Act.put, slotL_succ, slotL_zero, List.setIfInBounds_toArray, List.set_cons_zero, List.set_cons_succ]
        refine pureC_nil ?_
        refine ⟨HCX.out U1.drew (NW.out.tr ⟨rfl, rfl, rfl, Nat.le_refl _, fun _ _ _ => rfl⟩) N6.out.drew N9.out.drew, ?_⟩
        rw [if_pos (by rfl)]
        have gs : ∀ j, j < 4 → ∃ v, U1.cell? ⟨gb, left * 4 + j, none⟩ = some v := fun j hj => by rw [NM.out.2.cell, beA_get M be2 _ (by omega)]; exact ⟨_, rfl⟩
        obtain ⟨v0, g0⟩ := gs 0 (by omega)
        obtain ⟨v1, g1⟩ := gs 1 (by omega)
        obtain ⟨v2, g2⟩ := gs 2 (by omega)
        obtain ⟨v3, g3⟩ := gs 3 (by omega)
        rw [Nat.add_zero] at g0
        have gf : ∀ j, U1.frozen? ⟨gb, j, none⟩ = false := fun j => NM.out.2.frozen j
        clear gs
        gi_wp2_with fail
        refine named (fun X => StoreFacts gk gb M left (hitV ls lf ||| 2 ^ y.1) w.heap.size (w.heap.size + 1) c9 kn2 (updN be2 left (hitV ls lf ||| 2 ^ y.1)) V X) (store_best hl hne.1 (by omega) (by omega) (by omega) ⟨NB.out, N6.out, N7.out, N9.out, NM.out⟩) ?_
        rintro X hX
        have HX1 := Lib.hid hX
        clear hX g0 g1 g2 g3 gf
        have XW := Lib.hid (vB.tr HX1.out.1)
        have hck := (HE.out.but HF.out XW.out).ek.cell1.1
        refine ⟨HCX.out X XW.out HX1.out.2.1 HX1.out.2.2.2.1, ?_⟩
        rw [if_pos (by rfl)]
        gi_wp2_with fail
        refine ⟨HCX.out X XW.out HX1.out.2.1 HX1.out.2.2.2.1, ?_⟩
        rw [if_pos (by rfl)]
        have gkc : X.cell? ⟨gk, left, none⟩ = some (.bool (kn2 left)) := by rw [HX1.out.2.2.2.2.1.cell, knA_get M kn2 left hl]
        have gkf := HX1.out.2.2.2.2.1.frozen left
        gi_wp2_with fail
        refine named (fun Y => StoreFacts gk gb M left (hitV ls lf ||| 2 ^ y.1) w.heap.size (w.heap.size + 1) c9 (updB kn2 left true) (updN be2 left (hitV ls lf ||| 2 ^ y.1)) V Y) (store_known hl hne.1 (by omega) (by omega) (by omega) HX1.out) ?_
        rintro Y hY
        have YW := Lib.hid (vB.tr hY.1)
        refine ⟨HCX.out Y YW.out hY.2.1 hY.2.2.2.1, ?_⟩
        refine And.intro (keeps_but hY.1 (by omega) (by omega)) (And.intro (kb_but hY.1 HF.out.g6.1 HF.out.g6.2 (by omega) (by omega) (by omega) (by omega)) (And.intro (And.intro (And.intro hY.2.1 hY.2.2.1) ?_) (And.intro YW.out (vB4.tr hY.1))))
        rw [HACC.out, show hitS (fun n => hitV ls (diff left (hold ls ls.length n))) none y.1 = some (hitV ls lf ||| 2 ^ y.1) by rw [HLF.out]; rfl]
        exact mid_put H0.out hY.2.2.2.2 HM1.out HM2.out m3
      | some t =>
        simp only [Option.isSome_some] at k0
        obtain ⟨q0, q1, q2, q3, q4⟩ := U9.out.set4
        have htv := HM5.out t rfl
        have htl' := HAL.out t rfl
        have hsl : hitV ls lf ||| 2 ^ y.1 < 2 ^ 256 := Nat.or_lt_two_pow (hitV_lt _ _) (pow_lt256 hy)
        have b0 : U.cell? ⟨gb, left * 4, none⟩ = some (.int .u64 (word t 0)) := by rw [UM.out.2.cell, beA_get M be2 _ (by omega), show left * 4 / 4 = left by omega, show left * 4 % 4 = 0 by omega, htv]
        have b1 : U.cell? ⟨gb, left * 4 + 1, none⟩ = some (.int .u64 (word t 1)) := by rw [UM.out.2.cell, beA_get M be2 _ (by omega), show (left * 4 + 1) / 4 = left by omega, show (left * 4 + 1) % 4 = 1 by omega, htv]
        have b2 : U.cell? ⟨gb, left * 4 + 2, none⟩ = some (.int .u64 (word t 2)) := by rw [UM.out.2.cell, beA_get M be2 _ (by omega), show (left * 4 + 2) / 4 = left by omega, show (left * 4 + 2) % 4 = 2 by omega, htv]
        have b3 : U.cell? ⟨gb, left * 4 + 3, none⟩ = some (.int .u64 (word t 3)) := by rw [UM.out.2.cell, beA_get M be2 _ (by omega), show (left * 4 + 3) / 4 = left by omega, show (left * 4 + 3) % 4 = 3 by omega, htv]
        clear htv
        by_cases hbt : betB (hitV ls lf ||| 2 ^ y.1) t = true
        · gi_wp2_with fail
          refine wpIn_region_calm (open_round l) 13 63 [0, 1, 2, 3, 4, 5, 6, 7, 8, 9, 10, 11, 12] [] (fun _ => .bool false) (by kernel_rfl) (by kernel_rfl) (by kernel_rfl) (by kernel_rfl) (by kernel_rfl) (fun _ h => by cases h) (by rfl) ?_
          (refine calm_step rfl (by rfl) (by rfl) rfl (Nat.le_of_ble_eq_true rfl) ?_; apply Exists.intro; refine ⟨fun w1 hC K hK => ?_, ?_⟩; (next => (obtain ⟨hoc, hof⟩ := old_cells hC; have HC := Lib.hid hC; clear hC; go_wp2; all_goals (first | exact Below.refl _ _ | assumption | exact (Below.refl _ _).drew))); try simp only [Act.put, slotL_succ, slotL_zero, List.setIfInBounds_toArray, List.set_cons_zero, List.set_cons_succ])
          (refine calm_step rfl (by rfl) (by rfl) rfl (Nat.le_of_ble_eq_true rfl) ?_; apply Exists.intro; refine ⟨fun w1 hC K hK => ?_, ?_⟩; (next => (obtain ⟨hoc, hof⟩ := old_cells hC; have HC := Lib.hid hC; clear hC; go_wp2; all_goals (first | exact Below.refl _ _ | assumption | exact (Below.refl _ _).drew))); try simp only [Act.put, slotL_succ, slotL_zero, List.setIfInBounds_toArray, List.set_cons_zero, List.set_cons_succ])
          (refine calm_step rfl (by rfl) (by rfl) rfl (Nat.le_of_ble_eq_true rfl) ?_; apply Exists.intro; refine ⟨fun w1 hC K hK => ?_, ?_⟩; (next => (go_wp2; all_goals (first | exact Below.refl _ _ | assumption | exact (Below.refl _ _).drew))); try simp only [Act.put, slotL_succ, slotL_zero, List.setIfInBounds_toArray, List.set_cons_zero, List.set_cons_succ])
          (refine calm_step rfl (by rfl) (by rfl) rfl (Nat.le_of_ble_eq_true rfl) ?_; apply Exists.intro; refine ⟨fun w1 hC K hK => ?_, ?_⟩; (next => (obtain ⟨hoc, hof⟩ := old_cells hC; have HC := Lib.hid hC; clear hC; go_wp2; all_goals (first | exact Below.refl _ _ | assumption | exact (Below.refl _ _).drew))); try simp only [Act.put, slotL_succ, slotL_zero, List.setIfInBounds_toArray, List.set_cons_zero, List.set_cons_succ])
          (refine calm_step rfl (by rfl) (by rfl) rfl (Nat.le_of_ble_eq_true rfl) ?_; apply Exists.intro; refine ⟨fun w1 hC K hK => ?_, ?_⟩; (next => (go_wp2; all_goals (first | exact Below.refl _ _ | assumption | exact (Below.refl _ _).drew))); try simp only [Act.put, slotL_succ, slotL_zero, List.setIfInBounds_toArray, List.set_cons_zero, List.set_cons_succ])
          (refine calm_step rfl (by rfl) (by rfl) rfl (Nat.le_of_ble_eq_true rfl) ?_; apply Exists.intro; refine ⟨fun w1 hC K hK => ?_, ?_⟩; (next => (go_wp2; all_goals (first | exact Below.refl _ _ | assumption | exact (Below.refl _ _).drew))); try simp only [Act.put, slotL_succ, slotL_zero, List.setIfInBounds_toArray, List.set_cons_zero, List.set_cons_succ])
          first | (refine wpC_skip rfl (by rfl) rfl ?_; try simp only [Act.put, slotL_succ, slotL_zero, List.setIfInBounds_toArray, List.set_cons_zero, List.set_cons_succ]) | (refine calm_step rfl (by rfl) (by rfl) rfl (Nat.le_of_ble_eq_true rfl) ?_; apply Exists.intro; refine ⟨fun w1 hC K hK => ?_, ?_⟩; (next => (obtain ⟨hoc, hof⟩ := old_cells hC; have HC := Lib.hid hC; clear hC; go_wp2; all_goals (first | exact Below.refl _ _ | assumption | exact (Below.refl _ _).drew))); try simp only [Act.put, slotL_succ, slotL_zero, List.setIfInBounds_toArray, List.set_cons_zero, List.set_cons_succ])
          first | (refine wpC_skip rfl (by rfl) rfl ?_; try simp only [Act.put, slotL_succ, slotL_zero, List.setIfInBounds_toArray, List.set_cons_zero, List.set_cons_succ]) | (refine calm_step rfl (by rfl) (by rfl) rfl (Nat.le_of_ble_eq_true rfl) ?_; apply Exists.intro; refine ⟨fun w1 hC K hK => ?_, ?_⟩; (next => (obtain ⟨hoc, hof⟩ := old_cells hC; have HC := Lib.hid hC; clear hC; go_wp2; all_goals (first | exact Below.refl _ _ | assumption | exact (Below.refl _ _).drew))); try simp only [Act.put, slotL_succ, slotL_zero, List.setIfInBounds_toArray, List.set_cons_zero, List.set_cons_succ])
          first | (refine wpC_skip rfl (by rfl) rfl ?_; try simp only [Act.put, slotL_succ, slotL_zero, List.setIfInBounds_toArray, List.set_cons_zero, List.set_cons_succ]) | (refine calm_step rfl (by rfl) (by rfl) rfl (Nat.le_of_ble_eq_true rfl) ?_; apply Exists.intro; refine ⟨fun w1 hC K hK => ?_, ?_⟩; (next => (obtain ⟨hoc, hof⟩ := old_cells hC; have HC := Lib.hid hC; clear hC; go_wp2; all_goals (first | exact Below.refl _ _ | assumption | exact (Below.refl _ _).drew))); try simp only [Act.put, slotL_succ, slotL_zero, List.setIfInBounds_toArray, List.set_cons_zero, List.set_cons_succ])
          first | (refine wpC_skip rfl (by rfl) rfl ?_; try simp only [Act.put, slotL_succ, slotL_zero, List.setIfInBounds_toArray, List.set_cons_zero, List.set_cons_succ]) | (refine calm_step rfl (by rfl) (by rfl) rfl (Nat.le_of_ble_eq_true rfl) ?_; apply Exists.intro; refine ⟨fun w1 hC K hK => ?_, ?_⟩; (next => (go_wp2; all_goals (first | exact Below.refl _ _ | assumption | exact (Below.refl _ _).drew))); try simp only [Act.put, slotL_succ, slotL_zero, List.setIfInBounds_toArray, List.set_cons_zero, List.set_cons_succ])
          first | (refine wpC_skip rfl (by rfl) rfl ?_; try simp only [Act.put, slotL_succ, slotL_zero, List.setIfInBounds_toArray, List.set_cons_zero, List.set_cons_succ]) | (refine calm_step rfl (by rfl) (by rfl) rfl (Nat.le_of_ble_eq_true rfl) ?_; apply Exists.intro; refine ⟨fun w1 hC K hK => ?_, ?_⟩; (next => (obtain ⟨hoc, hof⟩ := old_cells hC; have HC := Lib.hid hC; clear hC; go_wp2; all_goals (first | exact Below.refl _ _ | assumption | exact (Below.refl _ _).drew))); try simp only [Act.put, slotL_succ, slotL_zero, List.setIfInBounds_toArray, List.set_cons_zero, List.set_cons_succ])
          first | (refine wpC_skip rfl (by rfl) rfl ?_; try simp only [Act.put, slotL_succ, slotL_zero, List.setIfInBounds_toArray, List.set_cons_zero, List.set_cons_succ]) | (refine calm_step rfl (by rfl) (by rfl) rfl (Nat.le_of_ble_eq_true rfl) ?_; apply Exists.intro; refine ⟨fun w1 hC K hK => ?_, ?_⟩; (next => (obtain ⟨hoc, hof⟩ := old_cells hC; have HC := Lib.hid hC; clear hC; go_wp2_with (first | (go_at_call 80; refine (better_any _ _ _ hsl htl').mono ?_; rintro e w2 ⟨rfl, hb⟩)); all_goals (first | exact Below.refl _ _ | assumption | exact (Below.refl _ _).drew))); try simp only [Act.put, slotL_succ, slotL_zero, List.setIfInBounds_toArray, List.set_cons_zero, List.set_cons_succ])
          (refine calm_step rfl (by rfl) (by rfl) rfl (Nat.le_of_ble_eq_true rfl) ?_; apply Exists.intro; refine ⟨fun w1 hC K hK => ?_, ?_⟩; (next => (go_wp2; all_goals (first | exact Below.refl _ _ | assumption | exact (Below.refl _ _).drew))); try simp only [Act.put, slotL_succ, slotL_zero, List.setIfInBounds_toArray, List.set_cons_zero, List.set_cons_succ])
          refine wpC_nil ?_
          intro U1 hCU1 hNU1
          clear hNU1
          have hocU1 := (old_cells hCU1).1
          have hofU1 := (old_cells hCU1).2
          simp only [List.drop_succ_cons, List.drop_zero, List.drop_nil]
          have HBT := Lib.hid hbt
          clear b0 b1 b2 b3
          have Hx := Lib.hid ((Below.refl _ U).drew.trans hCU1)
          clear hocU1 hofU1 hCU1 ck cb c6 k0 q0 q1 q2 q3 q4 hdr
          gi_wp2_with fail
          clear hbt
          have NB := Lib.hid (UB.out.tr (But.of_below Hx.out))
          have NW := Lib.hid (UW.out.tr (But.of_below Hx.out))
          have N6 := Lib.hid (U6.out.below Hx.out l6)
          have N7 := Lib.hid (U7.out.below Hx.out U7.out.lt)
          have N9 := Lib.hid (U9.out.below Hx.out l9)
          have NM := Lib.hid (UM.out.keep Hx.out)
          have hne9 : gk ≠ c9 ∧ gb ≠ c9 := by omega
          have hne := HF.out.ne
          have HCX : Hid (∀ X, But (Sm gk gb) w X → Blk X w.heap.size #[.int .i64 (left : Int)] 3 → Blk X c9 (setA (hitV ls lf ||| 2 ^ y.1)) 25 → (fun X => X.cell? ⟨bb, 0, none⟩ = some (.slice (some ⟨gb, 0, none⟩) M M) ∧ X.cell? ⟨w.heap.size, 0, none⟩ = some (.int .i64 (left : Int)) ∧ X.cell? ⟨bk, 0, none⟩ = some (.slice (some ⟨gk, 0, none⟩) M M) ∧ X.cell? ⟨c9, 0, none⟩ = some (.int .u64 ↑(word (hitV ls lf ||| 2 ^ y.1) 0)) ∧ X.cell? ⟨c9, 1, none⟩ = some (.int .u64 ↑(word (hitV ls lf ||| 2 ^ y.1) 1)) ∧ X.cell? ⟨c9, 2, none⟩ = some (.int .u64 ↑(word (hitV ls lf ||| 2 ^ y.1) 2)) ∧ X.cell? ⟨c9, 3, none⟩ = some (.int .u64 ↑(word (hitV ls lf ||| 2 ^ y.1) 3))) X) := fun X h1 h2 h3 =>
            ⟨(HE.out.but HF.out h1).eb.cell1.1, h2.cell1.1, (HE.out.but HF.out h1).ek.cell1.1, h3.set4.1, h3.set4.2.1, h3.set4.2.2.1, h3.set4.2.2.2.1⟩
          refine wpIn_region_reads_seq (fun X => X.cell? ⟨bb, 0, none⟩ = some (.slice (some ⟨gb, 0, none⟩) M M) ∧ X.cell? ⟨w.heap.size, 0, none⟩ = some (.int .i64 (left : Int)) ∧ X.cell? ⟨bk, 0, none⟩ = some (.slice (some ⟨gk, 0, none⟩) M M) ∧ X.cell? ⟨c9, 0, none⟩ = some (.int .u64 ↑(word (hitV ls lf ||| 2 ^ y.1) 0)) ∧ X.cell? ⟨c9, 1, none⟩ = some (.int .u64 ↑(word (hitV ls lf ||| 2 ^ y.1) 1)) ∧ X.cell? ⟨c9, 2, none⟩ = some (.int .u64 ↑(word (hitV ls lf ||| 2 ^ y.1) 2)) ∧ X.cell? ⟨c9, 3, none⟩ = some (.int .u64 ↑(word (hitV ls lf ||| 2 ^ y.1) 3))) 6 (by kernel_rfl) (by kernel_rfl) (by kernel_rfl) (fun c d u a w h => h) (by kernel_rfl) (by decide) (by kernel_rfl) ?_
          refine ⟨_, .slice (some ⟨gb, 0, none⟩) M M, rfl, .inl ⟨by rfl, fun X hX => (by obtain ⟨e1, e2, e3, e4, e5, e6, e7⟩ := hX; go_simp; all_goals (intro h9; exfalso; omega))⟩, ?_⟩; try simp only [Act.put, slotL_succ, slotL_zero, List.setIfInBounds_toArray, List.set_cons_zero, List.set_cons_succ]
          refine ⟨_, .int .i64 (left : Int), rfl, .inl ⟨by rfl, fun X hX => (by obtain ⟨e1, e2, e3, e4, e5, e6, e7⟩ := hX; go_simp; all_goals (intro h9; exfalso; omega))⟩, ?_⟩; try simp only [Act.put, slotL_succ, slotL_zero, List.setIfInBounds_toArray, List.set_cons_zero, List.set_cons_succ]
          refine ⟨_, .slice (some ⟨gk, 0, none⟩) M M, rfl, .inl ⟨by rfl, fun X hX => (by obtain ⟨e1, e2, e3, e4, e5, e6, e7⟩ := hX; go_simp; all_goals (intro h9; exfalso; omega))⟩, ?_⟩; try simp only [Act.put, slotL_succ, slotL_zero, List.setIfInBounds_toArray, List.set_cons_zero, List.set_cons_succ]
          refine ⟨_, .int .i64 (left : Int), rfl, .inl ⟨by rfl, fun X hX => (by obtain ⟨e1, e2, e3, e4, e5, e6, e7⟩ := hX; go_simp; all_goals (intro h9; exfalso; omega))⟩, ?_⟩; try simp only [Act.put, slotL_succ, slotL_zero, List.setIfInBounds_toArray, List.set_cons_zero, List.set_cons_succ]
          refine ⟨_, .agg #[.int .u64 ↑(word (hitV ls lf ||| 2 ^ y.1) 0), .int .u64 ↑(word (hitV ls lf ||| 2 ^ y.1) 1), .int .u64 ↑(word (hitV ls lf ||| 2 ^ y.1) 2), .int .u64 ↑(word (hitV ls lf ||| 2 ^ y.1) 3)], rfl, .inl ⟨by rfl, fun X hX => (by obtain ⟨e1, e2, e3, e4, e5, e6, e7⟩ := hX; go_simp; all_goals (intro h9; exfalso; omega))⟩, ?_⟩; try simp only [Act.put, slotL_succ, slotL_zero, List.setIfInBounds_toArray, List.set_cons_zero, List.set_cons_succ]
          refine ⟨_, .pointer (some ⟨gb, left * 4, none⟩), rfl, .inl ⟨by rfl, fun X hX => (by obtain ⟨e1, e2, e3, e4, e5, e6, e7⟩ := hX; go_simp; all_goals (intro h9; exfalso; omega))⟩, ?_⟩; try simp only [Act.put, slotL_succ, slotL_zero, List.setIfInBounds_toArray, List.set_cons_zero, List.set_cons_succ]
          refine pureC_nil ?_
          refine ⟨HCX.out U1.drew (NW.out.tr ⟨rfl, rfl, rfl, Nat.le_refl _, fun _ _ _ => rfl⟩) N6.out.drew N9.out.drew, ?_⟩
          rw [if_pos (by rfl)]
          have gs : ∀ j, j < 4 → ∃ v, U1.cell? ⟨gb, left * 4 + j, none⟩ = some v := fun j hj => by rw [NM.out.2.cell, beA_get M be2 _ (by omega)]; exact ⟨_, rfl⟩
          obtain ⟨v0, g0⟩ := gs 0 (by omega)
          obtain ⟨v1, g1⟩ := gs 1 (by omega)
          obtain ⟨v2, g2⟩ := gs 2 (by omega)
          obtain ⟨v3, g3⟩ := gs 3 (by omega)
          rw [Nat.add_zero] at g0
          have gf : ∀ j, U1.frozen? ⟨gb, j, none⟩ = false := fun j => NM.out.2.frozen j
          clear gs
          gi_wp2_with fail
          refine named (fun X => StoreFacts gk gb M left (hitV ls lf ||| 2 ^ y.1) w.heap.size (w.heap.size + 1) c9 kn2 (updN be2 left (hitV ls lf ||| 2 ^ y.1)) V X) (store_best hl hne.1 (by omega) (by omega) (by omega) ⟨NB.out, N6.out, N7.out, N9.out, NM.out⟩) ?_
          rintro X hX
          have HX1 := Lib.hid hX
          clear hX g0 g1 g2 g3 gf
          have XW := Lib.hid (vB.tr HX1.out.1)
          have hck := (HE.out.but HF.out XW.out).ek.cell1.1
          refine ⟨HCX.out X XW.out HX1.out.2.1 HX1.out.2.2.2.1, ?_⟩
          rw [if_pos (by rfl)]
          gi_wp2_with fail
          refine ⟨HCX.out X XW.out HX1.out.2.1 HX1.out.2.2.2.1, ?_⟩
          rw [if_pos (by rfl)]
          have gkc : X.cell? ⟨gk, left, none⟩ = some (.bool (kn2 left)) := by rw [HX1.out.2.2.2.2.1.cell, knA_get M kn2 left hl]
          have gkf := HX1.out.2.2.2.2.1.frozen left
          gi_wp2_with fail
          refine named (fun Y => StoreFacts gk gb M left (hitV ls lf ||| 2 ^ y.1) w.heap.size (w.heap.size + 1) c9 (updB kn2 left true) (updN be2 left (hitV ls lf ||| 2 ^ y.1)) V Y) (store_known hl hne.1 (by omega) (by omega) (by omega) HX1.out) ?_
          rintro Y hY
          have YW := Lib.hid (vB.tr hY.1)
          refine ⟨HCX.out Y YW.out hY.2.1 hY.2.2.2.1, ?_⟩
          refine And.intro (keeps_but hY.1 (by omega) (by omega)) (And.intro (kb_but hY.1 HF.out.g6.1 HF.out.g6.2 (by omega) (by omega) (by omega) (by omega)) (And.intro (And.intro (And.intro hY.2.1 hY.2.2.1) ?_) (And.intro YW.out (vB4.tr hY.1))))
          rw [HACC.out, show hitS (fun n => hitV ls (diff left (hold ls ls.length n))) (some t) y.1 = some (hitV ls lf ||| 2 ^ y.1) by rw [HLF.out]; simp only [hitS]; rw [← HLF.out, if_pos HBT.out]]
          exact mid_put H0.out hY.2.2.2.2 HM1.out HM2.out m3
        · have hbf : betB (hitV ls lf ||| 2 ^ y.1) t = false := by simpa using hbt
          clear hbt
          gi_wp2_with fail
          refine wpIn_region_calm (open_round l) 13 63 [0, 1, 2, 3, 4, 5, 6, 7, 8, 9, 10, 11, 12] [] (fun _ => .bool false) (by kernel_rfl) (by kernel_rfl) (by kernel_rfl) (by kernel_rfl) (by kernel_rfl) (fun _ h => by cases h) (by rfl) ?_
          (refine calm_step rfl (by rfl) (by rfl) rfl (Nat.le_of_ble_eq_true rfl) ?_; apply Exists.intro; refine ⟨fun w1 hC K hK => ?_, ?_⟩; (next => (obtain ⟨hoc, hof⟩ := old_cells hC; have HC := Lib.hid hC; clear hC; go_wp2; all_goals (first | exact Below.refl _ _ | assumption | exact (Below.refl _ _).drew))); try simp only [Act.put, slotL_succ, slotL_zero, List.setIfInBounds_toArray, List.set_cons_zero, List.set_cons_succ])
          (refine calm_step rfl (by rfl) (by rfl) rfl (Nat.le_of_ble_eq_true rfl) ?_; apply Exists.intro; refine ⟨fun w1 hC K hK => ?_, ?_⟩; (next => (obtain ⟨hoc, hof⟩ := old_cells hC; have HC := Lib.hid hC; clear hC; go_wp2; all_goals (first | exact Below.refl _ _ | assumption | exact (Below.refl _ _).drew))); try simp only [Act.put, slotL_succ, slotL_zero, List.setIfInBounds_toArray, List.set_cons_zero, List.set_cons_succ])
          (refine calm_step rfl (by rfl) (by rfl) rfl (Nat.le_of_ble_eq_true rfl) ?_; apply Exists.intro; refine ⟨fun w1 hC K hK => ?_, ?_⟩; (next => (go_wp2; all_goals (first | exact Below.refl _ _ | assumption | exact (Below.refl _ _).drew))); try simp only [Act.put, slotL_succ, slotL_zero, List.setIfInBounds_toArray, List.set_cons_zero, List.set_cons_succ])
          (refine calm_step rfl (by rfl) (by rfl) rfl (Nat.le_of_ble_eq_true rfl) ?_; apply Exists.intro; refine ⟨fun w1 hC K hK => ?_, ?_⟩; (next => (obtain ⟨hoc, hof⟩ := old_cells hC; have HC := Lib.hid hC; clear hC; go_wp2; all_goals (first | exact Below.refl _ _ | assumption | exact (Below.refl _ _).drew))); try simp only [Act.put, slotL_succ, slotL_zero, List.setIfInBounds_toArray, List.set_cons_zero, List.set_cons_succ])
          (refine calm_step rfl (by rfl) (by rfl) rfl (Nat.le_of_ble_eq_true rfl) ?_; apply Exists.intro; refine ⟨fun w1 hC K hK => ?_, ?_⟩; (next => (go_wp2; all_goals (first | exact Below.refl _ _ | assumption | exact (Below.refl _ _).drew))); try simp only [Act.put, slotL_succ, slotL_zero, List.setIfInBounds_toArray, List.set_cons_zero, List.set_cons_succ])
          (refine calm_step rfl (by rfl) (by rfl) rfl (Nat.le_of_ble_eq_true rfl) ?_; apply Exists.intro; refine ⟨fun w1 hC K hK => ?_, ?_⟩; (next => (go_wp2; all_goals (first | exact Below.refl _ _ | assumption | exact (Below.refl _ _).drew))); try simp only [Act.put, slotL_succ, slotL_zero, List.setIfInBounds_toArray, List.set_cons_zero, List.set_cons_succ])
          first | (refine wpC_skip rfl (by rfl) rfl ?_; try simp only [Act.put, slotL_succ, slotL_zero, List.setIfInBounds_toArray, List.set_cons_zero, List.set_cons_succ]) | (refine calm_step rfl (by rfl) (by rfl) rfl (Nat.le_of_ble_eq_true rfl) ?_; apply Exists.intro; refine ⟨fun w1 hC K hK => ?_, ?_⟩; (next => (obtain ⟨hoc, hof⟩ := old_cells hC; have HC := Lib.hid hC; clear hC; go_wp2; all_goals (first | exact Below.refl _ _ | assumption | exact (Below.refl _ _).drew))); try simp only [Act.put, slotL_succ, slotL_zero, List.setIfInBounds_toArray, List.set_cons_zero, List.set_cons_succ])
          first | (refine wpC_skip rfl (by rfl) rfl ?_; try simp only [Act.put, slotL_succ, slotL_zero, List.setIfInBounds_toArray, List.set_cons_zero, List.set_cons_succ]) | (refine calm_step rfl (by rfl) (by rfl) rfl (Nat.le_of_ble_eq_true rfl) ?_; apply Exists.intro; refine ⟨fun w1 hC K hK => ?_, ?_⟩; (next => (obtain ⟨hoc, hof⟩ := old_cells hC; have HC := Lib.hid hC; clear hC; go_wp2; all_goals (first | exact Below.refl _ _ | assumption | exact (Below.refl _ _).drew))); try simp only [Act.put, slotL_succ, slotL_zero, List.setIfInBounds_toArray, List.set_cons_zero, List.set_cons_succ])
          first | (refine wpC_skip rfl (by rfl) rfl ?_; try simp only [Act.put, slotL_succ, slotL_zero, List.setIfInBounds_toArray, List.set_cons_zero, List.set_cons_succ]) | (refine calm_step rfl (by rfl) (by rfl) rfl (Nat.le_of_ble_eq_true rfl) ?_; apply Exists.intro; refine ⟨fun w1 hC K hK => ?_, ?_⟩; (next => (obtain ⟨hoc, hof⟩ := old_cells hC; have HC := Lib.hid hC; clear hC; go_wp2; all_goals (first | exact Below.refl _ _ | assumption | exact (Below.refl _ _).drew))); try simp only [Act.put, slotL_succ, slotL_zero, List.setIfInBounds_toArray, List.set_cons_zero, List.set_cons_succ])
          first | (refine wpC_skip rfl (by rfl) rfl ?_; try simp only [Act.put, slotL_succ, slotL_zero, List.setIfInBounds_toArray, List.set_cons_zero, List.set_cons_succ]) | (refine calm_step rfl (by rfl) (by rfl) rfl (Nat.le_of_ble_eq_true rfl) ?_; apply Exists.intro; refine ⟨fun w1 hC K hK => ?_, ?_⟩; (next => (go_wp2; all_goals (first | exact Below.refl _ _ | assumption | exact (Below.refl _ _).drew))); try simp only [Act.put, slotL_succ, slotL_zero, List.setIfInBounds_toArray, List.set_cons_zero, List.set_cons_succ])
          first | (refine wpC_skip rfl (by rfl) rfl ?_; try simp only [Act.put, slotL_succ, slotL_zero, List.setIfInBounds_toArray, List.set_cons_zero, List.set_cons_succ]) | (refine calm_step rfl (by rfl) (by rfl) rfl (Nat.le_of_ble_eq_true rfl) ?_; apply Exists.intro; refine ⟨fun w1 hC K hK => ?_, ?_⟩; (next => (obtain ⟨hoc, hof⟩ := old_cells hC; have HC := Lib.hid hC; clear hC; go_wp2; all_goals (first | exact Below.refl _ _ | assumption | exact (Below.refl _ _).drew))); try simp only [Act.put, slotL_succ, slotL_zero, List.setIfInBounds_toArray, List.set_cons_zero, List.set_cons_succ])
          first | (refine wpC_skip rfl (by rfl) rfl ?_; try simp only [Act.put, slotL_succ, slotL_zero, List.setIfInBounds_toArray, List.set_cons_zero, List.set_cons_succ]) | (refine calm_step rfl (by rfl) (by rfl) rfl (Nat.le_of_ble_eq_true rfl) ?_; apply Exists.intro; refine ⟨fun w1 hC K hK => ?_, ?_⟩; (next => (obtain ⟨hoc, hof⟩ := old_cells hC; have HC := Lib.hid hC; clear hC; go_wp2_with (first | (go_at_call 80; refine (better_any _ _ _ hsl htl').mono ?_; rintro e w2 ⟨rfl, hb⟩)); all_goals (first | exact Below.refl _ _ | assumption | exact (Below.refl _ _).drew))); try simp only [Act.put, slotL_succ, slotL_zero, List.setIfInBounds_toArray, List.set_cons_zero, List.set_cons_succ])
          (refine calm_step rfl (by rfl) (by rfl) rfl (Nat.le_of_ble_eq_true rfl) ?_; apply Exists.intro; refine ⟨fun w1 hC K hK => ?_, ?_⟩; (next => (go_wp2; all_goals (first | exact Below.refl _ _ | assumption | exact (Below.refl _ _).drew))); try simp only [Act.put, slotL_succ, slotL_zero, List.setIfInBounds_toArray, List.set_cons_zero, List.set_cons_succ])
          refine wpC_nil ?_
          intro U1 hCU1 hNU1
          clear hNU1
          have hocU1 := (old_cells hCU1).1
          have hofU1 := (old_cells hCU1).2
          simp only [List.drop_succ_cons, List.drop_zero, List.drop_nil]
          have HBF := Lib.hid hbf
          clear b0 b1 b2 b3
          have Hx := Lib.hid ((Below.refl _ U).drew.trans hCU1)
          clear hocU1 hofU1 hCU1 ck cb c6 k0 q0 q1 q2 q3 q4 hdr
          gi_wp2_with fail
          have hY := UB.out.tr (But.of_below Hx.out)
          refine And.intro (keeps_but hY (by omega) (by omega)) (And.intro (kb_but hY HF.out.g6.1 HF.out.g6.2 (by omega) (by omega) (by omega) (by omega)) (And.intro (And.intro (And.intro (U6.out.below Hx.out l6) (U7.out.below Hx.out U7.out.lt)) ?_) (And.intro (vB.tr hY) (vB4.tr hY))))
          rw [HACC.out, show hitS (fun n => hitV ls (diff left (hold ls ls.length n))) (some t) y.1 = some t by simp only [hitS]; rw [← HLF.out, HBF.out]; rfl]
          exact ⟨kn2, be2, UM.out.keep Hx.out, HM1.out, HM2.out, m3, HK4.out, HM5.out⟩
    have hQ0 : True := trivial
    refine wpIn_region_reads (fun U => U.cell? ⟨bh, 0, none⟩ = some (.func (.func 78) #[] #[.pointer (some ⟨bk, 0, none⟩), .pointer (some ⟨bb, 0, none⟩), .pointer (some ⟨bl, 0, none⟩), .pointer (some ⟨bh, 0, none⟩), .pointer (some ⟨bs, 0, none⟩)]) ∧ U.cell? ⟨w.heap.size, 0, none⟩ = some (.int .i64 (left : Int)) ∧ U.cell? ⟨bs, y.1, none⟩ = some (.int .i64 (hold ls ls.length y.1 : Int)))
      [0, 1, 2, 3, 4, 5, 7] 8 (by kernel_rfl) (by kernel_rfl) (by kernel_rfl) (fun c d u a w h => h) (by kernel_rfl) (by rfl) ?_
    refine ⟨_, .func (.func 78) #[] #[.pointer (some ⟨bk, 0, none⟩), .pointer (some ⟨bb, 0, none⟩), .pointer (some ⟨bl, 0, none⟩), .pointer (some ⟨bh, 0, none⟩), .pointer (some ⟨bs, 0, none⟩)], rfl, .inl ⟨by rfl, fun U hU => (by obtain ⟨e1, e2, e3⟩ := hU; go_simp; all_goals (intro h9; exfalso; omega))⟩, ?_⟩; try simp only [Act.put, slotL_succ, slotL_zero, List.setIfInBounds_toArray, List.set_cons_zero, List.set_cons_succ]
    refine ⟨_, .int .i64 (left : Int), rfl, .inl ⟨by rfl, fun U hU => (by obtain ⟨e1, e2, e3⟩ := hU; go_simp; all_goals (intro h9; exfalso; omega))⟩, ?_⟩; try simp only [Act.put, slotL_succ, slotL_zero, List.setIfInBounds_toArray, List.set_cons_zero, List.set_cons_succ]
    refine ⟨_, .int .i64 (y.1 : Int), rfl, .inl ⟨by rfl, fun U hU => (by obtain ⟨e1, e2, e3⟩ := hU; go_simp; all_goals (intro h9; exfalso; omega))⟩, ?_⟩; try simp only [Act.put, slotL_succ, slotL_zero, List.setIfInBounds_toArray, List.set_cons_zero, List.set_cons_succ]
    refine ⟨_, .pointer (some ⟨bs, y.1, none⟩), rfl, .inl ⟨by rfl, fun U hU => (by obtain ⟨e1, e2, e3⟩ := hU; go_simp; all_goals (intro h9; exfalso; omega))⟩, ?_⟩; try simp only [Act.put, slotL_succ, slotL_zero, List.setIfInBounds_toArray, List.set_cons_zero, List.set_cons_succ]
    refine ⟨_, .int .i64 (hold ls ls.length y.1 : Int), rfl, .inl ⟨by rfl, fun U hU => (by obtain ⟨e1, e2, e3⟩ := hU; go_simp; all_goals (intro h9; exfalso; omega))⟩, ?_⟩; try simp only [Act.put, slotL_succ, slotL_zero, List.setIfInBounds_toArray, List.set_cons_zero, List.set_cons_succ]
    refine ⟨_, .int .i64 (lf : Int), rfl, .inl ⟨by rfl, fun U hU => (by obtain ⟨e1, e2, e3⟩ := hU; go_simp; all_goals (intro h9; exfalso; omega))⟩, ?_⟩; try simp only [Act.put, slotL_succ, slotL_zero, List.setIfInBounds_toArray, List.set_cons_zero, List.set_cons_succ]
    refine ⟨_, .int .i64 (y.1 : Int), rfl, .inl ⟨by rfl, fun U hU => (by obtain ⟨e1, e2, e3⟩ := hU; go_simp; all_goals (intro h9; exfalso; omega))⟩, ?_⟩; try simp only [Act.put, slotL_succ, slotL_zero, List.setIfInBounds_toArray, List.set_cons_zero, List.set_cons_succ]
    have hsz := hm1.1.lt
    have hgk : gk < w.heap.size := HMM.out.1.lt
    have hgb : gb < w.heap.size := HMM.out.2.lt
    have HFX : Hid (∀ U U', But (Sm gk gb) w U ∧ Blk U w.heap.size #[.int .i64 (left : Int)] 3 ∧ Blk U (w.heap.size + 1) (setA 0) 25 → But (Sm gk gb) U U' → But (Sm gk gb) w U' ∧ Blk U' w.heap.size #[.int .i64 (left : Int)] 3 ∧ Blk U' (w.heap.size + 1) (setA 0) 25) := fun U U' h h' =>
      ⟨h.1.trans h' fun _ _ h => h, h'.blk h.2.1 (by unfold Sm; omega), h'.blk h.2.2 (by unfold Sm; omega)⟩
    have HCL : Hid (∀ U, But (Sm gk gb) w U ∧ Blk U w.heap.size #[.int .i64 (left : Int)] 3 ∧ Blk U (w.heap.size + 1) (setA 0) 25 → U.cell? ⟨bh, 0, none⟩ = some (.func (.func 78) #[] #[.pointer (some ⟨bk, 0, none⟩), .pointer (some ⟨bb, 0, none⟩), .pointer (some ⟨bl, 0, none⟩), .pointer (some ⟨bh, 0, none⟩), .pointer (some ⟨bs, 0, none⟩)]) ∧ U.cell? ⟨w.heap.size, 0, none⟩ = some (.int .i64 (left : Int)) ∧ U.cell? ⟨bs, y.1, none⟩ = some (.int .i64 (hold ls ls.length y.1 : Int))) := fun U h =>
      ⟨(HE.out.but HF.out h.1).eh.cell1.1, h.2.1.cell1.1, by rw [(HE.out.but HF.out h.1).es.cell]; exact hasA_get _ _ hy⟩
    have HV : Hid (But (Sm gk gb) w V.drew ∧ Blk V.drew w.heap.size #[.int .i64 (left : Int)] 3 ∧ Blk V.drew (w.heap.size + 1) (setA 0) 25) := HFX.out V _ ⟨vB, v6, v7⟩ ⟨rfl, rfl, rfl, Nat.le_refl _, fun _ _ _ => rfl⟩
    have HM1 := Lib.hid hm1
    clear ch c6 cs hm1
    refine pureC_nil ?_
    refine wpAnyC_all (rs := [6, 12]) (by kernel_rfl) (by simp) ?_ ?_
    · exact HCL.out _ HV.out
    intro i hi
    simp only [List.mem_cons, List.not_mem_nil, or_false] at hi
    rcases hi with rfl | rfl
    · refine wpOpIn_of rfl (by rfl) ?_
      gi_wp2_with fail
      refine ⟨trivial, ?_⟩
      refine (CallsIn.inRound l (callsIn_wide.2 (IHC.out _ HV.out.1 (HM1.out.keep (Below.refl _ V).drew)))).mono ?_
      rintro e U1 ⟨rfl, hbut, kn2, be2, hm2, hr2, hsame⟩
      have HU1 := Lib.hid (HFX.out _ _ HV.out hbut)
      have HM2 := Lib.hid hm2
      have HR2 := Lib.hid hr2
      have HSM := Lib.hid hsame
      have HBT := Lib.hid hbut
      clear hm2 hr2 hsame hbut
      try simp only [Act.put, slotL_succ, slotL_zero, List.setIfInBounds_toArray, List.set_cons_zero, List.set_cons_succ]
      refine wpAnyC_all (rs := [8, 12]) (by kernel_rfl) (by simp) ?_ ?_
      · exact HCL.out _ HU1.out
      intro i hi
      simp only [List.mem_cons, List.not_mem_nil, or_false] at hi
      rcases hi with rfl | rfl
      · refine wpOpIn_of rfl (by rfl) ?_
        gi_wp2_with fail
        refine ⟨trivial, ?_⟩
        refine (CallsIn.inRound l (callsIn_wide.2 (with_in (hitV ls lf) y.1 _ hy))).mono ?_
        rintro e U2 ⟨rfl, hbelow⟩
        have HU2 := Lib.hid (HFX.out _ _ HU1.out (But.of_below hbelow))
        have HBL := Lib.hid hbelow
        clear hbelow
        try simp only [Act.put, slotL_succ, slotL_zero, List.setIfInBounds_toArray, List.set_cons_zero, List.set_cons_succ]
        refine wpAnyC_take (open_round l) (by kernel_rfl) (by kernel_rfl) (fun c d u a w h => h) (i := 9) (by kernel_rfl) (by kernel_rfl) ⟨_, .tuple #[setV (hitV ls lf ||| 2 ^ y.1), .int .i64 0], rfl, .inl ⟨by rfl, fun U hU => (by go_simp)⟩, ?_⟩; try simp only [Act.put, slotL_succ, slotL_zero, List.setIfInBounds_toArray, List.set_cons_zero, List.set_cons_succ]
        refine wpAnyC_take (open_round l) (by kernel_rfl) (by kernel_rfl) (fun c d u a w h => h) (i := 10) (by kernel_rfl) (by kernel_rfl) ⟨_, setV (hitV ls lf ||| 2 ^ y.1), rfl, .inl ⟨by rfl, fun U hU => (by go_simp)⟩, ?_⟩; try simp only [Act.put, slotL_succ, slotL_zero, List.setIfInBounds_toArray, List.set_cons_zero, List.set_cons_succ]
        refine wpAnyC_take (open_round l) (by kernel_rfl) (by kernel_rfl) (fun c d u a w h => h) (i := 11) (by kernel_rfl) (by kernel_rfl) ⟨_, .int .i64 0, rfl, .inl ⟨by rfl, fun U hU => (by go_simp)⟩, ?_⟩; try simp only [Act.put, slotL_succ, slotL_zero, List.setIfInBounds_toArray, List.set_cons_zero, List.set_cons_succ]
        refine wpAnyC_all (rs := [12]) (by kernel_rfl) (by simp) ?_ ?_; (next => exact HCL.out _ HU2.out); intro i hi; obtain rfl : i = 12 := by simpa using hi
        refine wpOpIn_of rfl (by rfl) ?_
        gi_wp2_with fail
        have H12 := Lib.hid (HFX.out _ _ HU2.out (But.of_below (below_new1 _ (.cells #[.int .u64 0, .int .u64 0, .int .u64 0, .int .u64 0] 25))))
        try simp only [Act.put, slotL_succ, slotL_zero, List.setIfInBounds_toArray, List.set_cons_zero, List.set_cons_succ]
        refine wpAnyC_all (rs := [13]) (by kernel_rfl) (by simp) ?_ ?_; (next => exact HCL.out _ H12.out); intro i hi; obtain rfl : i = 13 := by simpa using hi
        refine wpOpIn_of rfl (by rfl) ?_
        simp only [setV]
        gi_wp2_with fail
        refine named (fun U => But (Sm gk gb) V U ∧ Blk U (U2.heap.size) (setA (hitV ls lf ||| 2 ^ y.1)) 25 ∧ Memo gk gb M kn2 be2 U) ⟨((((⟨rfl, rfl, rfl, Nat.le_refl _, fun _ _ _ => rfl⟩ : But (Sm gk gb) V V.drew)).tr HBT.out).tr (But.of_below HBL.out)).tr (But.of_below (below_new1 _ _)), Blk.newW _ _ _, (HM2.out.keep HBL.out).keep (below_new1 _ _)⟩ ?_
        rintro U ⟨uB, u9, uM⟩
        obtain ⟨c9, hc9⟩ : ∃ c, c = U2.heap.size := ⟨_, rfl⟩
        rw [← hc9] at u9 ⊢
        have h9 : V.heap.size ≤ c9 := by rw [hc9]; have := HBT.out.size; have := HBL.out.size; simp at *; omega
        clear hc9
        have HU := Lib.hid (HFX.out _ _ (⟨vB, v6, v7⟩ : But (Sm gk gb) w V ∧ Blk V w.heap.size #[.int .i64 (left : Int)] 3 ∧ Blk V (w.heap.size + 1) (setA 0) 25) uB)
        refine wpAnyC_all (rs := [14]) (by kernel_rfl) (by simp) ?_ ?_; (next => exact HCL.out _ HU.out); intro i hi; obtain rfl : i = 14 := by simpa using hi
        refine wpOpIn_of rfl (by rfl) ?_
        gi_wp2_with fail
        refine wpAnyC_end (HCL.out _ HU.out) (by kernel_rfl) ?_
        exact hrest U c9 kn2 be2 uB u9 uM HR2.out HSM.out h9
      · refine wpOpIn_of rfl (by rfl) ?_
        gi_wp2_with fail
        refine named (fun X => But (Sm gk gb) V X ∧ Blk X U1.heap.size (setA 0) 25 ∧ Memo gk gb M kn2 be2 X) ⟨(((⟨rfl, rfl, rfl, Nat.le_refl _, fun _ _ _ => rfl⟩ : But (Sm gk gb) V V.drew)).tr HBT.out).tr (But.of_below (below_new1 _ _)), Blk.newS _ _, HM2.out.keep (below_new1 _ _)⟩ ?_
        rintro Xa ⟨xaB, xa9, xaM⟩
        have HXB := Lib.hid xaB
        have HX9 := Lib.hid xa9
        have HXM := Lib.hid xaM
        have HXa := Lib.hid (HFX.out _ _ (⟨vB, v6, v7⟩ : But (Sm gk gb) w V ∧ Blk V w.heap.size #[.int .i64 (left : Int)] 3 ∧ Blk V (w.heap.size + 1) (setA 0) 25) xaB)
        clear xaB xa9 xaM
        try simp only [Act.put, slotL_succ, slotL_zero, List.setIfInBounds_toArray, List.set_cons_zero, List.set_cons_succ]
        refine wpAnyC_all (rs := [8]) (by kernel_rfl) (by simp) ?_ ?_; (next => exact HCL.out _ HXa.out); intro i hi; obtain rfl : i = 8 := by simpa using hi
        refine wpOpIn_of rfl (by rfl) ?_
        gi_wp2_with fail
        refine ⟨trivial, ?_⟩
        refine (CallsIn.inRound l (callsIn_wide.2 (with_in (hitV ls lf) y.1 _ hy))).mono ?_
        rintro e U2 ⟨rfl, hbelow⟩
        have HU2 := Lib.hid (HFX.out _ _ HXa.out (But.of_below hbelow))
        have HBL := Lib.hid hbelow
        clear hbelow
        try simp only [Act.put, slotL_succ, slotL_zero, List.setIfInBounds_toArray, List.set_cons_zero, List.set_cons_succ]
        refine wpAnyC_take (open_round l) (by kernel_rfl) (by kernel_rfl) (fun c d u a w h => h) (i := 9) (by kernel_rfl) (by kernel_rfl) ⟨_, .tuple #[setV (hitV ls lf ||| 2 ^ y.1), .int .i64 0], rfl, .inl ⟨by rfl, fun U hU => (by go_simp)⟩, ?_⟩; try simp only [Act.put, slotL_succ, slotL_zero, List.setIfInBounds_toArray, List.set_cons_zero, List.set_cons_succ]
        refine wpAnyC_take (open_round l) (by kernel_rfl) (by kernel_rfl) (fun c d u a w h => h) (i := 10) (by kernel_rfl) (by kernel_rfl) ⟨_, setV (hitV ls lf ||| 2 ^ y.1), rfl, .inl ⟨by rfl, fun U hU => (by go_simp)⟩, ?_⟩; try simp only [Act.put, slotL_succ, slotL_zero, List.setIfInBounds_toArray, List.set_cons_zero, List.set_cons_succ]
        refine wpAnyC_take (open_round l) (by kernel_rfl) (by kernel_rfl) (fun c d u a w h => h) (i := 11) (by kernel_rfl) (by kernel_rfl) ⟨_, .int .i64 0, rfl, .inl ⟨by rfl, fun U hU => (by go_simp)⟩, ?_⟩; try simp only [Act.put, slotL_succ, slotL_zero, List.setIfInBounds_toArray, List.set_cons_zero, List.set_cons_succ]
        obtain ⟨p0, p1, p2, p3, p4⟩ := (HX9.out.below HBL.out HX9.out.lt).set4
        refine wpAnyC_all (rs := [13]) (by kernel_rfl) (by simp) ?_ ?_; (next => exact HCL.out _ HU2.out); intro i hi; obtain rfl : i = 13 := by simpa using hi
        refine wpOpIn_of rfl (by rfl) ?_
        simp only [setV]
        gi_wp2_with fail
        clear p0 p1 p2 p3 p4
        refine named (fun U => But (Sm gk gb) V U ∧ Blk U (U1.heap.size) (setA (hitV ls lf ||| 2 ^ y.1)) 25 ∧ Memo gk gb M kn2 be2 U) ⟨but_put4 (HXB.out.tr (But.of_below HBL.out)) HBT.out.size _ _ _ _, (HX9.out.below HBL.out HX9.out.lt).put4 rfl _ _ _ _, (HXM.out.keep HBL.out).put4 (by have h1 := HBT.out.size; have h2 : V.drew.heap.size = V.heap.size := rfl; have h3 := vB.size; omega) (by have h1 := HBT.out.size; have h2 : V.drew.heap.size = V.heap.size := rfl; have h3 := vB.size; omega) _ _ _ _⟩ ?_
        rintro U ⟨uB, u9, uM⟩
        obtain ⟨c9, hc9⟩ : ∃ c, c = U1.heap.size := ⟨_, rfl⟩
        rw [← hc9] at u9 ⊢
        have h9 : V.heap.size ≤ c9 := by rw [hc9]; exact HBT.out.size
        clear hc9
        have HU := Lib.hid (HFX.out _ _ (⟨vB, v6, v7⟩ : But (Sm gk gb) w V ∧ Blk V w.heap.size #[.int .i64 (left : Int)] 3 ∧ Blk V (w.heap.size + 1) (setA 0) 25) uB)
        refine wpAnyC_all (rs := [14]) (by kernel_rfl) (by simp) ?_ ?_; (next => exact HCL.out _ HU.out); intro i hi; obtain rfl : i = 14 := by simpa using hi
        refine wpOpIn_of rfl (by rfl) ?_
        gi_wp2_with fail
        refine wpAnyC_end (HCL.out _ HU.out) (by kernel_rfl) ?_
        exact hrest U c9 kn2 be2 uB u9 uM HR2.out HSM.out h9
    · refine wpOpIn_of rfl (by rfl) ?_
      gi_wp2_with fail
      refine named (fun X => But (Sm gk gb) V X ∧ Blk X V.heap.size (setA 0) 25 ∧ Memo gk gb M kn1 be1 X) ⟨((⟨rfl, rfl, rfl, Nat.le_refl _, fun _ _ _ => rfl⟩ : But (Sm gk gb) V V.drew)).tr (But.of_below (below_new1 _ _)), Blk.newS V.drew _, (HM1.out.keep (Below.refl _ V).drew).keep (below_new1 _ _)⟩ ?_
      rintro Xa ⟨xaB, xa9, xaM⟩
      have HXB := Lib.hid xaB
      have HX9 := Lib.hid xa9
      have HXM := Lib.hid xaM
      have HXa := Lib.hid (HFX.out _ _ (⟨vB, v6, v7⟩ : But (Sm gk gb) w V ∧ Blk V w.heap.size #[.int .i64 (left : Int)] 3 ∧ Blk V (w.heap.size + 1) (setA 0) 25) xaB)
      clear xaB xa9 xaM
      try simp only [Act.put, slotL_succ, slotL_zero, List.setIfInBounds_toArray, List.set_cons_zero, List.set_cons_succ]
      refine wpAnyC_all (rs := [6]) (by kernel_rfl) (by simp) ?_ ?_; (next => exact HCL.out _ HXa.out); intro i hi; obtain rfl : i = 6 := by simpa using hi
      refine wpOpIn_of rfl (by rfl) ?_
      gi_wp2_with fail
      refine ⟨trivial, ?_⟩
      refine (CallsIn.inRound l (callsIn_wide.2 (IHC.out _ HXa.out.1 HXM.out))).mono ?_
      rintro e U1 ⟨rfl, hbut, kn2, be2, hm2, hr2, hsame⟩
      have HU1 := Lib.hid (HFX.out _ _ HXa.out hbut)
      have HM2 := Lib.hid hm2
      have HR2 := Lib.hid hr2
      have HSM := Lib.hid hsame
      have HBT := Lib.hid hbut
      clear hm2 hr2 hsame hbut
      try simp only [Act.put, slotL_succ, slotL_zero, List.setIfInBounds_toArray, List.set_cons_zero, List.set_cons_succ]
      have HX9b := Lib.hid (HBT.out.blk HX9.out (by have h3 := vB.size; unfold Sm; omega))
      refine wpAnyC_all (rs := [8]) (by kernel_rfl) (by simp) ?_ ?_; (next => exact HCL.out _ HU1.out); intro i hi; obtain rfl : i = 8 := by simpa using hi
      refine wpOpIn_of rfl (by rfl) ?_
      gi_wp2_with fail
      refine ⟨trivial, ?_⟩
      refine (CallsIn.inRound l (callsIn_wide.2 (with_in (hitV ls lf) y.1 _ hy))).mono ?_
      rintro e U2 ⟨rfl, hbelow⟩
      have HU2 := Lib.hid (HFX.out _ _ HU1.out (But.of_below hbelow))
      have HBL := Lib.hid hbelow
      clear hbelow
      try simp only [Act.put, slotL_succ, slotL_zero, List.setIfInBounds_toArray, List.set_cons_zero, List.set_cons_succ]
      refine wpAnyC_take (open_round l) (by kernel_rfl) (by kernel_rfl) (fun c d u a w h => h) (i := 9) (by kernel_rfl) (by kernel_rfl) ⟨_, .tuple #[setV (hitV ls lf ||| 2 ^ y.1), .int .i64 0], rfl, .inl ⟨by rfl, fun U hU => (by go_simp)⟩, ?_⟩; try simp only [Act.put, slotL_succ, slotL_zero, List.setIfInBounds_toArray, List.set_cons_zero, List.set_cons_succ]
      refine wpAnyC_take (open_round l) (by kernel_rfl) (by kernel_rfl) (fun c d u a w h => h) (i := 10) (by kernel_rfl) (by kernel_rfl) ⟨_, setV (hitV ls lf ||| 2 ^ y.1), rfl, .inl ⟨by rfl, fun U hU => (by go_simp)⟩, ?_⟩; try simp only [Act.put, slotL_succ, slotL_zero, List.setIfInBounds_toArray, List.set_cons_zero, List.set_cons_succ]
      refine wpAnyC_take (open_round l) (by kernel_rfl) (by kernel_rfl) (fun c d u a w h => h) (i := 11) (by kernel_rfl) (by kernel_rfl) ⟨_, .int .i64 0, rfl, .inl ⟨by rfl, fun U hU => (by go_simp)⟩, ?_⟩; try simp only [Act.put, slotL_succ, slotL_zero, List.setIfInBounds_toArray, List.set_cons_zero, List.set_cons_succ]
      obtain ⟨p0, p1, p2, p3, p4⟩ := (HX9b.out.below HBL.out HX9b.out.lt).set4
      refine wpAnyC_all (rs := [13]) (by kernel_rfl) (by simp) ?_ ?_; (next => exact HCL.out _ HU2.out); intro i hi; obtain rfl : i = 13 := by simpa using hi
      refine wpOpIn_of rfl (by rfl) ?_
      simp only [setV]
      gi_wp2_with fail
      clear p0 p1 p2 p3 p4
      refine named (fun U => But (Sm gk gb) V U ∧ Blk U (V.heap.size) (setA (hitV ls lf ||| 2 ^ y.1)) 25 ∧ Memo gk gb M kn2 be2 U) ⟨but_put4 ((HXB.out.tr HBT.out).tr (But.of_below HBL.out)) (Nat.le_refl _) _ _ _ _, (HX9b.out.below HBL.out HX9b.out.lt).put4 rfl _ _ _ _, (HM2.out.keep HBL.out).put4 (by have h3 := vB.size; omega) (by have h3 := vB.size; omega) _ _ _ _⟩ ?_
      rintro U ⟨uB, u9, uM⟩
      obtain ⟨c9, hc9⟩ : ∃ c, c = V.heap.size := ⟨_, rfl⟩
      rw [← hc9] at u9 ⊢
      have h9 : V.heap.size ≤ c9 := by rw [hc9]; exact Nat.le_refl _
      clear hc9
      have HU := Lib.hid (HFX.out _ _ (⟨vB, v6, v7⟩ : But (Sm gk gb) w V ∧ Blk V w.heap.size #[.int .i64 (left : Int)] 3 ∧ Blk V (w.heap.size + 1) (setA 0) 25) uB)
      refine wpAnyC_all (rs := [14]) (by kernel_rfl) (by simp) ?_ ?_; (next => exact HCL.out _ HU.out); intro i hi; obtain rfl : i = 14 := by simpa using hi
      refine wpOpIn_of rfl (by rfl) ?_
      gi_wp2_with fail
      refine wpAnyC_end (HCL.out _ HU.out) (by kernel_rfl) ?_
      exact hrest U c9 kn2 be2 uB u9 uM HR2.out HSM.out h9
  case done =>
    rintro D ys V hD hys ⟨⟨⟨v6, v7⟩, vM⟩, vB, vB4⟩ hKD
    rw [hys] at vM
    obtain ⟨kn3, be3, m, g1, q1, z1, k1, b1⟩ := vM
    have hgk : gk < w.heap.size := HMM.out.1.lt
    have hgb : gb < w.heap.size := HMM.out.2.lt
    have hne0 : mem x ≠ [] := fun e => HXL.out.2 (zero_of_bits HXL.out.1 fun i hi => by
      cases hbit : x.testBit i with
      | false => rfl
      | true => have := (mem_iff HXL.out.1).2 hbit; rw [e] at this; cases this)
    cases hacc : (mem x).foldl (hitS fun n => hitV ls (diff left (hold ls ls.length n))) none with
    | none => have := hitS_ne (fun n => hitV ls (diff left (hold ls ls.length n))) hne0; rw [hacc] at this; cases this
    | some t =>
      rw [hacc] at k1 b1
      have hbt := b1 t rfl
      have hv : hitV ls left = t := by
        rw [hitV_eq (fun N hN => (HF.out.sets N hN).1) HF.out.len H0.out (by rw [← HF.out.M]; exact hl), HX.out, hacc]; rfl
      have hEV := HE.out.but HF.out vB
      have cb := hEV.eb.cell1.1
      have c6 := v6.cell1.1
      obtain ⟨p0, p1, p2, p3, pf⟩ := v7.set4
      have n0 : V.cell? ⟨gb, left * 4, none⟩ = some (.int .u64 (word t 0)) := by rw [m.2.cell, beA_get M be3 _ (by omega), show left * 4 / 4 = left by omega, show left * 4 % 4 = 0 by omega, hbt]
      have n1 : V.cell? ⟨gb, left * 4 + 1, none⟩ = some (.int .u64 (word t 1)) := by rw [m.2.cell, beA_get M be3 _ (by omega), show (left * 4 + 1) / 4 = left by omega, show (left * 4 + 1) % 4 = 1 by omega, hbt]
      have n2 : V.cell? ⟨gb, left * 4 + 2, none⟩ = some (.int .u64 (word t 2)) := by rw [m.2.cell, beA_get M be3 _ (by omega), show (left * 4 + 2) / 4 = left by omega, show (left * 4 + 2) % 4 = 2 by omega, hbt]
      have n3 : V.cell? ⟨gb, left * 4 + 3, none⟩ = some (.int .u64 (word t 3)) := by rw [m.2.cell, beA_get M be3 _ (by omega), show (left * 4 + 3) / 4 = left by omega, show (left * 4 + 3) % 4 = 3 by omega, hbt]
      have HPOST : Hid (∀ U, Blk U (w.heap.size + 1) (setA t) 25 → But (Sm gk gb) w U → Memo gk gb M kn3 be3 U → HitPost ls gk gb M kn be left w (.returned (setV t)) U) := fun U h1 h2 h3 =>
        ⟨by rw [hv], h2, kn3, be3, h3, ⟨fun y hy hk => by
          by_cases e : y = left
          · rw [e, hbt, hv]
          · exact q1 y (by omega) hk, z1⟩, g1⟩
      have HM3 := Lib.hid m
      have V7 := Lib.hid v7
      have VW := Lib.hid vB
      have hKD' := Lib.hid hKD
      have hs4 : w.heap.size + 1 < w4.heap.size := h7x.lt
      have hsV := vB4.size
      clear hbt hv k1 b1 z1 g1 q1 m hacc hEV hys hKD v7 vB vB4
      gi_wp2_with fail
      refine named (fun U => Blk U (w.heap.size + 1) (setA t) 25 ∧ But (Sm gk gb) w U ∧ Memo gk gb M kn3 be3 U ∧ U.heap[D]? = some (.deferred (some []))) ⟨V7.out.put4 rfl _ _ _ _, but_put4' VW.out (Nat.le_succ _) _ _ _ _, HM3.out.put4 (by omega) (by omega) _ _ _ _, ?_⟩ ?_
      · have step : ∀ {U : World} (_ : U.heap[D]? = some (.deferred (some []))) (i : Nat) (v : Value), (U.setCell ⟨w.heap.size + 1, i, none⟩ v).heap[D]? = some (.deferred (some [])) := fun h i v => by
          rw [Below.heap_setCell]
          · exact h
          · intro e; have e' : D = w.heap.size + 1 := e; omega
        exact step (step (step (step hKD'.out 0 _) 1 _) 2 _) 3 _
      rintro U ⟨u7, uW, uM, uD⟩
      refine ⟨by simp, .inl ⟨_, _, rfl, run_takeDeferred uD, ?_⟩⟩
      have hput : ∀ {b : Nat} {cs : Array Value} {ty : TypeId}, Blk U b cs ty → Blk (U.putObj D (.deferred none)) b cs ty := fun {b cs ty} h => blk_own 0 b (fun _ : Unit => cs) ty () U _ (some D) h (grownBy_putObj' U D _) (fun r e => by cases e; exact ⟨Nat.zero_le _, _, uD, rfl⟩)
      have hbut : But (Sm gk gb) w (U.putObj D (.deferred none)) := uW.trans (But.grown (S := fun k => k = D) (grownBy_putObj' U D _) (fun k e => by cases e; rfl)) fun i hi e => by omega
      obtain ⟨p0, p1, p2, p3, pf⟩ := (hput u7).set4
      exact ⟨setV t, by simp [results, Tryd.results78, go_sem, p0, p1, p2, p3, setV], HPOST.out _ (hput u7) hbut ⟨hput uM.1, hput uM.2⟩⟩
  case stop =>
    rintro D c pre V _ _ h _
    exact h.elim
end Go.Proofs.YtjifajigigflkaaDoor
/- Package bits: Hit. -/
namespace Go.Proofs.YtjifajigigflkaaDoor
set_option linter.unusedSimpArgs false
set_option linter.unusedVariables false
open Go Go.RowKit Go.Shelf

/-- What Hit returns. -/
def hitR (ls : List Nat) : Value :=
  if 16 < ls.length then .tuple #[setV 0, .bool false, .int .i64 2]
  else if ls.any (eqS 0) then .tuple #[setV 0, .bool false, .int .i64 0]
  else .tuple #[setV (hitV ls (2 ^ ls.length - 1)), .bool true, .int .i64 0]
theorem owns_full {W : World} {base : Nat} {e : TypeId} {size g n : Nat} {xs : List Value} (h : W.ownsRow base e size (.slice (some ⟨g, 0, none⟩) n n) n xs) : Blk W g xs.toArray e := by
  obtain ⟨hl, h⟩ := h
  rcases h with ⟨h, _⟩ | ⟨g', cap, cur, h1, _, hb, _, _, h3, h4⟩
  · cases h
  · have e1 : g = g' ∧ n = cap := by simpa using h1
    obtain ⟨rfl, rfl⟩ := e1
    have : cur = xs.toArray := by
      rw [← h4, List.take_of_length_le (by simp [h3])]
    rw [← this]; exact hb
theorem infoSet : (Tryd.prog.info? 25).map (fun i => (i.zero, i.size, i.bytes)) = some (some (.agg #[.int .u64 0, .int .u64 0, .int .u64 0, .int .u64 0]), 4, 32) := by kernel_rfl
theorem infoBool : (Tryd.prog.info? 4).map (fun i => (i.zero, i.size, i.bytes)) = some (some (.bool false), 1, 1) := by kernel_rfl
theorem made_be (M : Nat) : (madeCells (Value.agg #[.int .u64 0, .int .u64 0, .int .u64 0, .int .u64 0]).cells (M * 4)).toList.toArray = beA M (fun _ => 0) := by
  apply Array.ext_getElem?
  intro i
  by_cases hi : i < M * 4
  · rw [beA_get M _ i hi]
    have h4 : i % 4 = 0 ∨ i % 4 = 1 ∨ i % 4 = 2 ∨ i % 4 = 3 := by omega
    rcases h4 with h | h | h | h <;> simp [madeCells, Value.cells, hi, h, word_zero]
  · rw [Array.getElem?_eq_none (by simp [size_madeCells]; omega), Array.getElem?_eq_none (by rw [beA_size]; omega)]
theorem made_kn (M : Nat) : (madeCells (Value.bool false).cells (M * 1)).toList.toArray = knA M (fun _ => false) := by
  apply Array.ext_getElem?
  intro i
  by_cases hi : i < M
  · rw [knA_get M _ i hi]
    simp [madeCells, Value.cells, hi, Nat.mod_one]
  · rw [Array.getElem?_eq_none (by simp [size_madeCells]; omega), Array.getElem?_eq_none (by rw [knA_size]; omega)]

theorem contains0 (a : Option Addr) (cap : Nat) (ls : List Nat) (w : World) (hl : ls.length ≤ 9223372036854775807) (hs : SetCells w a ls) (ho : ∀ ad, a = some ad → ad.block < w.heap.size) :
    Calls Tryd.prog 76 #[.slice a ls.length cap, .agg #[.int .u64 0, .int .u64 0, .int .u64 0, .int .u64 0]] w fun e w' => e = .returned (.bool (ls.any (eqS 0))) ∧ Below w.heap.size w w' := by
  have := contains_any 0 a cap ls w hl hs ho
  simpa only [setV, word_zero, Int.natCast_zero, show ((0 : Nat) : Int) = 0 from rfl] using this
theorem store_new76 (W : World) (f : Nat → Nat) : (storeCells ⟨W.heap.size, 0, none⟩ (hasA f).toList).run Tryd.prog (W.alloc (.cells Tryd.zeroCells76 76)) = .ok () ((W.alloc (.cells Tryd.zeroCells76 76)).setRow W.heap.size (hasA f)) := by
  have hB : Blk (W.alloc (.cells Tryd.zeroCells76 76)) W.heap.size (hasA fun _ => 0) 76 := by rw [zero76]; exact Blk.new _ _ _
  have h := store76 hB f
  have hsz : (hasA f).size = 256 := hasA_size f
  simpa [Instr.storeAt, Instr.sureAddr, Sem.run_bind, Sem.run_pure, Result.andThen, storeVar, Value.cells, hsz] using h
/-- What Hit knows of its first two blocks. -/
def Ht2 (w : World) (a : Option Addr) (cap : Nat) (ls : List Nat) (V : World) : Prop := Blk V w.heap.size #[.slice a ls.length cap] 54 ∧ Blk V (w.heap.size + 1) (setA 0) 25 ∧ Below w.heap.size w V
theorem Ht2.below {w : World} {a : Option Addr} {cap : Nat} {ls : List Nat} {V V' : World} (h : Ht2 w a cap ls V) (hb : Below V.heap.size V V') : Ht2 w a cap ls V' := ⟨h.1.below hb h.1.lt, h.2.1.below hb h.2.1.lt, h.2.2.trans (hb.mono h.2.2.size)⟩

set_option maxRecDepth 100000 in
set_option maxHeartbeats 4000000 in
theorem hit_any (a : Option Addr) (cap : Nat) (ls : List Nat) (w : World) (hg : Gl w) (hls : ∀ N ∈ ls, N < 2 ^ 256) (hl : ls.length ≤ 9223372036854775807) (hs : SetCells w a ls) (ho : ∀ ad, a = some ad → ad.block < w.heap.size) :
    Calls Tryd.prog 55 #[.slice a ls.length cap] w fun e w' => e = .returned (hitR ls) ∧ Below w.heap.size w w' := by
  have hmf : ∀ (fn : Fn) (first cap : Array Value) (w : World), (Instr.makeFunc fn first cap).run Tryd.prog w = .ok (.func fn first cap) w := fun _ _ _ _ => rfl
  have HS := Lib.hid hs
  have HO := Lib.hid ho
  have HLS := Lib.hid hls
  have HG := Lib.hid hg
  have h6 := hg.size
  clear hs ho hls hg
  by_cases hlen : 16 < ls.length
  · have HR : Hid (hitR ls = .tuple #[setV 0, .bool false, .int .i64 2]) := by unfold Hid hitR; rw [if_pos hlen]
    go_enter Tryd.func55, Tryd.ntmps55
    go_wp2_with fail
    refine named (fun V => Blk V (w.heap.size + 1) (setA 0) 25 ∧ Below w.heap.size w V) ⟨Blk.newS1 _ _ _, below_new2 _ _ _⟩ ?_
    rintro V ⟨hB, hbV⟩
    obtain ⟨q0, q1, q2, q3, _⟩ := hB.set4
    exact bodyPost_ret (v := .tuple #[setV 0, .bool false, .int .i64 2]) (by simp [results, Tryd.results55, go_sem, q0, q1, q2, q3, setV]) rfl ⟨by rw [HR.out], hbV⟩
  · have hlen' : ls.length ≤ 16 := by omega
    by_cases hz : ls.any (eqS 0) = true
    · have HR : Hid (hitR ls = .tuple #[setV 0, .bool false, .int .i64 0]) := by unfold Hid hitR; rw [if_neg hlen, if_pos hz]
      clear hlen
      go_enter Tryd.func55, Tryd.ntmps55
      go_wp2_with (first | (go_at_call 76; refine Calls.named (fun V => Ht2 w a cap ls V) ⟨(Blk.new _ _ _).alloc _, Blk.newS1 _ _ _, below_new2 _ _ _⟩ ?_; rintro W1 hW1; refine (contains0 a cap ls W1 hl (HS.out.below HO.out hW1.2.2) (fun ad e => Nat.lt_of_lt_of_le (HO.out ad e) hW1.2.2.size)).mono ?_; rintro e W2 ⟨rfl, hb2⟩; have H2 := Lib.hid (hW1.below hb2); clear hW1 hb2; obtain ⟨cl, fl⟩ := H2.out.1.cell1; obtain ⟨z0, z1, z2, z3, zf⟩ := H2.out.2.1.set4; have hl2 := H2.out.1.lt; have hl3 := H2.out.2.1.lt))
      refine named (fun V => Blk V (w.heap.size + 1) (setA 0) 25 ∧ Below w.heap.size w V) ⟨by rw [setA_zero]; exact H2.out.2.1.put4 rfl _ _ _ _, below_put4 H2.out.2.2 (Nat.le_succ _) _ _ _ _⟩ ?_
      rintro V ⟨hB, hbV⟩
      obtain ⟨q0, q1, q2, q3, _⟩ := hB.set4
      exact bodyPost_ret (v := .tuple #[setV 0, .bool false, .int .i64 0]) (by simp [results, Tryd.results55, go_sem, q0, q1, q2, q3, setV]) rfl ⟨by rw [HR.out], hbV⟩
    · have hz' : ls.any (eqS 0) = false := by simpa using hz
      have HR : Hid (hitR ls = .tuple #[setV (hitV ls (2 ^ ls.length - 1)), .bool true, .int .i64 0]) := by unfold Hid hitR; rw [if_neg hlen, if_neg hz]
      clear hlen hz
      go_enter Tryd.func55, Tryd.ntmps55
      go_upto_region 6 with (first | (go_at_call 76; refine Calls.named (fun V => Ht2 w a cap ls V) ⟨(Blk.new _ _ _).alloc _, Blk.newS1 _ _ _, below_new2 _ _ _⟩ ?_; rintro W1 hW1; refine (contains0 a cap ls W1 hl (HS.out.below HO.out hW1.2.2) (fun ad e => Nat.lt_of_lt_of_le (HO.out ad e) hW1.2.2.size)).mono ?_; rintro e W2 ⟨rfl, hb2⟩; have H2 := Lib.hid (hW1.below hb2); clear hW1 hb2; obtain ⟨cl, fl⟩ := H2.out.1.cell1; obtain ⟨z0, z1, z2, z3, zf⟩ := H2.out.2.1.set4; have hl2 := H2.out.1.lt; have hl3 := H2.out.2.1.lt) | (go_at_call 77; refine (holders_any a cap ls W2 (HG.out.below H2.out.2.2) HLS.out hlen' (HS.out.below HO.out H2.out.2.2) (fun ad e => Nat.lt_of_lt_of_le (HO.out ad e) H2.out.2.2.size)).mono ?_; rintro e W3 ⟨rfl, hb3⟩; have H3 := Lib.hid (H2.out.below hb3); clear hb3 cl fl z0 z1 z2 z3 zf hl2 hl3; obtain ⟨cl, fl⟩ := H3.out.1.cell1; have hl2 := H3.out.1.lt; have hl3 := H3.out.2.1.lt; have hst := store_new76 W3 (hold ls ls.length)))
      refine named (fun V => Ht2 w a cap ls V ∧ Blk V W3.heap.size (hasA (hold ls ls.length)) 76 ∧ W3.heap.size + 1 = V.heap.size) ⟨?_, blk_setRow (cs := Tryd.zeroCells76) (Blk.new _ _ _) _, by simp⟩ ?_
      · have h1 := H3.out.below (below_new1 W3 (.cells Tryd.zeroCells76 76))
        exact ⟨(setRow_other _ _ _ _ (by omega)).trans h1.1, (setRow_other _ _ _ _ (by omega)).trans h1.2.1, h1.2.2.trans ⟨rfl, rfl, rfl, by simp, fun j hj => setRow_other _ _ _ _ (by omega)⟩⟩
      rintro V ⟨hV, hVs, hsz⟩
      have HV := Lib.hid hV
      have HVS := Lib.hid hVs
      obtain ⟨M, hM⟩ : ∃ M, M = 2 ^ ls.length := ⟨_, rfl⟩
      have hM1 : 1 ≤ M := by rw [hM]; exact Nat.one_le_two_pow
      have hM16 : M ≤ 65536 := by rw [hM]; exact Nat.pow_le_pow_right (n := 2) (by decide) hlen'
      have hsh : IntKind.i64.wrap (2 ^ ls.length) = (M : Int) := by rw [hM]; exact wrap_pow_i64 _ (by omega)
      obtain ⟨i0, hi0, hz0, hz1, hz2⟩ := info_parts infoSet
      obtain ⟨j0, hj0, hy0, hy1, hy2⟩ := info_parts infoBool
      have HM := Lib.hid hM
      clear hM hV hVs cl fl hst
      obtain ⟨cl, fl⟩ := HV.out.1.cell1
      have hv2 := HV.out.1.lt
      have hcast : (M : Int) - 1 + 1 = (M : Int) := by omega
      go_upto_region 8 with (first | (at_make; refine wpList_make_full _ rfl _ _ 54 rfl 0 25 i0 _ 4 Tryd.underlying54 hi0 hz0 hz1 .i64 .i64 (M : Int) (M : Int) M rfl rfl rfl rfl (by rw [hz2]; omega) (by simp only [maxLen]; omega) (Nat.zero_le _) ?_; intro V1 hown hgr; have HB1 := Lib.hid (owns_full hown); have HV1 : Hid (Below V.heap.size V V1) := ⟨hgr.os, hgr.tape, hgr.output, hgr.size, fun k hk => hgr.block k hk (by simp)⟩; clear hown hgr))
      refine named (fun X => Ht2 w a cap ls X ∧ Blk X W3.heap.size (hasA (hold ls ls.length)) 76 ∧ Blk X V.heap.size (beA M fun _ => 0) 25 ∧ Blk X V1.heap.size #[.slice (some ⟨V.heap.size, 0, none⟩) M M] 54 ∧ V1.heap.size + 1 = X.heap.size ∧ V.heap.size < V1.heap.size)
        ⟨(HV.out.below HV1.out).below (below_new1 _ _), (HVS.out.below HV1.out HVS.out.lt).alloc _, by rw [← made_be]; exact HB1.out.alloc _, Blk.new _ _ _, by simp, HB1.out.lt⟩ ?_
      rintro X ⟨x1, x2, x3, x4, x5, x6⟩
      have X1 := Lib.hid x1
      have X2 := Lib.hid x2
      have X3 := Lib.hid x3
      have X4 := Lib.hid x4
      clear cl fl hv2 x1 x2 x3 x4 hi0 hz0 hz1 hz2
      go_upto_region 9 with (first | (at_make; refine wpList_make_full _ rfl _ _ 78 rfl 0 4 j0 _ 1 Tryd.underlying78 hj0 hy0 hy1 .i64 .i64 (M : Int) (M : Int) M rfl rfl rfl rfl (by rw [hy2]; omega) (by simp only [maxLen]; omega) (Nat.zero_le _) ?_; intro Y1 hown hgr; have HB2 := Lib.hid (owns_full hown); have HY1 : Hid (Below X.heap.size X Y1) := ⟨hgr.os, hgr.tape, hgr.output, hgr.size, fun k hk => hgr.block k hk (by simp)⟩; clear hown hgr))
      refine named (fun Y => Ht2 w a cap ls Y ∧ Blk Y W3.heap.size (hasA (hold ls ls.length)) 76 ∧ Blk Y V.heap.size (beA M fun _ => 0) 25 ∧ Blk Y V1.heap.size #[.slice (some ⟨V.heap.size, 0, none⟩) M M] 54 ∧ Blk Y X.heap.size (knA M fun _ => false) 4 ∧ Blk Y Y1.heap.size #[.slice (some ⟨X.heap.size, 0, none⟩) M M] 78 ∧ Y1.heap.size + 1 = Y.heap.size ∧ X.heap.size < Y1.heap.size)
        ⟨(X1.out.below HY1.out).below (below_new1 _ _), (X2.out.below HY1.out X2.out.lt).alloc _, (X3.out.below HY1.out X3.out.lt).alloc _, (X4.out.below HY1.out X4.out.lt).alloc _, by rw [← made_kn]; exact HB2.out.alloc _, Blk.new _ _ _, by simp, HB2.out.lt⟩ ?_
      rintro Y ⟨y1, y2, y3, y4, y5, y6, y7, y8⟩
      have Y1' := Lib.hid y1
      have Y2 := Lib.hid y2
      have Y3 := Lib.hid y3
      have Y4 := Lib.hid y4
      have Y5 := Lib.hid y5
      have Y6 := Lib.hid y6
      obtain ⟨ck, fk⟩ := y6.cell1
      have k0 : Y.cell? ⟨X.heap.size, 0, none⟩ = some (.bool false) := by rw [y5.cell, knA_get M _ 0 (by omega)]
      have kf := y5.frozen 0
      have l5 := y5.lt
      clear y1 y2 y3 y4 y5 y6 hj0 hy0 hy1 hy2
      go_upto_region 10 with (fail)
      refine named (fun Z => Ht2 w a cap ls Z ∧ Blk Z W3.heap.size (hasA (hold ls ls.length)) 76 ∧ Blk Z V.heap.size (beA M fun _ => 0) 25 ∧ Blk Z V1.heap.size #[.slice (some ⟨V.heap.size, 0, none⟩) M M] 54 ∧ Blk Z X.heap.size (knA M (updB (fun _ => false) 0 true)) 4 ∧ Blk Z Y1.heap.size #[.slice (some ⟨X.heap.size, 0, none⟩) M M] 78 ∧ Z.heap.size = Y.heap.size)
        ⟨⟨Y1'.out.1.other _ _ (by simp; omega), Y1'.out.2.1.other _ _ (by simp; omega), Y1'.out.2.2.setCell (by simp; omega) _⟩, Y2.out.other _ _ (by simp; omega), Y3.out.other _ _ (by simp; omega), Y4.out.other _ _ (by simp; omega), by have e := Y5.out.set 0 (.bool true); rw [knA_set _ _ _ _ (by omega)] at e; exact e, Y6.out.other _ _ (by simp; omega), by simp [World.setCell]⟩ ?_
      rintro Z ⟨z1, z2, z3, z4, z5, z6, z7⟩
      clear ck fk k0 kf
      go_upto_region 11 with (fail)
      refine named (fun Q => Ht2 w a cap ls Q ∧ Blk Q W3.heap.size (hasA (hold ls ls.length)) 76 ∧ Blk Q V.heap.size (beA M fun _ => 0) 25 ∧ Blk Q V1.heap.size #[.slice (some ⟨V.heap.size, 0, none⟩) M M] 54 ∧ Blk Q X.heap.size (knA M (updB (fun _ => false) 0 true)) 4 ∧ Blk Q Y1.heap.size #[.slice (some ⟨X.heap.size, 0, none⟩) M M] 78 ∧ Blk Q Y.heap.size #[.nilFunc] 79)
        ⟨z1.below (below_new1 _ _), z2.alloc _, z3.alloc _, z4.alloc _, z5.alloc _, z6.alloc _, by rw [← z7]; exact Blk.new _ _ _⟩ ?_
      rintro Q ⟨q1, q2, q3, q4, q5, q6, q8⟩
      obtain ⟨cq, fq⟩ := q8.cell1
      go_upto_region 12 with (fail)
      have hlo := HV.out.2.2.size
      refine named (fun R => Ht2 w a cap ls R ∧ HtEnv Y1.heap.size V1.heap.size w.heap.size Y.heap.size W3.heap.size X.heap.size V.heap.size a cap M ls R ∧ Memo X.heap.size V.heap.size M (updB (fun _ => false) 0 true) (fun _ => 0) R) ⟨?h1, ?h2, ?h3⟩ ?_
      case h1 => exact ⟨q1.1.other _ _ (by simp; omega), q1.2.1.other _ _ (by simp; omega), q1.2.2.setCell (by simp; omega) _⟩
      case h2 =>
        have hb : Below w.heap.size w (Q.setCell ⟨Y.heap.size, 0, none⟩ (.func (.func 78) #[] #[.pointer (some ⟨Y1.heap.size, 0, none⟩), .pointer (some ⟨V1.heap.size, 0, none⟩), .pointer (some ⟨w.heap.size, 0, none⟩), .pointer (some ⟨Y.heap.size, 0, none⟩), .pointer (some ⟨W3.heap.size, 0, none⟩)])) := q1.2.2.setCell (by simp; omega) _
        exact ⟨q6.other _ _ (by simp; omega), q4.other _ _ (by simp; omega), q1.1.other _ _ (by simp; omega), q8.put1 _, q2.other _ _ (by simp; omega), HS.out.below HO.out hb, HG.out.below hb⟩
      case h3 => exact ⟨q5.other _ _ (by simp; omega), q3.other _ _ (by simp; omega)⟩
      rintro R ⟨r1, rE, rM⟩
      have hfix : HtFix Y1.heap.size V1.heap.size w.heap.size Y.heap.size W3.heap.size X.heap.size V.heap.size M a ls := {
        sets := fun N hN => ⟨HLS.out N hN, fun e => by
          have : ls.any (eqS 0) = true := List.any_eq_true.2 ⟨N, hN, by rw [e]; simp [eqS]⟩
          rw [hz'] at this; cases this⟩
        len := hlen'
        M := HM.out
        g6 := by omega
        ne := by omega
        old := fun ad e => by have := HO.out ad e; omega }
      have hcall := hit1_in _ _ _ _ _ _ _ a cap M ls hfix (M - 1) R _ _ (by omega) rE rM ⟨fun x _ hk => by
        by_cases e : x = 0
        · rw [e, hitV_zero]
        · simp [updB, e] at hk, by simp [updB]⟩
      rw [show ((M - 1 : Nat) : Int) = (M : Int) - 1 by omega] at hcall
      have HCALL := Lib.hid hcall
      have R1 := Lib.hid r1
      obtain ⟨ch, fh⟩ := rE.eh.cell1
      clear hcall r1 rM q1 q2 q3 q4 q5 q6 q8 cq fq z1 z2 z3 z4 z5 z6 hfix rE
      go_wp2_with (refine HCALL.out.mono ?_; rintro e w5 ⟨rfl, hbut, _⟩; simp only [setV]; have hS : Blk w5 (w.heap.size + 1) (setA 0) 25 := (hbut.blk R1.out.2.1 (by unfold Sm; omega)); have HS5 := Lib.hid hS; have HW5 : Hid (Below w.heap.size w w5) := R1.out.2.2.trans (hbut.below R1.out.2.2.size (fun j hj => by unfold Sm; omega)); clear hbut; obtain ⟨p0, p1, p2, p3, pf⟩ := hS.set4; clear hS)
      refine named (fun U => Blk U (w.heap.size + 1) (setA (hitV ls (M - 1))) 25 ∧ Below w.heap.size w U) ⟨HS5.out.put4 rfl _ _ _ _, below_put4 HW5.out (Nat.le_succ _) _ _ _ _⟩ ?_
      rintro U ⟨hB, hbU⟩
      obtain ⟨q0, q1, q2, q3, _⟩ := hB.set4
      exact bodyPost_ret (v := .tuple #[setV (hitV ls (M - 1)), .bool true, .int .i64 0]) (by simp [results, Tryd.results55, go_sem, q0, q1, q2, q3, setV]) rfl ⟨by rw [HR.out, HM.out], hbU⟩
end Go.Proofs.YtjifajigigflkaaDoor
