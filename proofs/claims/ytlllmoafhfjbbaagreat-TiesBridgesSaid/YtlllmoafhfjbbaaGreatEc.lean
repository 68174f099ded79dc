/- Layer 4: Strong and Without of the program. -/
import Derived.Test.YtlllmoafhfjbbaaGreatEb
namespace Go.Proofs.YtlllmoafhfjbbaaGreat
set_option linter.unusedSimpArgs false
set_option linter.unusedVariables false
open Go Go.RowKit

set_option maxRecDepth 100000 in
theorem strongFn_any (t : TieD) (bs : Nat) (s : Int) (w : World) (h : Blk w bs [.int .i64 s] 3) :
    Calls Tryz.prog 77 #[tieV t, .pointer (some ⟨bs, 0, none⟩)] w fun e w' => e = .returned (.bool (decide (s ≤ t.str))) ∧ Below w.heap.size w w' := by
  have hb : Blk (w.alloc (.cells #[.int .i64 t.a, .int .i64 t.b, .int .i64 t.kind, .int .i64 t.str, .int .i64 t.src] 33)) bs [.int .i64 s] 3 := h.block (Below.heap_alloc _ _ _ h.lt)
  have c0 := hb.cell (i := 0) rfl
  obtain ⟨v, hv⟩ : ∃ v, v = decide (s ≤ t.str) := ⟨_, rfl⟩
  rw [← hv]
  have HV := Lib.hid hv
  obtain ⟨ya, yb, yk, ys, yr⟩ := t
  simp only at c0 HV
  clear hb h hv
  go_enter Tryz.func77, Tryz.ntmps77
  simp only [tieV]
  go_wp2_with fail
  all_goals (
    go_ret
    exact ⟨by rw [HV.out]; (first | rfl | simp_all), (Below.refl _ _).alloc (Nat.le_refl _) _⟩)
set_option maxRecDepth 100000 in
set_option maxHeartbeats 2000000 in
theorem strong_any (s : Int) (n : Int) (a : Option Addr) (cap : Nat) (ts : List TieD) (w : World) (hl : ts.length ≤ 1000) (hs : TiesAt w a ts) :
    Calls Tryz.prog 55 #[gV n a ts.length cap, .int .i64 s] w (GRet n (ts.filter fun t => decide (s ≤ t.str)) w) := by
  have HH : Hid (∀ W bs, Below w.heap.size w W → Blk W bs [.int .i64 s] 3 → Calls Tryz.prog 39 #[gV n a ts.length cap, .func (.func 77) #[] #[.pointer (some ⟨bs, 0, none⟩)]] W (GRet n (ts.filter fun t => decide (s ≤ t.str)) W)) := fun W bs hb hk =>
    having_strong (fun t => decide (s ≤ t.str)) bs n a cap ts W hl (hs.below hb) fun t W' _ hb' => strongFn_any t bs s W' (hk.below hb')
  generalize (ts.filter fun t => decide (s ≤ t.str)) = F at *
  obtain ⟨m, hm⟩ : ∃ m, m = ts.length := ⟨_, rfl⟩
  rw [← hm] at hl HH ⊢
  clear hm hs
  have hmf : ∀ (fn : Fn) (first cap : Array Value) (w : World), (Instr.makeFunc fn first cap).run Tryz.prog w = .ok (.func fn first cap) w := fun _ _ _ _ => rfl
  unfold GRet at HH ⊢
  go_enter Tryz.func55, Tryz.ntmps55
  simp only [gV] at HH ⊢
  go_upto_region 1 with (fail)
  refine named (fun V => Hid (Below w.heap.size w V) ∧ Hid (Blk V w.heap.size [.int .i64 n, .slice a m cap] 24) ∧ Hid (Blk V (w.heap.size + 1) [.int .i64 s] 3) ∧ Hid (Blk V (w.heap.size + 1 + 1) [.int .i64 0, .slice none 0 0] 24)) ?_ ?_
  · have b1 := Blk.new w [.int .i64 n, .slice a m cap] 24
    have b2 := Blk.new (w.alloc (.cells #[.int .i64 n, .slice a m cap] 24)) [.int .i64 s] 3
    have b3 := Blk.new ((w.alloc (.cells #[.int .i64 n, .slice a m cap] 24)).alloc (.cells #[.int .i64 s] 3)) [.int .i64 0, .slice none 0 0] 24
    refine ⟨(((Below.refl _ _).alloc (Nat.le_refl _) _).alloc (by simp) _).alloc (by simp; omega) _, (b1.block (Below.heap_alloc _ _ _ (by simp))).block (Below.heap_alloc _ _ _ (by simp; omega)), ?_, ?_⟩
    · have := b2.block (Below.heap_alloc _ (.cells #[.int .i64 0, .slice none 0 0] 24) _ b2.lt)
      simpa [Hid] using this
    · simpa [Hid] using b3
  rintro W0 ⟨FB, K1, K3, K4⟩
  generalize hb1 : w.heap.size = b1 at K1 K3 K4 ⊢
  generalize hb3 : b1 + 1 = b3 at K3 K4 ⊢
  generalize hb4 : b3 + 1 = b4 at K4 ⊢
  have HBB : Hid (w.heap.size ≤ b4) := by rw [Hid]; omega
  have c0 := K1.out.cell (i := 0) rfl
  have c1 := K1.out.cell (i := 1) rfl
  clear hb1 hb3 hb4
  go_wp2_with (first | (go_at_call 39; refine (HH.out _ _ FB.out K3.out).mono ?_; rintro e w5 ⟨a9, c9, rfl, hT, hb5⟩; clear HH; have HT := Lib.hid hT; have HB5 := Lib.hid (FB.out.trans (hb5.mono FB.out.size)); have H4 := Lib.hid (K4.out.below hb5); clear hT hb5; have d0 := H4.out.cell (i := 0) rfl; have d1 := H4.out.cell (i := 1) rfl; have f0 := H4.out.frozen 0; have f1 := H4.out.frozen 1))
  refine named (fun V => Blk V b4 [.int .i64 n, .slice a9 F.length c9] 24 ∧ TiesNew w.heap.size V a9 F ∧ Below w.heap.size w V) ?_ ?_
  · have o1 : Only b4 w5 ((w5.setCell ⟨b4, 0, none⟩ (.int .i64 n)).setCell ⟨b4, 1, none⟩ (.slice a9 F.length c9)) := ((Only.refl b4 w5).set_ 0 _).set_ 1 _
    exact ⟨(H4.out.set_ 0 _).set_ 1 _, (HT.out.only o1 K4.out.lt).mono FB.out.size, (HB5.out.setCell HBB.out _).setCell HBB.out _⟩
  rintro V ⟨V1, V2, V3⟩
  have e0 := V1.cell (i := 0) rfl
  have e1 := V1.cell (i := 1) rfl
  refine bodyPost_ret (v := .agg #[.int .i64 n, .slice a9 F.length c9]) (by simp [results, Tryz.results55, go_sem, e0, e1]) rfl ?_
  exact ⟨a9, c9, rfl, V2, V3⟩
set_option maxRecDepth 100000 in
theorem withoutFn_any (t : TieD) (bs : Nat) (s : Int) (w : World) (h : Blk w bs [.int .i64 s] 3) :
    Calls Tryz.prog 68 #[tieV t, .pointer (some ⟨bs, 0, none⟩)] w fun e w' => e = .returned (.bool (!(t.src == s))) ∧ Below w.heap.size w w' := by
  have hb : Blk (w.alloc (.cells #[.int .i64 t.a, .int .i64 t.b, .int .i64 t.kind, .int .i64 t.str, .int .i64 t.src] 33)) bs [.int .i64 s] 3 := h.block (Below.heap_alloc _ _ _ h.lt)
  have c0 := hb.cell (i := 0) rfl
  obtain ⟨v, hv⟩ : ∃ v, v = !(t.src == s) := ⟨_, rfl⟩
  rw [← hv]
  have HV := Lib.hid hv
  obtain ⟨ya, yb, yk, ys, yr⟩ := t
  simp only at c0 HV
  clear hb h hv
  go_enter Tryz.func68, Tryz.ntmps68
  simp only [tieV]
  go_wp2_with fail
  all_goals (
    go_ret
    exact ⟨by rw [HV.out]; (first | rfl | simp_all), (Below.refl _ _).alloc (Nat.le_refl _) _⟩)
set_option maxRecDepth 100000 in
set_option maxHeartbeats 2000000 in
theorem without_any (s : Int) (n : Int) (a : Option Addr) (cap : Nat) (ts : List TieD) (w : World) (hl : ts.length ≤ 1000) (hs : TiesAt w a ts) :
    Calls Tryz.prog 44 #[gV n a ts.length cap, .int .i64 s] w (GRet n (ts.filter fun t => !(t.src == s)) w) := by
  have HH : Hid (∀ W bs, Below w.heap.size w W → Blk W bs [.int .i64 s] 3 → Calls Tryz.prog 39 #[gV n a ts.length cap, .func (.func 68) #[] #[.pointer (some ⟨bs, 0, none⟩)]] W (GRet n (ts.filter fun t => !(t.src == s)) W)) := fun W bs hb hk =>
    having_without (fun t => !(t.src == s)) bs n a cap ts W hl (hs.below hb) fun t W' _ hb' => withoutFn_any t bs s W' (hk.below hb')
  generalize (ts.filter fun t => !(t.src == s)) = F at *
  obtain ⟨m, hm⟩ : ∃ m, m = ts.length := ⟨_, rfl⟩
  rw [← hm] at hl HH ⊢
  clear hm hs
  have hmf : ∀ (fn : Fn) (first cap : Array Value) (w : World), (Instr.makeFunc fn first cap).run Tryz.prog w = .ok (.func fn first cap) w := fun _ _ _ _ => rfl
  unfold GRet at HH ⊢
  go_enter Tryz.func44, Tryz.ntmps44
  simp only [gV] at HH ⊢
  go_upto_region 1 with (fail)
  refine named (fun V => Hid (Below w.heap.size w V) ∧ Hid (Blk V w.heap.size [.int .i64 n, .slice a m cap] 24) ∧ Hid (Blk V (w.heap.size + 1) [.int .i64 s] 3) ∧ Hid (Blk V (w.heap.size + 1 + 1) [.int .i64 0, .slice none 0 0] 24)) ?_ ?_
  · have b1 := Blk.new w [.int .i64 n, .slice a m cap] 24
    have b2 := Blk.new (w.alloc (.cells #[.int .i64 n, .slice a m cap] 24)) [.int .i64 s] 3
    have b3 := Blk.new ((w.alloc (.cells #[.int .i64 n, .slice a m cap] 24)).alloc (.cells #[.int .i64 s] 3)) [.int .i64 0, .slice none 0 0] 24
    refine ⟨(((Below.refl _ _).alloc (Nat.le_refl _) _).alloc (by simp) _).alloc (by simp; omega) _, (b1.block (Below.heap_alloc _ _ _ (by simp))).block (Below.heap_alloc _ _ _ (by simp; omega)), ?_, ?_⟩
    · have := b2.block (Below.heap_alloc _ (.cells #[.int .i64 0, .slice none 0 0] 24) _ b2.lt)
      simpa [Hid] using this
    · simpa [Hid] using b3
  rintro W0 ⟨FB, K1, K3, K4⟩
  generalize hb1 : w.heap.size = b1 at K1 K3 K4 ⊢
  generalize hb3 : b1 + 1 = b3 at K3 K4 ⊢
  generalize hb4 : b3 + 1 = b4 at K4 ⊢
  have HBB : Hid (w.heap.size ≤ b4) := by rw [Hid]; omega
  have c0 := K1.out.cell (i := 0) rfl
  have c1 := K1.out.cell (i := 1) rfl
  clear hb1 hb3 hb4
  go_wp2_with (first | (go_at_call 39; refine (HH.out _ _ FB.out K3.out).mono ?_; rintro e w5 ⟨a9, c9, rfl, hT, hb5⟩; clear HH; have HT := Lib.hid hT; have HB5 := Lib.hid (FB.out.trans (hb5.mono FB.out.size)); have H4 := Lib.hid (K4.out.below hb5); clear hT hb5; have d0 := H4.out.cell (i := 0) rfl; have d1 := H4.out.cell (i := 1) rfl; have f0 := H4.out.frozen 0; have f1 := H4.out.frozen 1))
  refine named (fun V => Blk V b4 [.int .i64 n, .slice a9 F.length c9] 24 ∧ TiesNew w.heap.size V a9 F ∧ Below w.heap.size w V) ?_ ?_
  · have o1 : Only b4 w5 ((w5.setCell ⟨b4, 0, none⟩ (.int .i64 n)).setCell ⟨b4, 1, none⟩ (.slice a9 F.length c9)) := ((Only.refl b4 w5).set_ 0 _).set_ 1 _
    exact ⟨(H4.out.set_ 0 _).set_ 1 _, (HT.out.only o1 K4.out.lt).mono FB.out.size, (HB5.out.setCell HBB.out _).setCell HBB.out _⟩
  rintro V ⟨V1, V2, V3⟩
  have e0 := V1.cell (i := 0) rfl
  have e1 := V1.cell (i := 1) rfl
  refine bodyPost_ret (v := .agg #[.int .i64 n, .slice a9 F.length c9]) (by simp [results, Tryz.results44, go_sem, e0, e1]) rfl ?_
  exact ⟨a9, c9, rfl, V2, V3⟩
end Go.Proofs.YtlllmoafhfjbbaaGreat
