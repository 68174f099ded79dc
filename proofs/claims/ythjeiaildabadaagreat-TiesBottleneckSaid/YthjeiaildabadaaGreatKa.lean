/- Layer 4: what the search finds: plain mathematics. / Layer 4: CheckChain; a graph without one tie. / Layer 4: a graph without one tie. / Layer 4: leftOut. / Layer 4: unite, with what it answers; words for Bridges. / Layer 4: the way back, walked. -/
import Derived.Test.YthjeiaildabadaaGreatK9
import Derived.Test.YthjeiaildabadaaGreatK6
import Derived.Test.YthjeiaildabadaaGreatIz
/- Layer 4: what the search finds: plain mathematics. -/
namespace Go.Proofs.YthjeiaildabadaaGreat
set_option linter.unusedSimpArgs false
set_option linter.unusedVariables false
open Go Go.RowKit

/-- The way back: from p to first, over ties in this order. -/
inductive Bk (c : List StepD) (first : Plc) : Plc → List Int → Prop
  | stop : Bk c first first []
  | step {p : Plc} {s : StepD} {l : List Int} : p ≠ first → p.1 < 32 → p.2 < 2 → c[plI p]? = some s → s.done = true → Bk c first (s.fn, s.fc) l → Bk c first p (s.tie :: l)
theorem pl_inj {p p' : Plc} (h : p.2 < 2) (h' : p'.2 < 2) (e : plI p = plI p') : p = p' := by
  obtain ⟨a, b⟩ := p
  obtain ⟨a', b'⟩ := p'
  unfold plI at e
  simp only at e h h'
  have h1 : a = a' := by omega
  have h2 : b = b' := by omega
  rw [h1, h2]
theorem leadF_snoc {ts : List TieD} {l : List Int} {i : Int} {p x : Int × Int} (h : leadF ts l p = some x) : leadF ts (l ++ [i]) p = stepF ts x i := by
  unfold leadF at *
  rw [List.foldlM_append, h]
  simp only [List.foldlM_cons, List.foldlM_nil, bind_pure]; rfl
theorem came_done {c : List StepD} {h nx p : Plc} {k : Nat} (hl : plI nx < c.length) : doneB (came c h k nx) p = (decide (plI p = plI nx) || doneB c p) := by
  unfold doneB came
  rw [List.getElem?_set]
  by_cases e : plI nx = plI p
  · rw [if_pos e, if_pos (e ▸ hl), decide_eq_true e.symm]; rfl
  · rw [if_neg e, decide_eq_false (fun h => e h.symm)]; rfl
theorem came_keeps {c : List StepD} {h nx p : Plc} {k : Nat} (hl : plI nx < c.length) (hp : doneB c p = true) : doneB (came c h k nx) p = true := by rw [came_done hl, hp, Bool.or_true]
/-- The way back stays as it was where a place that was not done is done now. -/
theorem Bk.came {c : List StepD} {first h nx : Plc} {k : Nat} (hnx2 : nx.2 < 2) (hdn : doneB c nx = false) {p : Plc} {l : List Int} (hb : Bk c first p l) : Bk (came c h k nx) first p l := by
  induction hb with
  | stop => exact .stop
  | @step p s l hne h1 h2 hs hd hb ih =>
    have hpn : plI p ≠ plI nx := fun e => by
      unfold doneB at hdn
      rw [← e, hs] at hdn
      simp [hd] at hdn
    refine .step hne h1 h2 ?_ hd ih
    show (List.set c (plI nx) _)[plI p]? = some s
    rw [List.getElem?_set, if_neg (fun e => hpn e.symm)]; exact hs
/-- Over the tie k one comes from h to nx. -/
def Over (ts : List TieD) (h : Plc) (k : Nat) (nx : Plc) : Prop := ∃ t, ts[k]? = some t ∧ othF t h.1 = ((nx.1 : Int), true) ∧ nx.2 = h.2 + cutN t
theorem over_step {ts : List TieD} {h nx : Plc} {k : Nat} (ho : Over ts h k nx) : stepF ts ((h.1 : Int), (h.2 : Int)) (k : Int) = some ((nx.1 : Int), (nx.2 : Int)) := by
  obtain ⟨t, h1, h2, h3⟩ := ho
  obtain ⟨hk, rfl⟩ := List.getElem?_eq_some_iff.1 h1
  rw [stepF_at hk, h2, if_pos rfl, h3, ← cutN_I]
  simp
/-- What is known of the search. -/
structure Good (ts : List TieD) (n cuts a : Nat) (s : Option (Plc × Nat)) (c : List StepD) (q : List Plc) : Prop where
  ok : SOk n cuts s c q
  first : doneB c (a, 0) = true
  que : ∀ p ∈ q, doneB c p = true
  here : ∀ h k, s = some (h, k) → doneB c h = true
  way : ∀ p : Plc, p.1 < n → p.2 ≤ cuts → doneB c p = true → ∃ l, Bk c (a, 0) p l ∧ leadF ts l.reverse ((a : Int), 0) = some ((p.1 : Int), (p.2 : Int)) ∧ l.length + undone c < 64
  all : ∀ p : Plc, p.1 < n → p.2 ≤ cuts → doneB c p = true → p ∉ q → ∀ j nx, Over ts p j nx → nx.2 ≤ cuts → (∀ k, s = some (p, k) → j < k) → doneB c nx = true
theorem good_take {ts : List TieD} {n cuts a k : Nat} {h nx : Plc} {c : List StepD} {q q' : List Plc} {s : Option (Plc × Nat)} (hn : n ≤ 32) (hc : cuts ≤ 1) (hv : ∀ t ∈ ts, tieB t n = true) (hg : Good ts n cuts a (some (h, k)) c q) (ht : Takes ts cuts c h k nx) :
    ∀ p : Plc, p.1 < n → p.2 ≤ cuts → doneB (came c h k nx) p = true → ∃ l, Bk (came c h k nx) (a, 0) p l ∧ leadF ts l.reverse ((a : Int), 0) = some ((p.1 : Int), (p.2 : Int)) ∧ l.length + undone (came c h k nx) < 64 := by
  obtain ⟨t, h1, h2, h3, h4, h5⟩ := ht
  have hnx1 : nx.1 < n := by have := oth_in (hv t (List.mem_of_getElem? h1)) h2; omega
  have hl : plI nx < c.length := by rw [hg.ok.len]; exact pl_lt hn hc hnx1 h4
  have hu := undone_take (h := h) (k := k) hl h5
  intro p hp1 hp2 hpd
  by_cases hpn : p = nx
  · subst hpn
    obtain ⟨hh1, hh2⟩ := hg.ok.here _ _ rfl
    obtain ⟨l, b1, b2, b3⟩ := hg.way h hh1 hh2 (hg.here _ _ rfl)
    have hne : p ≠ (a, 0) := fun e => by rw [e, hg.first] at h5; cases h5
    refine ⟨(k : Int) :: l, .step (s := ⟨k, h.1, h.2, true⟩) hne (by omega) (by omega) ?_ rfl (b1.came (by omega) h5), ?_, ?_⟩
    · show (List.set c (plI p) _)[plI p]? = _
      rw [List.getElem?_set, if_pos rfl, if_pos hl]
    · rw [List.reverse_cons, leadF_snoc b2]
      exact over_step ⟨t, h1, h2, h3⟩
    · rw [List.length_cons]; omega
  · have hpl : plI p ≠ plI nx := fun e => hpn (pl_inj (by omega) (by omega) e)
    rw [came_done hl, decide_eq_false hpl, Bool.false_or] at hpd
    obtain ⟨l, b1, b2, b3⟩ := hg.way p hp1 hp2 hpd
    exact ⟨l, b1.came (by omega) h5, b2, by omega⟩
theorem Srch.good {ts : List TieD} {cuts a n : Nat} {last : Plc} (hn : n ≤ 32) (hc : cuts ≤ 1) (hv : ∀ t ∈ ts, tieB t n = true) (ha : a < n) {s : Option (Plc × Nat)} {c : List StepD} {q : List Plc} (h : Srch ts cuts a last s c q) : Good ts n cuts a s c q := by
  induction h with
  | init =>
    have hok := Srch.ok hv ha (Srch.init (ts := ts) (cuts := cuts) (a := a) (last := last))
    have h64 : plI (a, 0) < 64 := by unfold plI; omega
    have hd : ∀ p : Plc, doneB ((List.replicate 64 zeroS).set (plI (a, 0)) ⟨0, 0, 0, true⟩) p = decide (plI p = plI (a, 0)) := fun p => by
      unfold doneB
      rw [List.getElem?_set]
      by_cases e : plI (a, 0) = plI p
      · rw [if_pos e, if_pos (by rw [List.length_replicate]; exact e ▸ h64), decide_eq_true e.symm]
      · rw [if_neg e, decide_eq_false (fun h => e h.symm), List.getElem?_replicate]
        by_cases h9 : plI p < 64
        · rw [if_pos h9]; rfl
        · rw [if_neg h9]
    have hu : undone ((List.replicate 64 zeroS).set (plI (a, 0)) ⟨0, 0, 0, true⟩) + 1 = 64 := by
      have h := undone_take (c := List.replicate 64 zeroS) (h := (0, 0)) (k := 0) (nx := (a, 0)) (by rw [List.length_replicate]; exact h64) (by unfold doneB; rw [List.getElem?_replicate, if_pos h64]; rfl)
      have h2 : undone (List.replicate 64 zeroS) = 64 := by decide
      rw [h2] at h; exact h
    refine ⟨hok, by rw [hd]; simp, fun p hp => by rw [List.mem_singleton.1 hp, hd]; simp, fun _ _ h => (by cases h), fun p hp1 hp2 hpd => ?_, fun p hp1 hp2 hpd hpq => ?_⟩
    · rw [hd] at hpd
      have e : p = (a, 0) := pl_inj (by omega) (by simp) (of_decide_eq_true hpd)
      subst e
      exact ⟨[], .stop, rfl, by show 0 + undone _ < 64; omega⟩
    · rw [hd] at hpd
      have e : p = (a, 0) := pl_inj (by omega) (by simp) (of_decide_eq_true hpd)
      exact absurd (by rw [e]; exact List.mem_singleton_self _) hpq
  | @pop c h q hs ih =>
    refine ⟨Srch.ok hv ha (.pop hs), ih.first, fun p hp => ih.que p (List.mem_cons_of_mem _ hp), fun h' k' e => ?_, ih.way, fun p hp1 hp2 hpd hpq j nx ho hnx hk => ?_⟩
    · injection e with e; injection e with e1 e2; subst e1; exact ih.que _ List.mem_cons_self
    · by_cases hph : p = h
      · subst hph; exact absurd (hk 0 rfl) (by omega)
      · exact ih.all p hp1 hp2 hpd (fun hm => by rcases List.mem_cons.1 hm with hm | hm; exact hph hm; exact hpq hm) j nx ho hnx (fun k e => by cases e)
  | @skip c h k q hs hk hno ih =>
    refine ⟨Srch.ok hv ha (.skip hs hk hno), ih.first, ih.que, fun h' k' e => by injection e with e; injection e with e1 e2; subst e1; exact ih.here _ _ rfl, ih.way, fun p hp1 hp2 hpd hpq j nx ho hnx hj => ?_⟩
    by_cases hph : p = h
    · subst hph
      have hjk := hj _ rfl
      by_cases hjk2 : j < k
      · exact ih.all p hp1 hp2 hpd hpq j nx ho hnx (fun k' e => by injection e with e; injection e with _ e; omega)
      · have e : j = k := by omega
        subst e
        cases hd : doneB c nx with
        | true => rfl
        | false =>
          obtain ⟨t, h1, h2, h3⟩ := ho
          exact absurd ⟨t, h1, h2, h3, hnx, hd⟩ (hno nx)
    · exact ih.all p hp1 hp2 hpd hpq j nx ho hnx (fun k' e => by injection e with e; injection e with e _; exact absurd e.symm hph)
  | @take c h k q nx hs hk ht hne ih =>
    have hok := Srch.ok hv ha (.take hs hk ht hne)
    have hway := good_take (q' := q) (s := none) hn hc hv ih ht
    obtain ⟨t, h1, h2, h3, h4, h5⟩ := ht
    have hnx1 : nx.1 < n := by have := oth_in (hv t (List.mem_of_getElem? h1)) h2; omega
    have hl : plI nx < c.length := by rw [ih.ok.len]; exact pl_lt hn hc hnx1 h4
    refine ⟨hok, came_keeps hl ih.first, fun p hp => ?_, fun h' k' e => ?_, hway, fun p hp1 hp2 hpd hpq j nx' ho hnx hj => ?_⟩
    · rcases List.mem_append.1 hp with hp | hp
      · exact came_keeps hl (ih.que p hp)
      · rw [List.mem_singleton.1 hp, came_done hl]; simp
    · injection e with e; injection e with e1 e2; subst e1; exact came_keeps hl (ih.here _ _ rfl)
    · have hpnx : p ≠ nx := fun e => hpq (by rw [e]; simp)
      have hpl : plI p ≠ plI nx := fun e => hpnx (pl_inj (by omega) (by omega) e)
      rw [came_done hl, decide_eq_false hpl, Bool.false_or] at hpd
      have hpq' : p ∉ q := fun hm => hpq (List.mem_append_left _ hm)
      by_cases hph : p = h
      · subst hph
        have hjk := hj _ rfl
        by_cases hjk2 : j < k
        · exact came_keeps hl (ih.all p hp1 hp2 hpd hpq' j nx' ho hnx (fun k' e => by injection e with e; injection e with _ e; omega))
        · have e : j = k := by omega
          subst e
          obtain ⟨t', g1, g2, g3⟩ := ho
          rw [h1] at g1
          injection g1 with g1
          subst g1
          rw [h2] at g2
          injection g2 with g2 _
          have : plI nx' = plI nx := by unfold plI; omega
          rw [came_done hl, decide_eq_true this, Bool.true_or]
      · exact came_keeps hl (ih.all p hp1 hp2 hpd hpq' j nx' ho hnx (fun k' e => by injection e with e; injection e with e _; exact absurd e.symm hph))
  | @next c h q hs ih =>
    refine ⟨Srch.ok hv ha (.next hs), ih.first, ih.que, fun _ _ e => (by cases e), ih.way, fun p hp1 hp2 hpd hpq j nx ho hnx _ => ?_⟩
    refine ih.all p hp1 hp2 hpd hpq j nx ho hnx (fun k' e => ?_)
    injection e with e; injection e with _ e
    obtain ⟨t, h1, _⟩ := ho
    have := (List.getElem?_eq_some_iff.1 h1).1
    omega
theorem lead_mono (ts : List TieD) : ∀ (l : List Int) (x c0 y c : Int), leadF ts l (x, c0) = some (y, c) → c0 ≤ c
  | [], x, c0, y, c, h => by
    have h : some (x, c0) = some (y, c) := h
    injection h with h; injection h with _ h2
    omega
  | j :: l, x, c0, y, c, h => by
    have h : (stepF ts (x, c0) j).bind (fun p => leadF ts l p) = some (y, c) := h
    unfold stepF at h
    split at h
    case isFalse => cases h
    case isTrue hj =>
      split at h
      case h_2 => cases h
      case h_1 t ht =>
        split at h
        case isFalse => cases h
        case isTrue ho =>
          have h : leadF ts l ((othF t x).1, c0 + cutI t) = some (y, c) := h
          have := lead_mono ts l _ _ _ _ h
          have := cutI_le t
          omega
/-- Where the search ends: if the last place is done, there is a way to it; if not, no walk comes to it. -/
theorem Fnd.way {ts : List TieD} {cuts a n : Nat} {last : Plc} (hn : n ≤ 32) (hc : cuts ≤ 1) (hv : ∀ t ∈ ts, tieB t n = true) (ha : a < n) (hl1 : last.1 < n) (hl2 : last.2 ≤ cuts) {c : List StepD} (h : Fnd ts cuts a last c) (hd : doneB c last = true) :
    ∃ l, Bk c (a, 0) last l ∧ leadF ts l.reverse ((a : Int), 0) = some ((last.1 : Int), (last.2 : Int)) ∧ l.length < 64 := by
  rcases h with h | ⟨h, k, c0, q, h1, h2, h3, rfl⟩
  · obtain ⟨l, b1, b2, b3⟩ := (h.good hn hc hv ha).way last hl1 hl2 hd
    exact ⟨l, b1, b2, by omega⟩
  · obtain ⟨l, b1, b2, b3⟩ := good_take (q' := []) (s := none) hn hc hv (h1.good hn hc hv ha) h3 last hl1 hl2 hd
    exact ⟨l, b1, b2, by omega⟩
theorem Fnd.none {ts : List TieD} {cuts a n : Nat} {last : Plc} (hn : n ≤ 32) (hc : cuts ≤ 1) (hv : ∀ t ∈ ts, tieB t n = true) (ha : a < n) {c : List StepD} (h : Fnd ts cuts a last c) (hd : doneB c last = false) (hl1 : last.1 < n) (hl2 : last.2 ≤ cuts) :
    ∀ l : List Int, leadF ts l ((a : Int), 0) ≠ some ((last.1 : Int), (last.2 : Int)) := by
  rcases h with h | ⟨h, k, c0, q, h1, h2, h3, rfl⟩
  · have hg := h.good hn hc hv ha
    have key : ∀ (l : List Int) (p : Plc) (x y : Int), p.1 < n → p.2 ≤ cuts → doneB c p = true → leadF ts l ((p.1 : Int), (p.2 : Int)) = some (x, y) → y ≤ cuts → ∃ p' : Plc, x = p'.1 ∧ y = p'.2 ∧ p'.1 < n ∧ p'.2 ≤ cuts ∧ doneB c p' = true := by
      intro l
      induction l with
      | nil =>
        intro p x y hp1 hp2 hpd hx hy
        have hx : some ((p.1 : Int), (p.2 : Int)) = some (x, y) := hx
        injection hx with hx; injection hx with e1 e2
        exact ⟨p, e1.symm, e2.symm, hp1, hp2, hpd⟩
      | cons i l ih =>
        intro p x y hp1 hp2 hpd hx hy
        have hx : (stepF ts ((p.1 : Int), (p.2 : Int)) i).bind (fun z => leadF ts l z) = some (x, y) := hx
        cases hs : stepF ts ((p.1 : Int), (p.2 : Int)) i with
        | none => rw [hs] at hx; cases hx
        | some z =>
          rw [hs] at hx
          have hx : leadF ts l z = some (x, y) := hx
          obtain ⟨z1, z2⟩ := z
          have hmono : z2 ≤ y := lead_mono ts l z1 z2 x y hx
          unfold stepF at hs
          split at hs
          case isFalse => cases hs
          case isTrue hi =>
            split at hs
            case h_2 => cases hs
            case h_1 t ht =>
              split at hs
              case isFalse => cases hs
              case isTrue ho =>
                injection hs with hs; injection hs with e1 e2
                have hin := oth_in (hv t (List.mem_of_getElem? ht)) (x := p.1) (p := (othF t p.1).1) (by rw [← ho])
                obtain ⟨v, hv'⟩ : ∃ v : Nat, z1 = v := ⟨z1.toNat, by simp only at e1; omega⟩
                have hz2 : z2 = ((p.2 + cutN t : Nat) : Int) := by have := cutN_I t; simp only at e2; omega
                have hover : Over ts p i.toNat (v, p.2 + cutN t) := ⟨t, ht, by simp only at e1 ho ⊢; rw [← hv', ← e1, ← ho], rfl⟩
                have hdn := hg.all p hp1 hp2 hpd (by simp) i.toNat _ hover (by simp only; omega) (fun k e => by cases e)
                rw [hv', hz2] at hx
                exact ih (v, p.2 + cutN t) x y (by simp only at e1 ⊢; omega) (by simp only; omega) hdn hx hy
    intro l hx
    obtain ⟨p', e1, e2, _, _, h9⟩ := key l (a, 0) _ _ ha (Nat.zero_le _) hg.first hx (by omega)
    have : p' = last := by obtain ⟨u, v⟩ := p'; obtain ⟨u', v'⟩ := last; simp only at e1 e2; rw [show u = u' by omega, show v = v' by omega]
    rw [this, hd] at h9; cases h9
  · have hok := (h1.ok hv ha)
    have hl : plI last < c0.length := by rw [hok.len]; exact pl_lt hn hc hl1 hl2
    rw [came_done hl] at hd
    simp at hd
end Go.Proofs.YthjeiaildabadaaGreat
/- Layer 4: CheckChain; a graph without one tie. -/
namespace Go.Proofs.YthjeiaildabadaaGreat
set_option linter.unusedSimpArgs false
set_option linter.unusedVariables false
open Go Go.RowKit

def chnF (ts : List TieD) (l : List Int) (x y c : Int) : Int := if leadF ts l (x, 0) == some (y, c) then 0 else 42
set_option maxRecDepth 100000 in
set_option maxHeartbeats 2000000 in
theorem checkWalk_any (n : Int) (a : Option Addr) (cap cq : Nat) (ts : List TieD) (r : Option Addr) (l : List Int) (x y c : Int) (w : World) (hl2 : l.length ≤ 1000) (h0 : errA n ts x y = 0) (hs : TiesAt w a ts) (hr : IntsAt w r l) :
    Calls Tryz.prog 74 #[gV n a ts.length cap, .int .i64 x, .int .i64 y, .slice r l.length cq, .int .i64 c] w fun e w' => e = .returned (.int .i64 (chnF ts l x y c)) ∧ Below w.heap.size w w' := by
  obtain ⟨hok, hxy⟩ := errA_ok h0
  obtain ⟨k, rfl, hk1, hk2, hl, hv⟩ := okG_parts hok
  have HP : Hid (∀ W, Below w.heap.size w W → Calls Tryz.prog 50 #[gV k a ts.length cap, .int .i64 x, .int .i64 y] W fun e w' => e = .returned (.int .i64 0) ∧ Below W.heap.size W w') := fun W hb => by
    have h := tPair_any k a cap ts x y W (by omega) (hs.below hb); rw [h0] at h; exact h
  have HBE : Hid (∀ W, Below w.heap.size w W → Calls Tryz.prog 43 #[gV k a ts.length cap] W fun e w' => ∃ g, e = .returned (wkV k a ts.length cap g k) ∧ W.heap.size ≤ g ∧ NB w' g (grpL k ts) ∧ Below W.heap.size W w') := fun W hb => begin_any k a cap ts W hk2 hl hv (hs.below hb)
  have HLD : Hid (∀ W gv, Below w.heap.size w W → Calls Tryz.prog 101 #[.agg #[.int .i64 k, .slice a ts.length cap, gv], .slice r l.length cq, .int .i64 x, .int .i64 y, .int .i64 c] W fun e w' => e = .returned (.bool (leadF ts l (x, 0) == some (y, c))) ∧ Below W.heap.size W w') := fun W gv hb => leads_any k a cap cq ts gv r l x y c W (by omega) hl2 (hs.below hb) (hr.below hb)
  unfold chnF
  obtain ⟨v, hvv⟩ : ∃ v, v = (leadF ts l (x, 0) == some (y, c)) := ⟨_, rfl⟩
  rw [← hvv] at HLD ⊢
  obtain ⟨m, hm⟩ : ∃ m, m = ts.length := ⟨_, rfl⟩
  rw [← hm] at HP HBE HLD ⊢
  obtain ⟨q, hq⟩ : ∃ q, q = l.length := ⟨_, rfl⟩
  rw [← hq] at HLD ⊢
  have HK := Lib.hid (Blk.new w [.int .i64 k, .slice a m cap] 24)
  have HB0 : Hid (Below w.heap.size w (w.alloc (.cells #[.int .i64 k, .slice a m cap] 24))) := (Below.refl _ _).alloc (Nat.le_refl _) _
  clear hm hq hvv hs hr hok hxy h0 hl hv hk1 hk2 hl2
  simp only [gV, wkV] at HP HBE ⊢
  cases v with
  | true =>
    go_enter Tryz.func74, Tryz.ntmps74
    go_wp2_with (first | (go_at_call 50; refine (HP.out _ HB0.out).mono ?_; rintro e w1 ⟨rfl, hb⟩; clear HP; have HK1 := Lib.hid (HK.out.below hb); have HB1 := Lib.hid (HB0.out.trans (hb.mono HB0.out.size)); clear hb; have c0 := HK1.out.cell (i := 0) rfl; have c1 := HK1.out.cell (i := 1) rfl) | (go_at_call 43; refine (HBE.out _ HB1.out).mono ?_; rintro e w2 ⟨g, rfl, _, _, hb⟩; clear HBE c0 c1; have HB2 := Lib.hid (HB1.out.trans (hb.mono HB1.out.size)); clear hb) | (go_at_call 101; refine (HLD.out _ _ HB2.out).mono ?_; rintro e w3 ⟨rfl, hb⟩; clear HLD; have HB3 := Lib.hid (HB2.out.trans (hb.mono HB2.out.size)); clear hb))
    go_ret
    exact ⟨rfl, HB3.out⟩
  | false =>
    go_enter Tryz.func74, Tryz.ntmps74
    go_wp2_with (first | (go_at_call 50; refine (HP.out _ HB0.out).mono ?_; rintro e w1 ⟨rfl, hb⟩; clear HP; have HK1 := Lib.hid (HK.out.below hb); have HB1 := Lib.hid (HB0.out.trans (hb.mono HB0.out.size)); clear hb; have c0 := HK1.out.cell (i := 0) rfl; have c1 := HK1.out.cell (i := 1) rfl) | (go_at_call 43; refine (HBE.out _ HB1.out).mono ?_; rintro e w2 ⟨g, rfl, _, _, hb⟩; clear HBE c0 c1; have HB2 := Lib.hid (HB1.out.trans (hb.mono HB1.out.size)); clear hb) | (go_at_call 101; refine (HLD.out _ _ HB2.out).mono ?_; rintro e w3 ⟨rfl, hb⟩; clear HLD; have HB3 := Lib.hid (HB2.out.trans (hb.mono HB2.out.size)); clear hb))
    go_ret
    exact ⟨rfl, HB3.out⟩
set_option maxRecDepth 100000 in
theorem checkChain_any (n : Int) (a : Option Addr) (cap cq : Nat) (ts : List TieD) (r : Option Addr) (l : List Int) (x y : Int) (w : World) (hl2 : l.length ≤ 1000) (h0 : errA n ts x y = 0) (hs : TiesAt w a ts) (hr : IntsAt w r l) :
    Calls Tryz.prog 26 #[gV n a ts.length cap, .int .i64 x, .int .i64 y, .slice r l.length cq] w fun e w' => e = .returned (.int .i64 (chnF ts l x y 0)) ∧ Below w.heap.size w w' := by
  have HW : Hid (∀ W, Below w.heap.size w W → Calls Tryz.prog 74 #[gV n a ts.length cap, .int .i64 x, .int .i64 y, .slice r l.length cq, .int .i64 0] W fun e w' => e = .returned (.int .i64 (chnF ts l x y 0)) ∧ Below W.heap.size W w') := fun W hb => checkWalk_any n a cap cq ts r l x y 0 W hl2 h0 (hs.below hb) (hr.below hb)
  generalize chnF ts l x y 0 = E at *
  generalize ts.length = m at *
  generalize l.length = q at *
  have HB0 : Hid (Below w.heap.size w (w.alloc (.cells #[.int .i64 n, .slice a m cap] 24))) := (Below.refl _ _).alloc (Nat.le_refl _) _
  clear hl2 h0 hs hr
  simp only [gV] at HW ⊢
  go_enter Tryz.func26, Tryz.ntmps26
  go_wp2_with (first | (go_at_call 74; refine (HW.out _ HB0.out).mono ?_; rintro e w1 ⟨rfl, hb⟩; have HB3 := Lib.hid (HB0.out.trans (hb.mono HB0.out.size)); clear hb))
  go_ret
  exact ⟨rfl, HB3.out⟩
set_option maxRecDepth 100000 in
theorem has_any (r : Option Addr) (cq : Nat) (l : List Int) (v : Int) (w : World) (hl : l.length ≤ 100000) (hr : IntsAt w r l) :
    Calls Tryz.prog 33 #[.slice r l.length cq, .int .i64 v] w fun e w' => e = .returned (.bool (decide (v ∈ l))) ∧ Below w.heap.size w w' := by
  have HR := Lib.hid hr
  obtain ⟨q, hq⟩ : ∃ q, q = l.length := ⟨_, rfl⟩
  have HQ := Lib.hid hq
  rw [← hq] at hl ⊢
  clear hr hq
  have HN0 : Hid (decide (v ∈ l.take 0) = false) := by simp [Hid]
  go_enter Tryz.func33, Tryz.ntmps33
  go_wp2_with fail
  go_loopg [5] q (fun gk t5 wr => ∃ j : Nat, j + gk = q ∧ t5 = .int .i64 j ∧ Hid (decide (v ∈ l.take j) = false) ∧ Hid (Below w.heap.size w wr))
  case atStart => exact ⟨0, by omega, rfl, HN0, Below.refl _ _⟩
  case round =>
    clear HN0
    obtain ⟨j, hjg, rfl, HN, HB⟩ := hrel
    by_cases hlt : j < q
    · have hjl : j < l.length := by rw [← HQ.out]; exact hlt
      obtain ⟨lb, lo, rfl, hlb, lc⟩ := (HR.out.below HB.out).at hjl
      have ST : Hid (decide (v ∈ l.take (j + 1)) = (decide (v ∈ l.take j) || decide (v = l[j]))) := by
        rw [Hid, ← List.take_append_getElem hjl, ← Bool.decide_or]
        exact decide_eq_decide.2 (by rw [List.mem_append, List.mem_singleton])
      have HME : Hid (l[j] ∈ l) := List.getElem_mem hjl
      obtain ⟨x, hx⟩ : ∃ x, x = l[j] := ⟨_, rfl⟩
      rw [← hx] at ST HME lc
      clear hx hjl hlb
      have t1 : decide (j < q) = true := decide_eq_true hlt
      rw [HN.out, Bool.false_or] at ST
      cases hc : (x == v) with
      | true =>
        have HT : Hid (decide (v ∈ l) = true) := by
          have : x = v := by simpa using hc
          rw [Hid, ← this]; exact decide_eq_true HME.out
        go_wp2_with fail
        go_ret
        exact ⟨by rw [HT.out]; rfl, HB.out⟩
      | false =>
        have HN2 : Hid (decide (v ∈ l.take (j + 1)) = false) := by
          have : ¬ x = v := by simpa using hc
          rw [Hid, ST.out]; exact decide_eq_false fun h => this h.symm
        go_wp2_with fail
        go_roundg (gk - 1)
        case measure => omega
        case rel => exact ⟨j + 1, by omega, by simp, HN2, HB⟩
    · have e : q = j := by omega
      subst e
      have t1 : decide (q < q) = false := by simp
      have HT : Hid (decide (v ∈ l) = false) := by
        have h := HN.out
        rwa [List.take_of_length_le (by rw [← HQ.out]; omega)] at h
      go_wp2_with fail
      go_ret
      exact ⟨by rw [HT.out]; rfl, HB.out⟩
end Go.Proofs.YthjeiaildabadaaGreat
/- Layer 4: a graph without one tie. -/
namespace Go.Proofs.YthjeiaildabadaaGreat
set_option linter.unusedSimpArgs false
set_option linter.unusedVariables false
open Go Go.RowKit

theorem eras_step {ts : List TieD} {k i : Nat} (hk : k < ts.length) : (k ≠ i → (ts.take (k + 1)).eraseIdx i = (ts.take k).eraseIdx i ++ [ts[k]]) ∧ (k = i → (ts.take (k + 1)).eraseIdx i = (ts.take k).eraseIdx i) := by
  have hl : (ts.take k).length = k := by rw [List.length_take]; omega
  rw [← List.take_append_getElem hk]
  refine ⟨fun h => ?_, fun h => ?_⟩
  · rcases Nat.lt_or_ge i k with h' | h'
    · rw [List.eraseIdx_append_of_lt_length (by omega)]
    · rw [List.eraseIdx_of_length_le (by simp; omega), List.eraseIdx_of_length_le (by omega)]
  · subst h
    rw [List.eraseIdx_append_of_length_le (by omega), hl, Nat.sub_self, List.eraseIdx_of_length_le (l := ts.take k) (by omega)]
    simp
theorem slice_run (ty : TypeId) (a : Option Addr) (len cap : Nat) (lo hi : Option Value) (v : Value) (w : World) (h : ∀ s, ((sizeOf 54).run Tryz.prog w = .ok s w) → (Instr.slice 22 (.slice a len cap) lo hi none).run Tryz.prog w = .ok v w) : (Instr.slice 22 (.slice a len cap) lo hi none).run Tryz.prog w = .ok v w := by
  obtain ⟨i0, hi0, hz0, hz1, hz2⟩ := info_parts infoT
  exact h 5 (by simp [sizeOf, typeInfo, hi0, hz1])
theorem slice_take (b o cap m i : Nat) (hi : i < m) (hc : m ≤ cap) : ∃ a' c', (∀ w, (Instr.sliceAt 22 (.slice (some ⟨b, o, none⟩) m cap) none (some (.int .i64 (i : Int))) none).run Tryz.prog w = .ok (.slice a' i c') w) ∧ ∀ W (ts : List TieD), ts.length = m → TiesAt W (some ⟨b, o, none⟩) ts → TiesAt W a' (ts.take i) := by
  obtain ⟨i0, hi0, hz0, hz1, hz2⟩ := info_parts infoT
  have hs : ∀ w, (sizeOf (Tryz.prog.elem 22)).run Tryz.prog w = .ok 5 w := fun w => by
    rw [show Tryz.prog.elem 22 = 54 from by kernel_rfl]; simp [sizeOf, typeInfo, hi0, hz1]
  refine ⟨some ⟨b, o, none⟩, cap, fun w => ?_, fun W ts hl hT => ?_⟩
  · rw [run_sliceAt_slice w 22 _ _ _ _ (by kernel_rfl), run_slice_h w 22 (some ⟨b, o, none⟩) m cap (by kernel_rfl) .i64 (i : Int) (by omega) (by omega), hs]
    have hcap : ¬ cap = 0 := by omega
    simp [Result.andThen, sliced, hcap, addr_plain]
  · rcases hT with rfl | ⟨b', o', e, hlt, h⟩
    · simp at hl; omega
    · exact .inr ⟨b', o', e, hlt, fun k t hk => h k t (by
        rw [List.getElem?_take] at hk
        split at hk
        · exact hk
        · cases hk)⟩
theorem slice_drop (b o cap m i : Nat) (hi : i < m) (hc : m ≤ cap) : ∃ a' c', (∀ w, (Instr.sliceAt 22 (.slice (some ⟨b, o, none⟩) m cap) (some (.int .i64 ((i : Int) + 1))) none none).run Tryz.prog w = .ok (.slice a' (m - (i + 1)) c') w) ∧ ∀ W (ts : List TieD), ts.length = m → TiesAt W (some ⟨b, o, none⟩) ts → TiesAt W a' (ts.drop (i + 1)) := by
  obtain ⟨i0, hi0, hz0, hz1, hz2⟩ := info_parts infoT
  have hs : ∀ w, (sizeOf (Tryz.prog.elem 22)).run Tryz.prog w = .ok 5 w := fun w => by
    rw [show Tryz.prog.elem 22 = 54 from by kernel_rfl]; simp [sizeOf, typeInfo, hi0, hz1]
  have hr : ∀ w, (Instr.sliceAt 22 (.slice (some ⟨b, o, none⟩) m cap) (some (.int .i64 ((i : Int) + 1))) none none).run Tryz.prog w = .ok (sliced (some ⟨b, o, none⟩) (i + 1) m cap 5) w := fun w => by
    rw [run_sliceAt_slice w 22 _ _ _ _ (by kernel_rfl), run_slice_l w 22 (some ⟨b, o, none⟩) m cap (by kernel_rfl) .i64 ((i : Int) + 1) (by omega) (by omega), hs]
    simp [Result.andThen]
  by_cases hcap : cap = i + 1
  · refine ⟨some ⟨b, o, none⟩, cap - (i + 1), fun w => by rw [hr w]; simp [sliced, hcap], fun W ts hl hT => .inl ?_⟩
    exact List.drop_eq_nil_of_le (by omega)
  · refine ⟨some ⟨b, o + (i + 1) * 5, none⟩, cap - (i + 1), fun w => by rw [hr w]; simp [sliced, hcap, addr_plain], fun W ts hl hT => ?_⟩
    rcases hT with rfl | ⟨b', o', e, hlt, h⟩
    · simp at hl; omega
    · simp only [Option.some.injEq, Addr.mk.injEq, and_true] at e
      obtain ⟨rfl, rfl⟩ := e
      refine .inr ⟨b, o + (i + 1) * 5, rfl, hlt, fun k t hk => ?_⟩
      rw [List.getElem?_drop] at hk
      have := h (i + 1 + k) t hk
      rw [show o + (i + 1) * 5 + k * 5 = o + (i + 1 + k) * 5 by omega]; exact this
end Go.Proofs.YthjeiaildabadaaGreat
/- Layer 4: leftOut. -/
namespace Go.Proofs.YthjeiaildabadaaGreat
set_option linter.unusedSimpArgs false
set_option linter.unusedVariables false
open Go Go.RowKit

def twW (x y : Value) : Word := fun u w => ∃ sb, u = .slice (some ⟨sb, 0, none⟩) 2 2 ∧ Blk w sb [x, y] 22
theorem twW_lasts {w0 : World} (x y : Value) : lasts (clOld w0) (twW x y) := fun v w w' _ hR ⟨sb, hv, h⟩ => ⟨sb, hv, h.below hR⟩
theorem twW_new {w0 w : World} {x y : Value} {ρ : Operand → Value} {o : Oper} (h : (execOp ρ o).run Tryz.prog w = .ok (.value (.slice (some ⟨w.heap.size, 0, none⟩) 2 2)) (w.alloc (.cells #[x, y] 22))) (hC : (clOld w0).C w) :
    ∃ u w', (execOp ρ o).run Tryz.prog w = .ok (.value u) w' ∧ (clOld w0).R w w' ∧ twW x y u w' :=
  ⟨_, _, h, (Below.refl _ _).alloc (Nat.le_refl _) _, _, rfl, Blk.new w [x, y] 22⟩
theorem add_one (t : TypeId) (x y : Operand) (i : Nat) (h : i ≤ 100000) (w : World) : (do eqGuard .add t x y (.int .i64 (i : Int)) (.int .i64 1); binOp .add t (.int .i64 (i : Int)) (.int .i64 1) : Sem Value).run Tryz.prog w = .ok (.int .i64 ((i : Int) + 1)) w := by
  have hw : IntKind.i64.wrap ((i : Int) + 1) = (i : Int) + 1 := by simp [IntKind.wrap, IntKind.bits, IntKind.signed]; omega
  simp [go_sem, hw]
set_option maxRecDepth 100000 in
set_option maxHeartbeats 4000000 in
theorem leftOut_any (n : Int) (a : Option Addr) (cap i : Nat) (ts : List TieD) (w : World) (hi : i < ts.length) (hcap : ts.length ≤ cap) (hl : ts.length ≤ 1000) (hs : TiesAt w a ts) :
    Calls Tryz.prog 44 #[gV n a ts.length cap, .int .i64 (i : Int)] w fun e w' => ∃ a' c', e = .returned (gV n a' (ts.eraseIdx i).length c') ∧ TiesAt w' a' (ts.eraseIdx i) ∧ Below w.heap.size w w' := by
  have HS := Lib.hid hs
  obtain ⟨b, oo, rfl, hlb, _⟩ := hs.at hi
  obtain ⟨m, hm⟩ : ∃ m, m = ts.length := ⟨_, rfl⟩
  rw [← hm] at hi hcap hl ⊢
  obtain ⟨a1, k1, hr1, ht1⟩ := slice_take b oo cap m i hi hcap
  obtain ⟨a2, k2, hr2, ht2⟩ := slice_drop b oo cap m i hi hcap
  have HR1 := Lib.hid hr1
  have HR2 := Lib.hid hr2
  have HCC : Hid (∀ W sb, Below w.heap.size w W → Blk W sb [.slice a1 i k1, .slice a2 (m - (i + 1)) k2] 22 → Calls Tryz.prog 78 #[.slice (some ⟨sb, 0, none⟩) 2 2] W fun e w' => ∃ v, e = .returned v ∧ w'.ownsRow W.heap.size 54 5 v (ts.eraseIdx i).length (tvL (ts.eraseIdx i)) ∧ Below W.heap.size W w') := fun W sb hb hk => by
    have l1 : (ts.take i).length = i := by rw [List.length_take]; omega
    have l2 : (ts.drop (i + 1)).length = m - (i + 1) := by rw [List.length_drop, hm]
    have h := concatT_any sb a1 a2 k1 k2 (ts.take i) (ts.drop (i + 1)) W (by omega) (by omega) (ht1 W ts hm.symm (HS.out.below hb)) (ht2 W ts hm.symm (HS.out.below hb)) (by rw [l1, l2]; exact hk)
    have e : ts.eraseIdx i = ts.take i ++ ts.drop (i + 1) := List.eraseIdx_eq_take_drop_succ ts i
    rw [← List.length_append, ← tvL_append, ← e] at h
    exact h
  have HN0 : Hid (Blk ((w.alloc (.cells #[.int .i64 n, .slice (some ⟨b, oo, none⟩) m cap] 24)).alloc (.cells #[.int .i64 0, .slice none 0 0] 24)) w.heap.size [.int .i64 n, .slice (some ⟨b, oo, none⟩) m cap] 24 ∧ Blk ((w.alloc (.cells #[.int .i64 n, .slice (some ⟨b, oo, none⟩) m cap] 24)).alloc (.cells #[.int .i64 0, .slice none 0 0] 24)) (w.heap.size + 1) [.int .i64 0, .slice none 0 0] 24 ∧ Below w.heap.size w ((w.alloc (.cells #[.int .i64 n, .slice (some ⟨b, oo, none⟩) m cap] 24)).alloc (.cells #[.int .i64 0, .slice none 0 0] 24))) := by
    have b1 := Blk.new w [.int .i64 n, .slice (some ⟨b, oo, none⟩) m cap] 24
    have b2 := Blk.new (w.alloc (.cells #[.int .i64 n, .slice (some ⟨b, oo, none⟩) m cap] 24)) [.int .i64 0, .slice none 0 0] 24
    exact ⟨b1.block (Below.heap_alloc _ _ _ b1.lt), by simpa using b2, ((Below.refl _ _).alloc (Nat.le_refl _) _).alloc (by simp) _⟩
  obtain ⟨F, hF⟩ : ∃ F, F = ts.eraseIdx i := ⟨_, rfl⟩
  rw [← hF] at HCC ⊢
  have HI : Hid (i ≤ 100000) := by rw [Hid]; omega
  clear hF hm hr1 hr2 ht1 ht2 hi hcap hl hs hlb
  go_enter Tryz.func44, Tryz.ntmps44
  simp only [gV]
  go_upto_region 1 with (fail)
  refine named (fun V => Hid (Blk V w.heap.size [.int .i64 n, .slice (some ⟨b, oo, none⟩) m cap] 24 ∧ Blk V (w.heap.size + 1) [.int .i64 0, .slice none 0 0] 24 ∧ Below w.heap.size w V)) HN0 ?_
  clear HN0
  rintro V0 HN
  generalize hb1 : w.heap.size = b1 at HN ⊢
  generalize hb4 : b1 + 1 = b4 at HN ⊢
  have HBB : Hid (w.heap.size = b1 ∧ b1 < b4) := ⟨hb1, by omega⟩
  clear hb1 hb4
  have HX : Hid (∀ W, (clOld V0.drew).C W → Blk W b1 [.int .i64 n, .slice (some ⟨b, oo, none⟩) m cap] 24 ∧ Blk W b4 [.int .i64 0, .slice none 0 0] 24 ∧ Below w.heap.size w W) := fun W hC => by
    have hb : Below V0.heap.size V0 W := old_end (Below.refl _ _) hC (Nat.le_refl _)
    have h3 : Below w.heap.size w V0 := by rw [HBB.out.1]; exact HN.out.2.2
    exact ⟨HN.out.1.below hb, HN.out.2.1.below hb, h3.trans (hb.mono h3.size)⟩
  refine wp_region_old 13 19 (by kernel_rfl) (by kernel_rfl) (by rfl) ?_
  simp only [List.take_succ_cons, List.take_zero, List.drop_succ_cons, List.drop_zero, List.drop_nil]
  refine chain_val (.pointer (some ⟨b1, 0, none⟩)) (fun _ _ => Below.refl _ _) rfl (by intro cs b h; cases h) (by kernel_rfl) (by kernel_rfl) (fun w1 _ => by simp [execOp, evE, lk_cons, lk_nil, slotL, go_sem]) ?_
  refine chain_load (.int .i64 n) _ _ _ (fun _ _ => Below.refl _ _) rfl rfl (by kernel_rfl) (by kernel_rfl) rfl (fun w1 hC => load_i64 ((HX.out w1 hC).1.cell rfl)) ?_
  refine chain_val (.pointer (some ⟨b1, 1, none⟩)) (fun _ _ => Below.refl _ _) rfl (by intro cs b h; cases h) (by kernel_rfl) (by kernel_rfl) (fun w1 _ => by simp [execOp, evE, lk_cons, lk_nil, slotL, go_sem]) ?_
  refine chain_load (.slice (some ⟨b, oo, none⟩) m cap) _ _ _ (fun _ _ => Below.refl _ _) rfl rfl (by kernel_rfl) (by kernel_rfl) rfl (fun w1 hC => load_slq ((HX.out w1 hC).1.cell rfl)) ?_
  refine chain_move (.int .i64 (i : Int)) _ (fun _ _ => Below.refl _ _) rfl rfl (by kernel_rfl) (by kernel_rfl) rfl ?_
  refine chain_val (.slice a1 i k1) (fun _ _ => Below.refl _ _) rfl (by intro cs b h; cases h) (by kernel_rfl) (by kernel_rfl) (fun w1 _ => by simp [execOp, evE, lk_cons, lk_nil, slotL, Sem.run_bind, Result.andThen, HR1.out]) ?_
  refine chain_val (.pointer (some ⟨b1, 1, none⟩)) (fun _ _ => Below.refl _ _) rfl (by intro cs b h; cases h) (by kernel_rfl) (by kernel_rfl) (fun w1 _ => by simp [execOp, evE, lk_cons, lk_nil, slotL, go_sem]) ?_
  refine chain_load (.slice (some ⟨b, oo, none⟩) m cap) _ _ _ (fun _ _ => Below.refl _ _) rfl rfl (by kernel_rfl) (by kernel_rfl) rfl (fun w1 hC => load_slq ((HX.out w1 hC).1.cell rfl)) ?_
  refine chain_move (.int .i64 (i : Int)) _ (fun _ _ => Below.refl _ _) rfl rfl (by kernel_rfl) (by kernel_rfl) rfl ?_
  refine chain_bin (.int .i64 ((i : Int) + 1)) _ _ _ _ _ (.int .i64 (i : Int)) (.int .i64 1) (fun _ _ => Below.refl _ _) rfl rfl (by kernel_rfl) (by kernel_rfl) rfl rfl (fun w1 => add_one _ _ _ i HI.out w1) ?_
  refine chain_val (.slice a2 (m - (i + 1)) k2) (fun _ _ => Below.refl _ _) rfl (by intro cs b h; cases h) (by kernel_rfl) (by kernel_rfl) (fun w1 _ => by simp [execOp, evE, lk_cons, lk_nil, slotL, Sem.run_bind, Result.andThen, HR2.out]) ?_
  refine chain_new (twW (.slice a1 i k1) (.slice a2 (m - (i + 1)) k2)) (twW_lasts _ _) rfl (by intro cs b h; cases h) (by kernel_rfl) (by kernel_rfl) (fun w1 hC => twW_new (by simp [execOp, evE, lk_cons, lk_nil, go_sem, Instr.buildSlice]) hC) ?_
  refine chain_call_use_re (ownW w.heap.size F.length (tvL F)) (ownW_lasts _ _ _) 16 _ 78 (fun x => [x]) _ _ (enters_of Tryz.func78 (by kernel_rfl) rfl) rfl rfl rfl (by kernel_rfl) rfl rfl (fun _ => rfl) rfl (fun _ => rfl) (fun x w1 hC ⟨sb, hx, hk⟩ => by subst hx; exact (HCC.out w1 sb (HX.out w1 hC).2.2 hk).mono fun e w' ⟨v, he, ho, hb⟩ => ⟨_, he, hb, own_mono ho (HX.out w1 hC).2.2.size⟩) ?_
  refine chain_end (by rfl) ?_
  intro xs w6 hCw6 hrew6
  simp only [layE, List.foldr_cons, List.foldr_nil, List.set_cons_succ, List.set_cons_zero]
  have ho : w6.ownsRow w.heap.size 54 5 (xs 17) F.length (tvL F) := hrew6 17 _ rfl
  obtain ⟨fa, fc, hx⟩ := own_slice ho
  rw [hx] at ho
  simp only [hx]
  have HO := Lib.hid ho
  have HY := Lib.hid (HX.out w6 hCw6)
  clear hx ho hrew6 hCw6 HX HCC HR1 HR2
  have d0 := HY.out.2.1.cell (i := 0) rfl
  have d1 := HY.out.2.1.cell (i := 1) rfl
  have f0 := HY.out.2.1.frozen 0
  have f1 := HY.out.2.1.frozen 1
  go_wp2_with fail
  refine named (fun V => Blk V b4 [.int .i64 n, .slice fa F.length fc] 24 ∧ V.ownsRow w.heap.size 54 5 (.slice fa F.length fc) F.length (tvL F) ∧ Below w.heap.size w V) ?_ ?_
  · have o1 : Only b4 w6 ((w6.setCell ⟨b4, 0, none⟩ (.int .i64 n)).setCell ⟨b4, 1, none⟩ (.slice fa F.length fc)) := ((Only.refl _ w6).set_ 0 _).set_ 1 _
    have hq : w.heap.size ≤ b4 := by have := HBB.out; omega
    exact ⟨(HY.out.2.1.set_ 0 _).set_ 1 _, own_only HO.out HY.out.2.1 o1, (HY.out.2.2.setCell hq _).setCell hq _⟩
  rintro V ⟨V1, V2, V3⟩
  have e0 := V1.cell (i := 0) rfl
  have e1 := V1.cell (i := 1) rfl
  refine bodyPost_ret (v := .agg #[.int .i64 n, .slice fa F.length fc]) (by simp [results, Tryz.results44, go_sem, e0, e1]) rfl ?_
  obtain ⟨a8, c8, he8, _, hT⟩ := own_tiesN V2
  injection he8 with h1 h2 h3
  subst h1
  exact ⟨fa, fc, rfl, hT.1, V3⟩
end Go.Proofs.YthjeiaildabadaaGreat
/- Layer 4: unite, with what it answers; words for Bridges. -/
namespace Go.Proofs.YthjeiaildabadaaGreat
set_option linter.unusedSimpArgs false
set_option linter.unusedVariables false
open Go Go.RowKit

set_option maxRecDepth 100000 in
set_option maxHeartbeats 2000000 in
theorem unite_val (g : Nat) (l : List Int) (x y : Nat) (p q : Int) (w : World) (hl : l.length ≤ 1000) (hg : NB w g l) (hx : l[x]? = some p) (hy : l[y]? = some q) :
    Calls Tryz.prog 42 #[.slice (some ⟨g, 0, none⟩) l.length l.length, .int .i64 x, .int .i64 y] w fun e w' => e = .returned (.bool (decide (min p q < max p q))) ∧ NB w' g (uniL l (min p q) (max p q)) ∧ Only g w w' ∧ (∀ B, B ≤ g → Below B w w') := by
  have HXL : Hid (x < l.length) := (List.getElem?_eq_some_iff.1 hx).1
  have HYL : Hid (y < l.length) := (List.getElem?_eq_some_iff.1 hy).1
  have HG := Lib.hid hg
  have HCX : Hid (∀ W, Old w.drew W → W.cell? ⟨g, x, none⟩ = some (.int .i64 p)) := fun W h => by rw [Below.cell h (by exact hg.lt)]; exact hg.cell hx
  have HCY : Hid (∀ W, Old w.drew W → W.cell? ⟨g, y, none⟩ = some (.int .i64 q)) := fun W h => by rw [Below.cell h (by exact hg.lt)]; exact hg.cell hy
  obtain ⟨n, hn⟩ : ∃ n, n = l.length := ⟨_, rfl⟩
  rw [← hn] at hl HXL HYL ⊢
  have HN := Lib.hid hn
  clear hn hg hx hy
  obtain ⟨lo, hlo⟩ : ∃ lo, lo = min p q := ⟨_, rfl⟩
  obtain ⟨hi, hhi⟩ : ∃ hi, hi = max p q := ⟨_, rfl⟩
  rw [← hlo, ← hhi]
  have HLO := Lib.hid hlo
  have HHI := Lib.hid hhi
  clear hlo hhi
  go_enter Tryz.func42, Tryz.ntmps42
  go_upto_region 1 with (fail)
  refine wp_region_old 20 47 (by kernel_rfl) (by kernel_rfl) (by rfl) ?_
  simp only [List.take_succ_cons, List.take_zero, List.drop_succ_cons, List.drop_zero, List.drop_nil]
  refine chain_move (.slice (some ⟨g, 0, none⟩) n n) _ (fun _ _ => Below.refl _ _) rfl rfl (by kernel_rfl) (by kernel_rfl) rfl ?_
  refine chain_move (.int .i64 x) _ (fun _ _ => Below.refl _ _) rfl rfl (by kernel_rfl) (by kernel_rfl) rfl ?_
  refine chain_idx (.pointer (some ⟨g, 0 + x, none⟩)) _ _ _ (.slice (some ⟨g, 0, none⟩) n n) (.int .i64 x) (fun _ _ => Below.refl _ _) rfl rfl (by kernel_rfl) (by kernel_rfl) rfl rfl (fun w1 => idx_grp _ _ _ _ _ HXL.out w1) ?_
  refine chain_load (.int .i64 p) _ _ _ (fun _ _ => Below.refl _ _) rfl rfl (by kernel_rfl) (by kernel_rfl) rfl (fun w1 hC => load_i64 (by rw [Nat.zero_add]; exact HCX.out _ hC)) ?_
  refine chain_move (.slice (some ⟨g, 0, none⟩) n n) _ (fun _ _ => Below.refl _ _) rfl rfl (by kernel_rfl) (by kernel_rfl) rfl ?_
  refine chain_move (.int .i64 y) _ (fun _ _ => Below.refl _ _) rfl rfl (by kernel_rfl) (by kernel_rfl) rfl ?_
  refine chain_idx (.pointer (some ⟨g, 0 + y, none⟩)) _ _ _ (.slice (some ⟨g, 0, none⟩) n n) (.int .i64 y) (fun _ _ => Below.refl _ _) rfl rfl (by kernel_rfl) (by kernel_rfl) rfl rfl (fun w1 => idx_grp _ _ _ _ _ HYL.out w1) ?_
  refine chain_load (.int .i64 q) _ _ _ (fun _ _ => Below.refl _ _) rfl rfl (by kernel_rfl) (by kernel_rfl) rfl (fun w1 hC => load_i64 (by rw [Nat.zero_add]; exact HCY.out _ hC)) ?_
  refine chain_val (.int .i64 lo) (fun _ _ => Below.refl _ _) rfl (by intro cs b h; cases h) (by kernel_rfl) (by kernel_rfl) (fun w1 _ => by simp [execOp, evE, lk_cons, go_sem, HLO.out, min_if]) ?_
  refine chain_move (.slice (some ⟨g, 0, none⟩) n n) _ (fun _ _ => Below.refl _ _) rfl rfl (by kernel_rfl) (by kernel_rfl) rfl ?_
  refine chain_move (.int .i64 x) _ (fun _ _ => Below.refl _ _) rfl rfl (by kernel_rfl) (by kernel_rfl) rfl ?_
  refine chain_idx (.pointer (some ⟨g, 0 + x, none⟩)) _ _ _ (.slice (some ⟨g, 0, none⟩) n n) (.int .i64 x) (fun _ _ => Below.refl _ _) rfl rfl (by kernel_rfl) (by kernel_rfl) rfl rfl (fun w1 => idx_grp _ _ _ _ _ HXL.out w1) ?_
  refine chain_load (.int .i64 p) _ _ _ (fun _ _ => Below.refl _ _) rfl rfl (by kernel_rfl) (by kernel_rfl) rfl (fun w1 hC => load_i64 (by rw [Nat.zero_add]; exact HCX.out _ hC)) ?_
  refine chain_move (.slice (some ⟨g, 0, none⟩) n n) _ (fun _ _ => Below.refl _ _) rfl rfl (by kernel_rfl) (by kernel_rfl) rfl ?_
  refine chain_move (.int .i64 y) _ (fun _ _ => Below.refl _ _) rfl rfl (by kernel_rfl) (by kernel_rfl) rfl ?_
  refine chain_idx (.pointer (some ⟨g, 0 + y, none⟩)) _ _ _ (.slice (some ⟨g, 0, none⟩) n n) (.int .i64 y) (fun _ _ => Below.refl _ _) rfl rfl (by kernel_rfl) (by kernel_rfl) rfl rfl (fun w1 => idx_grp _ _ _ _ _ HYL.out w1) ?_
  refine chain_load (.int .i64 q) _ _ _ (fun _ _ => Below.refl _ _) rfl rfl (by kernel_rfl) (by kernel_rfl) rfl (fun w1 hC => load_i64 (by rw [Nat.zero_add]; exact HCY.out _ hC)) ?_
  refine chain_val (.int .i64 hi) (fun _ _ => Below.refl _ _) rfl (by intro cs b h; cases h) (by kernel_rfl) (by kernel_rfl) (fun w1 _ => by simp [execOp, evE, lk_cons, go_sem, HHI.out, max_if]) ?_
  refine chain_assign (.int .i64 lo) _ (fun _ _ => Below.refl _ _) rfl rfl (by kernel_rfl) (by kernel_rfl) rfl ?_
  refine chain_assign (.int .i64 hi) _ (fun _ _ => Below.refl _ _) rfl rfl (by kernel_rfl) (by kernel_rfl) rfl ?_
  refine chain_end (by rfl) ?_
  intro xs w1 hCw1 hrew1
  simp only [layE, List.foldr_cons, List.foldr_nil, List.set_cons_succ, List.set_cons_zero]
  have HO : Hid (Below w.heap.size w w1) := old_end (Below.refl w.heap.size w) hCw1 (Nat.le_refl _)
  have HG1 : Hid (NB w1 g l) := HG.out.block (HO.out.block g HG.out.lt)
  clear hCw1 hrew1 HCX HCY
  go_wp2_with fail
  go_loopg [9, 10, 31] n (fun gk t9 t10 t31 wr => ∃ k : Nat, k + gk = n ∧ t31 = .int .i64 k ∧ Hid (NB wr g (uniK l lo hi k) ∧ Only g w1 wr ∧ (∀ B, B ≤ g → Below B w1 wr)))
  case atStart => exact ⟨0, by omega, rfl, by rw [uniK_zero]; exact HG1.out, Only.refl _ _, fun B _ => Below.refl _ _⟩
  case round =>
    obtain ⟨k, hkg, rfl, H⟩ := hrel
    by_cases hlt : k < n
    · have hkl : k < l.length := by rw [← HN.out]; exact hlt
      have hn0 := H.out.1.cell (uniK_at (lo := lo) (hi := hi) hkl)
      have hf0 := H.out.1.frozen k
      by_cases hv : l[k] = hi
      · have HK := Lib.hid (uniK_hit (lo := lo) hkl hv)
        rw [hv] at hn0
        clear hv hkl
        go_wp2_with fail
        go_roundg (gk - 1)
        case measure => omega
        case rel =>
          refine ⟨k + 1, by omega, by simp, ?_, H.out.2.1.set_ _ _, fun B hB => (H.out.2.2 B hB).setCell hB _⟩
          have := H.out.1.set_ k lo
          rw [HK.out] at this
          exact this
      · have HK := Lib.hid (uniK_miss (lo := lo) hkl hv)
        obtain ⟨v, hv0⟩ : ∃ v, v = l[k] := ⟨_, rfl⟩
        rw [← hv0] at hv hn0
        have t3 : (v == hi) = false := by rw [beq_eq_false_iff_ne]; exact hv
        clear hv0 hkl
        go_wp2_with fail
        go_roundg (gk - 1)
        case measure => omega
        case rel =>
          refine ⟨k + 1, by omega, by simp, ?_, H.out.2.1, H.out.2.2⟩
          have := H.out.1
          rw [HK.out] at this
          exact this
    · have e : k = n := by omega
      subst e
      have h1 := H.out.1
      rw [HN.out, uniK_end] at h1
      have HR := Lib.hid h1
      clear h1
      go_wp2_with fail
      go_ret
      exact ⟨rfl, HR.out, (Only.below HO.out).trans H.out.2.1, fun B hB => (HO.out.mono (by have := HG.out.lt; omega)).trans (H.out.2.2 B hB)⟩
theorem minmax_ne (p q : Int) : decide (min p q < max p q) = !(p == q) := by
  by_cases h : p = q
  · subst h; simp
  · have h2 : min p q < max p q := by omega
    rw [decide_eq_true h2]; simp [h]
theorem ex_of {ops : Array Oper} {o : Oper} {E : Env} {L : List Value} {a : Act} {w : World} {k : Nat} {v : Value} (hk : ∀ d ∈ o.looksAt ops, known E L d (a.tmps.getD d undef) w) (hq : lk E k = some (.ex v)) (hl : (o.looksAt ops).contains k = true) : a.tmps.getD k undef = v := by
  have := hk k (by simpa using hl)
  unfold known at this; rw [hq] at this; exact this
def grW (n : Int) (F : List TieD) : Word := fun u w => ∃ a' c', u = gV n a' F.length c' ∧ TiesAt w a' F
theorem grW_lasts {w0 : World} (n : Int) (F : List TieD) : lasts (clOld w0) (grW n F) := fun v w w' _ hR ⟨a', c', hv, h⟩ => ⟨a', c', hv, h.below hR⟩
def wkgW (n : Nat) (l : List Int) : Word := fun u w => ∃ a' m' c' g, u = wkV n a' m' c' g n ∧ NB w g l
theorem wkgW_lasts {w0 : World} (n : Nat) (l : List Int) : lasts (clOld w0) (wkgW n l) := fun v w w' _ hR ⟨a', m', c', g, hv, h⟩ => ⟨a', m', c', g, hv, h.block (Below.block hR g h.lt)⟩
def nbW (n : Nat) (l : List Int) : Word := fun u w => ∃ g, u = .slice (some ⟨g, 0, none⟩) n n ∧ NB w g l
theorem nbW_lasts {w0 : World} (n : Nat) (l : List Int) : lasts (clOld w0) (nbW n l) := fun v w w' _ hR ⟨g, hv, h⟩ => ⟨g, hv, h.block (Below.block hR g h.lt)⟩
/-- An append of one number to a row of one's own. -/
theorem own_int (w : World) (base q : Nat) (ty : TypeId) (fa : Option Addr) (fc : Nat) (xs : List Value) (b9 : Nat) (x : Int) (hown : w.ownsRow base 3 1 (.slice fa q fc) q xs) (ht : w.cell? ⟨b9, 0, none⟩ = some (.int .i64 x)) (hq : q ≤ 5000) (hb : base ≤ w.heap.size) :
    ∃ f2 c2 w', (Builtin.append_ #[27, 27] ty #[.slice fa q fc, .slice (some ⟨b9, 0, none⟩) 1 1]).run Tryz.prog w = .ok (.slice f2 (q + 1) c2) w' ∧ w'.ownsRow base 3 1 (.slice f2 (q + 1) c2) (q + 1) (xs ++ [.int .i64 x]) ∧ w.grownBy w' (Value.ownBlock (.slice fa q fc)) := by
  obtain ⟨i0, hi0, hz0, hz1, hz2⟩ := info_parts infoInt
  obtain ⟨v', w', h1, h2, h3, _⟩ := run_append_own w base 27 ty 3 i0 _ 1 8 Tryz.underlying27 hi0 hz0 hz1 hz2 rfl (by decide) (.slice fa q fc) q xs hown ⟨b9, 0, none⟩ 1 1 [.int .i64 x] rfl (fun j u hj => by
    match j, hj with
    | 0, hj => have e : some (Value.int .i64 x) = some u := hj; rw [← e, addr_plain]; exact ht) (by simp [Value.oneCell']) (by simp only [maxLen]; omega) (by omega) hb
  obtain ⟨f2, c2, rfl⟩ := own_slice h2
  exact ⟨f2, c2, w', h1, h2, h3⟩
theorem own_intsB {W : World} {base : Nat} {a : Option Addr} {k c : Nat} {l : List Int} (h : W.ownsRow base 3 1 (.slice a k c) k (ivL l)) : k = l.length ∧ IntsAt W a l := by
  obtain ⟨hl, h⟩ := h
  have hl : k = l.length := by rw [ivL_len] at hl; omega
  refine ⟨hl, ?_⟩
  rcases h with ⟨e, h0⟩ | ⟨g, cap, cur, e, hg, hb, h1, h2, h3, h4⟩
  · exact .inl (List.length_eq_zero_iff.1 (by omega))
  · injection e with e1
    subst e1
    refine .inr ⟨g, 0, rfl, (Array.getElem?_eq_some_iff.1 hb).1, fun i x hi => ?_⟩
    have h5 : (ivL l)[i]? = some (.int .i64 x) := by simp [ivL, hi]
    rw [← h4, List.getElem?_take] at h5
    split at h5
    · rw [Nat.zero_add]
      simp only [World.cell?, hb]
      rw [← Array.getElem?_toList]; exact h5
    · cases h5
/-- A row of numbers of one's own and a block of another kind. -/
theorem own_neI {W : World} {B q n : Nat} {v : Value} {xs ys : List Value} {t : TypeId} (h : W.ownsRow B 3 1 v n xs) (hq : Blk W q ys t) (ht : t ≠ 3) : v.ownBlock ≠ some q := fun e => by
  rcases h.2 with ⟨rfl, _⟩ | ⟨g, cap, cur, rfl, _, h3, _⟩
  · cases e
  · have e2 : g = q := by simpa [Value.ownBlock] using e
    subst e2
    unfold Blk at hq
    rw [hq] at h3
    injection h3 with h3
    injection h3 with _ h3
    exact ht h3
theorem own_onlyI {W W' : World} {B q n : Nat} {v : Value} {xs : List Value} (h : W.ownsRow B 3 1 v n xs) (hq : q < B) (ho : Only q W W') : W'.ownsRow B 3 1 v n xs :=
  ⟨h.1, h.2.imp id fun ⟨g, cap, cur, h1, h2, h3, h4⟩ => ⟨g, cap, cur, h1, h2, (ho.1 g (Array.getElem?_eq_some_iff.1 h3).1 (by omega)).trans h3, h4⟩⟩
end Go.Proofs.YthjeiaildabadaaGreat
/- Layer 4: the way back, walked. -/
namespace Go.Proofs.YthjeiaildabadaaGreat
set_option linter.unusedSimpArgs false
set_option linter.unusedVariables false
open Go Go.RowKit

def zvS : Value := .agg #[.int .i64 0, .int .i64 0, .int .i64 0, .bool false]
theorem zero_st : ∀ w, (zeroValue 107).run Tryz.prog w = .ok zvS w := fun w => by simp [go_sem, zvS]
theorem load_st {w : World} {b o : Nat} {x y z u : Value} (h0 : w.cell? ⟨b, o, none⟩ = some x) (h1 : w.cell? ⟨b, o + 1, none⟩ = some y) (h2 : w.cell? ⟨b, o + 2, none⟩ = some z) (h3 : w.cell? ⟨b, o + 3, none⟩ = some u) : (Instr.loadAt 107 (.pointer (some ⟨b, o, none⟩))).run Tryz.prog w = .ok (.agg #[x, y, z, u]) w := by
  simp [go_sem, Instr.loadAt, h0, h1, h2, h3]
theorem blk_ty {W : World} {g : Nat} {xs ys : List Value} {t t' : TypeId} (h : Blk W g xs t) (h' : Blk W g ys t') (ht : t ≠ t') : False := by
  unfold Blk at h h'
  rw [h] at h'
  injection h' with h'
  injection h' with _ h'
  exact ht h'
theorem own_onlyT {W W' : World} {B q n : Nat} {v : Value} {xs ys : List Value} {t : TypeId} (h : W.ownsRow B 3 1 v n xs) (hq : Blk W q ys t) (ht : t ≠ 3) (ho : Only q W W') : W'.ownsRow B 3 1 v n xs := by
  have hne := own_neI h hq ht
  refine ⟨h.1, h.2.imp id fun ⟨g, cap, cur, h1, h2, h3, h4⟩ => ⟨g, cap, cur, h1, h2, (ho.1 g (Array.getElem?_eq_some_iff.1 h3).1 ?_).trans h3, h4⟩⟩
  rintro rfl
  rw [h1] at hne
  exact hne (by simp [Value.ownBlock])
theorem own_monoI {W : World} {B B' : Nat} {v : Value} {n : Nat} {xs : List Value} (h : W.ownsRow B 3 1 v n xs) (hb : B' ≤ B) : W.ownsRow B' 3 1 v n xs :=
  ⟨h.1, h.2.imp id fun ⟨g, cap, cur, h1, h2, h3⟩ => ⟨g, cap, cur, h1, Nat.le_trans hb h2, h3⟩⟩
theorem Bk.inv {c : List StepD} {first q : Plc} {l : List Int} (h : Bk c first q l) : (q = first ∧ l = []) ∨ ∃ s l', l = s.tie :: l' ∧ q ≠ first ∧ q.1 < 32 ∧ q.2 < 2 ∧ c[plI q]? = some s ∧ s.done = true ∧ Bk c first (s.fn, s.fc) l' := by
  cases h with
  | stop => exact .inl ⟨rfl, rfl⟩
  | step h1 h2 h3 h4 h5 h6 => exact .inr ⟨_, _, rfl, h1, h2, h3, h4, h5, h6⟩
/-- What slices.Reverse does with a row of numbers of one's own. -/
def RevOk : Prop := ∀ (W : World) (base : Nat) (r : Option Addr) (cap : Nat) (l : List Int), l.length ≤ 1000 → base ≤ W.heap.size → W.ownsRow base 3 1 (.slice r l.length cap) l.length (ivL l) →
    Calls Tryz.prog 117 #[.slice r l.length cap] W fun e w' => (∃ u, e = .returned u) ∧ w'.ownsRow base 3 1 (.slice r l.length cap) l.length (ivL l.reverse) ∧ Below base W w'
set_option maxRecDepth 100000 in
set_option maxHeartbeats 8000000 in
theorem back_any (HRV : RevOk) (c : List StepD) (first p : Plc) (l : List Int) (g : Nat) (w : World) (hb : Bk c first p l) (hl : l.length ≤ 100) (hc : Blk w g (cmV c) 110) :
    Calls Tryz.prog 97 #[.pointer (some ⟨g, 0, none⟩), .agg #[.int .i64 first.1, .int .i64 first.2], .agg #[.int .i64 p.1, .int .i64 p.2]] w fun e w' => ∃ r k, e = .returned (.slice r l.length k) ∧ w'.ownsRow w.heap.size 3 1 (.slice r l.length k) l.length (ivL l.reverse) ∧ Below w.heap.size w w' := by
  have HRV' := Lib.hid HRV
  have HBK0 := Lib.hid hb
  have HC0 := Lib.hid hc
  have HLL0 : Hid (l.length ≤ 100) := hl
  clear hb hc hl HRV
  have HB3 := Lib.hid (B3.new w [.int .i64 first.1, .int .i64 first.2] [.int .i64 p.1, .int .i64 p.2] [.int .i64 p.1, .int .i64 p.2] 102 102 102)
  go_enter Tryz.func97, Tryz.ntmps97
  go_wp2_with fail
  refine named (fun V => Hid (Blk V g (cmV c) 110) ∧ Hid (Blk V w.heap.size [.int .i64 first.1, .int .i64 first.2] 102) ∧ Hid (Blk V (w.heap.size + 1 + 1) [.int .i64 p.1, .int .i64 p.2] 102) ∧ Hid (Below w.heap.size w V)) ⟨HC0.out.below HB3.out.2.2.2, HB3.out.1, HB3.out.2.2.1, HB3.out.2.2.2⟩ ?_
  clear HB3 HC0
  rintro V0 ⟨HC, H4, H8, HB⟩
  generalize hb4 : w.heap.size = b4 at H4 H8 ⊢
  generalize hb5 : b4 + 1 = b5 at H8 ⊢
  generalize hb8 : b5 + 1 = b8 at H8 ⊢
  have HBB : Hid (w.heap.size = b4 ∧ b4 < b5) := ⟨hb4, by omega⟩
  have HB80 : Hid (b5 < b8) := by rw [Hid]; omega
  have HBS : Hid (b5 + 1 ≤ w.heap.size + 2) := by rw [Hid]; omega
  clear hb4 hb5 hb8
  have HO0 : Hid (V0.ownsRow (b5 + 1) 3 1 (.slice none 0 0) ([] : List Int).length (ivL [])) := World.ownsRow_nil _ _ _ _
  go_wp2_with fail
  go_loopg [7, 8] l.length (fun gk t7 t8 wr => ∃ (q : Plc) (l1 l2 : List Int) (b8 : Nat), Hid (Bk c first q l2) ∧ Hid (l1 ++ l2 = l) ∧ l2.length = gk ∧ t8 = .pointer (some ⟨b8, 0, none⟩) ∧ Hid (wr.ownsRow (b5 + 1) 3 1 t7 l1.length (ivL l1)) ∧ Hid (Blk wr g (cmV c) 110) ∧ Hid (Blk wr b4 [.int .i64 first.1, .int .i64 first.2] 102) ∧ Hid (Blk wr b8 [.int .i64 q.1, .int .i64 q.2] 102) ∧ Hid (b5 < b8) ∧ Hid (Below w.heap.size w wr))
  case atStart => exact ⟨p, [], l, b8, HBK0, rfl, rfl, rfl, HO0, HC, H4, H8, HB80, HB⟩
  case round =>
    clear HBK0 HO0 HC H4 H8 HB80 HB
    obtain ⟨⟨q1, q2⟩, l1, l2, b8, HBK, HCAT, hgk, rfl, HO, HC, H4, H8, HB8, HB⟩ := hrel
    obtain ⟨fa, fc, rfl⟩ := own_slice HO.out
    simp only at H8
    have HLL : Hid (l1.length ≤ 100) := by have h1 := HLL0.out; have h2 := HCAT.out; rw [← h2, List.length_append] at h1; rw [Hid]; omega
    have HWS : Hid (b5 + 1 ≤ wr.heap.size) := by have h1 := H8.out.lt; have h2 := HB8.out; rw [Hid]; omega
    have q0 := H8.out.cell (i := 0) rfl
    have q1c := H8.out.cell (i := 1) rfl
    have p0 := H4.out.cell (i := 0) rfl
    have p1 := H4.out.cell (i := 1) rfl
    rcases HBK.out.inv with ⟨e1, e2⟩ | ⟨⟨st, sn, sc, sd⟩, l2', rfl, hne, h32, h2, hs, hd, hbk⟩
    · subst e2
      have e3 : q1 = first.1 := by rw [← e1]
      have e4 : q2 = first.2 := by rw [← e1]
      clear e1
      subst e3
      subst e4
      have HE : Hid (l1 = l) := by have h := HCAT.out; rw [List.append_nil] at h; exact h
      have HRX : Hid (Calls Tryz.prog 117 #[.slice fa l1.length fc] wr fun e w' => (∃ u, e = .returned u) ∧ w'.ownsRow (b5 + 1) 3 1 (.slice fa l1.length fc) l1.length (ivL l1.reverse) ∧ Below (b5 + 1) wr w') := HRV'.out wr (b5 + 1) fa fc l1 (by have := HLL.out; omega) (by have h1 := H8.out.lt; have h3 := HB8.out; omega) HO.out
      clear HBK HCAT
      go_wp2_with (first | (go_at_call 117; go_loud (refine HRX.out.mono ?_; rintro e w9 ⟨⟨u, rfl⟩, ho9, hb9⟩; clear HRX; have HO9 := Lib.hid ho9; have HB9 : Hid (Below w.heap.size w w9) := HB.out.trans (hb9.mono (by have := HBB.out; omega)); clear ho9 hb9)))
      refine bodyPost_ret (v := .slice fa l1.length fc) (by simp [results, Tryz.results97, go_sem]) rfl ?_
      exact ⟨fa, fc, by rw [HE.out], by rw [← HE.out]; exact own_monoI HO9.out (by have := HBB.out; omega), HB9.out⟩
    · simp only at hd h32 h2
      subst hd
      have HQ32 : Hid (q1 < 32 ∧ q2 < 2) := ⟨h32, h2⟩
      have HI4 : Hid (plI (q1, q2) * 4 = q1 * 8 + q2 * 4) := by unfold plI; rw [Hid]; omega
      have HX0 : Hid ((cmV c)[q1 * 8 + q2 * 4]? = some (.int .i64 st)) := by have h := cmV_get hs (j := 0) rfl; rw [HI4.out] at h; exact h
      have HX1 : Hid ((cmV c)[q1 * 8 + q2 * 4 + 1]? = some (.int .i64 sn)) := by have h := cmV_get hs (j := 1) rfl; rw [HI4.out] at h; exact h
      have HX2 : Hid ((cmV c)[q1 * 8 + q2 * 4 + 2]? = some (.int .i64 sc)) := by have h := cmV_get hs (j := 2) rfl; rw [HI4.out] at h; exact h
      have HX3 : Hid ((cmV c)[q1 * 8 + q2 * 4 + 3]? = some (.bool true)) := by have h := cmV_get hs (j := 3) rfl; rw [HI4.out] at h; exact h
      have HBK2 : Hid (Bk c first (sn, sc) l2') := hbk
      have hgk2 : l2'.length + 1 = gk := by simpa using hgk
      clear hs hbk h32 h2 HBK hgk
      by_cases hq1 : q1 = first.1
      · have tb1 : ((q2 : Int) == (first.2 : Int)) = false := by rw [beq_eq_false_iff_ne]; intro e; exact hne (by obtain ⟨f1, f2⟩ := first; simp only at hq1 e; rw [hq1, show q2 = f2 by omega])
        have tb2 : (q2 == first.2) = false := by rw [beq_eq_false_iff_ne]; intro e; exact hne (by obtain ⟨f1, f2⟩ := first; simp only at hq1 e; rw [hq1, e])
        have tb0 : ((q1 : Int) == (first.1 : Int)) = true := by rw [hq1]; simp
        have tb3 : (q1 == first.1) = true := by rw [hq1]; simp
        clear hne hq1
        go_upto_region 4 with (fail)
        have HOWD : Hid (∀ w1, (clOld wr.drew).C w1 → Below wr.heap.size wr w1) := fun w1 hC => old_end (Below.refl _ _) hC (Nat.le_refl _)
        refine wp_region_two (Z := (fun e => if e = 107 then zvS else .bool false)) 11 34 10 11 [] [107] (by kernel_rfl) (by kernel_rfl) (by kernel_rfl) (by kernel_rfl) (by intro e he w; simp only [List.mem_cons, List.not_mem_nil, or_false] at he; rcases he with rfl <;> first | exact zero_st w) (by rfl) ?_
        simp only [List.take_succ_cons, List.take_zero, List.eraseIdx_cons_succ, List.eraseIdx_cons_zero]
        refine chain_move (.pointer (some ⟨g, 0, none⟩)) _ (fun _ _ => Below.refl _ _) rfl rfl (by kernel_rfl) (by kernel_rfl) rfl ?_
        refine chain_val (.pointer (some ⟨b8, 0, none⟩)) (fun _ _ => Below.refl _ _) rfl (by intro cs b h; cases h) (by kernel_rfl) (by kernel_rfl) (fun w1 _ => by simp [execOp, evE, lk_cons, lk_nil, slotL, go_sem]) ?_
        refine chain_load (.int .i64 q1) _ _ _ (fun _ _ => Below.refl _ _) rfl rfl (by kernel_rfl) (by kernel_rfl) rfl (fun w1 hC => load_i64 ((H8.out.below (HOWD.out w1 hC)).cell rfl)) ?_
        refine chain_val (.pointer (some ⟨b8, 1, none⟩)) (fun _ _ => Below.refl _ _) rfl (by intro cs b h; cases h) (by kernel_rfl) (by kernel_rfl) (fun w1 _ => by simp [execOp, evE, lk_cons, lk_nil, slotL, go_sem]) ?_
        refine chain_load (.int .i64 q2) _ _ _ (fun _ _ => Below.refl _ _) rfl rfl (by kernel_rfl) (by kernel_rfl) rfl (fun w1 hC => load_i64 ((H8.out.below (HOWD.out w1 hC)).cell rfl)) ?_
        refine chain_val (.pointer (some ⟨g, 0, none⟩)) (fun _ _ => Below.refl _ _) rfl (by intro cs b h; cases h) (by kernel_rfl) (by kernel_rfl) (fun w1 _ => by simp [execOp, evE, lk_cons, lk_nil, slotL, go_sem]) ?_
        refine chain_idx (.pointer (some ⟨g, q1 * 8, none⟩)) _ _ _ (.pointer (some ⟨g, 0, none⟩)) (.int .i64 q1) (fun _ _ => Below.refl _ _) rfl rfl (by kernel_rfl) (by kernel_rfl) rfl rfl (fun w1 => idx_cm _ _ HQ32.out.1 w1) ?_
        refine chain_idx (.pointer (some ⟨g, q1 * 8 + q2 * 4, none⟩)) _ _ _ (.pointer (some ⟨g, q1 * 8, none⟩)) (.int .i64 q2) (fun _ _ => Below.refl _ _) rfl rfl (by kernel_rfl) (by kernel_rfl) rfl rfl (fun w1 => idx_cm2 _ _ _ HQ32.out.2 w1) ?_
        refine chain_load (.agg #[.int .i64 st, .int .i64 sn, .int .i64 sc, .bool true]) _ _ _ (fun _ _ => Below.refl _ _) rfl rfl (by kernel_rfl) (by kernel_rfl) rfl (fun w1 hC => load_st ((HC.out.below (HOWD.out w1 hC)).cell HX0.out) ((HC.out.below (HOWD.out w1 hC)).cell HX1.out) ((HC.out.below (HOWD.out w1 hC)).cell HX2.out) ((HC.out.below (HOWD.out w1 hC)).cell HX3.out)) ?_
        refine chain_alloc 107 zvS rfl rfl (by kernel_rfl) (by kernel_rfl) (fun w => zero_st w) ?_
        refine ⟨_, rfl, by kernel_rfl, ?_⟩
        intro A w1 hC hk hN
        obtain ⟨p9, hx9, hB9, hk9⟩ := hN.1 9 _ _ 9 (by decide) (by rfl) (by rfl) rfl rfl rfl
        have hk9' : Blk w1 p9 [.int .i64 0, .int .i64 0, .int .i64 0, .bool false] 107 := hk9
        have d0 := hk9'.cell (i := 0) rfl
        have d1 := hk9'.cell (i := 1) rfl
        have d2 := hk9'.cell (i := 2) rfl
        have d3 := hk9'.cell (i := 3) rfl
        have f0 := hk9'.frozen 0
        have f1 := hk9'.frozen 1
        have f2 := hk9'.frozen 2
        have f3 := hk9'.frozen 3
        have hb1 := HOWD.out w1 hC
        refine wp_of_skip (w' := (((w1.setCell ⟨p9, 0, none⟩ (.int .i64 st)).setCell ⟨p9, 1, none⟩ (.int .i64 sn)).setCell ⟨p9, 2, none⟩ (.int .i64 sc)).setCell ⟨p9, 3, none⟩ (.bool true)) ?_ ?_
        · rw [execOp_congr _ (by intro cs b h; cases h) (eval_of1 9 (fun x => by kernel_rfl) hk), hx9]
          simp [execOp, evE, lk_cons, lk_nil, go_sem, d0, d1, d2, d3, f0, f1, f2, f3]
        refine ⟨undef, clOld _, [(9, .pointer (some ⟨p9, 0, none⟩))], rfl, Below.refl _ _, fun _ _ h hb => Old.step h hb, ?_, ?_⟩
        · intro pr hpr
          obtain rfl : pr = (9, .pointer (some ⟨p9, 0, none⟩)) := by simpa using hpr
          exact ⟨hx9, by simp, by rfl⟩
        simp only [List.take_succ_cons, List.take_zero, List.drop_succ_cons, List.drop_zero, List.drop_nil, envB, List.map_cons, List.map_nil, List.nil_append, List.cons_append, weak, weak1]
        refine ⟨fun i hi => (by cases hi), chain_end (by rfl) ?_⟩
        intro xs w7 hC7 hre
        have hs9 : Below wr.heap.size wr ((((w1.setCell ⟨p9, 0, none⟩ (.int .i64 st)).setCell ⟨p9, 1, none⟩ (.int .i64 sn)).setCell ⟨p9, 2, none⟩ (.int .i64 sc)).setCell ⟨p9, 3, none⟩ (.bool true)) := (((hb1.setCell hB9 _).setCell hB9 _).setCell hB9 _).setCell hB9 _
        have hC7' : Below ((((w1.setCell ⟨p9, 0, none⟩ (.int .i64 st)).setCell ⟨p9, 1, none⟩ (.int .i64 sn)).setCell ⟨p9, 2, none⟩ (.int .i64 sc)).setCell ⟨p9, 3, none⟩ (.bool true)).heap.size ((((w1.setCell ⟨p9, 0, none⟩ (.int .i64 st)).setCell ⟨p9, 1, none⟩ (.int .i64 sn)).setCell ⟨p9, 2, none⟩ (.int .i64 sc)).setCell ⟨p9, 3, none⟩ (.bool true)) w7 := hC7
        have HP9 : Hid (Blk w7 p9 [.int .i64 st, .int .i64 sn, .int .i64 sc, .bool true] 107) := ((((hk9'.set_ 0 (.int .i64 st)).set_ 1 (.int .i64 sn)).set_ 2 (.int .i64 sc)).set_ 3 (.bool true)).below hC7'
        have hb7 : Below wr.heap.size wr w7 := hs9.trans (hC7'.mono hs9.size)
        have HB7S : Hid (wr.heap.size ≤ w7.heap.size) := hb7.size
        replace HC := Lib.hid (HC.out.below hb7)
        replace H4 := Lib.hid (H4.out.below hb7)
        replace H8 := Lib.hid (H8.out.below hb7)
        replace HO := Lib.hid (own_below HO.out hb7)
        replace HB := Lib.hid (HB.out.trans (hb7.mono HB.out.size))
        simp only [layE, List.foldr_cons, List.foldr_nil, List.set_cons_succ, List.set_cons_zero]
        have HNE : Hid (b8 ≠ g ∧ p9 ≠ b8) := ⟨fun e => by have h1 := H8.out; rw [e] at h1; exact blk_ty h1 HC.out (by decide), fun e => by have h1 := HP9.out; rw [e] at h1; exact blk_ty h1 H8.out (by decide)⟩
        clear hC7 hC7' hs9 hb7 hre hk9 hk9' d0 d1 d2 d3 f0 f1 f2 f3 hb1 hx9 hk hN hC hB9 HOWD HX0 HX1 HX2 HX3
        have x0 := HP9.out.cell (i := 0) rfl
        have HA : Hid (Below w7.heap.size w7 (w7.alloc (.cells #[.int .i64 st] 3))) := (Below.refl _ _).alloc (Nat.le_refl _) _
        have HOA : Hid ((w7.alloc (.cells #[.int .i64 st] 3)).ownsRow (b5 + 1) 3 1 (.slice fa l1.length fc) l1.length (ivL l1)) := own_below HO.out HA.out
        have HNEW : Hid ((w7.alloc (.cells #[.int .i64 st] 3)).cell? ⟨w7.heap.size, 0, none⟩ = some (.int .i64 st)) := (Blk.new w7 [.int .i64 st] 3).cell rfl
        have HSZ : Hid (b5 + 1 ≤ (w7.alloc (.cells #[.int .i64 st] 3)).heap.size) := Nat.le_trans (Nat.le_trans HWS.out HB7S.out) HA.out.size
        go_upto_region 6 with (first | (at_builtin; go_loud (obtain ⟨f2, c2, w9, hr, hown, hgrow⟩ := own_int (w7.alloc (.cells #[.int .i64 st] 3)) (b5 + 1) l1.length 27 fa fc (ivL l1) w7.heap.size st HOA.out HNEW.out (by have := HLL.out; omega) HSZ.out; refine Lib.wpList_append_run _ rfl _ _ _ _ rfl _ _ rfl rfl _ _ hr ?_; clear hr; have kb : ∀ {q xs t}, t ≠ 3 → Blk w7 q xs t → Blk w9 q xs t := (fun ht h => (h.below HA.out).block (hgrow.block _ (h.below HA.out).lt (fun e => own_neI HOA.out (h.below HA.out) ht e.symm))); have K9O := Lib.hid hown; have K9C := Lib.hid (kb (by decide) HC.out); have K94 := Lib.hid (kb (by decide) H4.out); have K98 := Lib.hid (kb (by decide) H8.out); have K99 := Lib.hid (kb (by decide) HP9.out); have K9B : Hid (Below w.heap.size w w9) := (HB.out.trans (HA.out.mono HB.out.size)).grown hgrow (Nat.le_trans HB.out.size HA.out.size) (fun q' hq' => by have h9 := (World.ownsRow.lt HOA.out q' hq').1; have h8 := HBB.out; omega); clear hown hgrow kb)))
        clear HP9 HC H4 H8 HO HB HOA HNEW HSZ HA x0
        have x1 := K99.out.cell (i := 1) rfl
        have x2 := K99.out.cell (i := 2) rfl
        have y0 := K98.out.cell (i := 0) rfl
        have y1 := K98.out.cell (i := 1) rfl
        have f0 := K98.out.frozen 0
        have f1 := K98.out.frozen 1
        go_upto_region 7 with (fail)
        refine named (fun V => Hid (Blk V g (cmV c) 110) ∧ Hid (Blk V b4 [.int .i64 first.1, .int .i64 first.2] 102) ∧ Hid (Blk V b8 [.int .i64 sn, .int .i64 sc] 102) ∧ Hid (V.ownsRow (b5 + 1) 3 1 (.slice f2 (l1.length + 1) c2) (l1.length + 1) (ivL l1 ++ [.int .i64 st])) ∧ Hid (Below w.heap.size w V)) ?_ ?_
        · have o1 : Only b8 w9 ((w9.setCell ⟨b8, 0, none⟩ (.int .i64 sn)).setCell ⟨b8, 1, none⟩ (.int .i64 sc)) := ((Only.refl _ w9).set_ 0 _).set_ 1 _
          have hq8 : w.heap.size ≤ b8 := by have h1 := HBB.out; have h2 := HB8.out; omega
          exact ⟨K9C.out.only o1 (Ne.symm HNE.out.1), K94.out.only o1 (by have := HB8.out; have := HBB.out; omega), (K98.out.set_ 0 _).set_ 1 _, own_onlyT K9O.out K98.out (by decide) o1, (K9B.out.setCell hq8 _).setCell hq8 _⟩
        clear K9C K94 K98 K99 K9O K9B x1 x2 y0 y1 f0 f1 HNE
        rintro V7 ⟨K1, K2, K3, K4, K5⟩
        have x1 := K3.out.cell (i := 0) rfl
        have x2 := K3.out.cell (i := 1) rfl
        have hbA : Below V7.heap.size V7 (V7.alloc (.cells #[.int .i64 sn, .int .i64 sc] 102)) := (Below.refl _ _).alloc (Nat.le_refl _) _
        have HEND : Hid (Bk c first (sn, sc) l2' ∧ (l1 ++ [st]) ++ l2' = l ∧ Blk (V7.alloc (.cells #[.int .i64 sn, .int .i64 sc] 102)) V7.heap.size [.int .i64 sn, .int .i64 sc] 102 ∧ b5 < V7.heap.size) := ⟨HBK2.out, by have := HCAT.out; simp [← this], Blk.new V7 _ _, by have h1 := K3.out.lt; have h2 := HB8.out; omega⟩
        have HE1 := Lib.hid (K1.out.below hbA)
        have HE2 := Lib.hid (K2.out.below hbA)
        have HE4 : Hid ((V7.alloc (.cells #[.int .i64 sn, .int .i64 sc] 102)).ownsRow (b5 + 1) 3 1 (.slice f2 (l1 ++ [st]).length c2) (l1 ++ [st]).length (ivL (l1 ++ [st]))) := by rw [List.length_append, ivL_snoc]; exact own_below K4.out hbA
        have HE5 := Lib.hid (K5.out.trans (hbA.mono K5.out.size))
        have he2 : (Value.slice f2 (l1.length + 1) c2) = .slice f2 (l1 ++ [st]).length c2 := by rw [List.length_append]; rfl
        clear hbA K1 K2 K3 K4 K5
        go_wp2_with fail
        go_roundg (gk - 1)
        case measure => omega
        case rel => exact ⟨(sn, sc), l1 ++ [st], l2', V7.heap.size, HEND.out.1, HEND.out.2.1, by omega, rfl, (by first | exact HE4 | (rw [he2]; exact HE4)), HE1, HE2, HEND.out.2.2.1, HEND.out.2.2.2, HE5⟩
      · have tb1 : ((q1 : Int) == (first.1 : Int)) = false := by rw [beq_eq_false_iff_ne]; omega
        have tb2 : (q1 == first.1) = false := by rw [beq_eq_false_iff_ne]; exact hq1
        clear hne hq1
        go_upto_region 4 with (fail)
        have HOWD : Hid (∀ w1, (clOld wr.drew).C w1 → Below wr.heap.size wr w1) := fun w1 hC => old_end (Below.refl _ _) hC (Nat.le_refl _)
        refine wp_region_two (Z := (fun e => if e = 107 then zvS else .bool false)) 11 34 10 11 [] [107] (by kernel_rfl) (by kernel_rfl) (by kernel_rfl) (by kernel_rfl) (by intro e he w; simp only [List.mem_cons, List.not_mem_nil, or_false] at he; rcases he with rfl <;> first | exact zero_st w) (by rfl) ?_
        simp only [List.take_succ_cons, List.take_zero, List.eraseIdx_cons_succ, List.eraseIdx_cons_zero]
        refine chain_move (.pointer (some ⟨g, 0, none⟩)) _ (fun _ _ => Below.refl _ _) rfl rfl (by kernel_rfl) (by kernel_rfl) rfl ?_
        refine chain_val (.pointer (some ⟨b8, 0, none⟩)) (fun _ _ => Below.refl _ _) rfl (by intro cs b h; cases h) (by kernel_rfl) (by kernel_rfl) (fun w1 _ => by simp [execOp, evE, lk_cons, lk_nil, slotL, go_sem]) ?_
        refine chain_load (.int .i64 q1) _ _ _ (fun _ _ => Below.refl _ _) rfl rfl (by kernel_rfl) (by kernel_rfl) rfl (fun w1 hC => load_i64 ((H8.out.below (HOWD.out w1 hC)).cell rfl)) ?_
        refine chain_val (.pointer (some ⟨b8, 1, none⟩)) (fun _ _ => Below.refl _ _) rfl (by intro cs b h; cases h) (by kernel_rfl) (by kernel_rfl) (fun w1 _ => by simp [execOp, evE, lk_cons, lk_nil, slotL, go_sem]) ?_
        refine chain_load (.int .i64 q2) _ _ _ (fun _ _ => Below.refl _ _) rfl rfl (by kernel_rfl) (by kernel_rfl) rfl (fun w1 hC => load_i64 ((H8.out.below (HOWD.out w1 hC)).cell rfl)) ?_
        refine chain_val (.pointer (some ⟨g, 0, none⟩)) (fun _ _ => Below.refl _ _) rfl (by intro cs b h; cases h) (by kernel_rfl) (by kernel_rfl) (fun w1 _ => by simp [execOp, evE, lk_cons, lk_nil, slotL, go_sem]) ?_
        refine chain_idx (.pointer (some ⟨g, q1 * 8, none⟩)) _ _ _ (.pointer (some ⟨g, 0, none⟩)) (.int .i64 q1) (fun _ _ => Below.refl _ _) rfl rfl (by kernel_rfl) (by kernel_rfl) rfl rfl (fun w1 => idx_cm _ _ HQ32.out.1 w1) ?_
        refine chain_idx (.pointer (some ⟨g, q1 * 8 + q2 * 4, none⟩)) _ _ _ (.pointer (some ⟨g, q1 * 8, none⟩)) (.int .i64 q2) (fun _ _ => Below.refl _ _) rfl rfl (by kernel_rfl) (by kernel_rfl) rfl rfl (fun w1 => idx_cm2 _ _ _ HQ32.out.2 w1) ?_
        refine chain_load (.agg #[.int .i64 st, .int .i64 sn, .int .i64 sc, .bool true]) _ _ _ (fun _ _ => Below.refl _ _) rfl rfl (by kernel_rfl) (by kernel_rfl) rfl (fun w1 hC => load_st ((HC.out.below (HOWD.out w1 hC)).cell HX0.out) ((HC.out.below (HOWD.out w1 hC)).cell HX1.out) ((HC.out.below (HOWD.out w1 hC)).cell HX2.out) ((HC.out.below (HOWD.out w1 hC)).cell HX3.out)) ?_
        refine chain_alloc 107 zvS rfl rfl (by kernel_rfl) (by kernel_rfl) (fun w => zero_st w) ?_
        refine ⟨_, rfl, by kernel_rfl, ?_⟩
        intro A w1 hC hk hN
        obtain ⟨p9, hx9, hB9, hk9⟩ := hN.1 9 _ _ 9 (by decide) (by rfl) (by rfl) rfl rfl rfl
        have hk9' : Blk w1 p9 [.int .i64 0, .int .i64 0, .int .i64 0, .bool false] 107 := hk9
        have d0 := hk9'.cell (i := 0) rfl
        have d1 := hk9'.cell (i := 1) rfl
        have d2 := hk9'.cell (i := 2) rfl
        have d3 := hk9'.cell (i := 3) rfl
        have f0 := hk9'.frozen 0
        have f1 := hk9'.frozen 1
        have f2 := hk9'.frozen 2
        have f3 := hk9'.frozen 3
        have hb1 := HOWD.out w1 hC
        refine wp_of_skip (w' := (((w1.setCell ⟨p9, 0, none⟩ (.int .i64 st)).setCell ⟨p9, 1, none⟩ (.int .i64 sn)).setCell ⟨p9, 2, none⟩ (.int .i64 sc)).setCell ⟨p9, 3, none⟩ (.bool true)) ?_ ?_
        · rw [execOp_congr _ (by intro cs b h; cases h) (eval_of1 9 (fun x => by kernel_rfl) hk), hx9]
          simp [execOp, evE, lk_cons, lk_nil, go_sem, d0, d1, d2, d3, f0, f1, f2, f3]
        refine ⟨undef, clOld _, [(9, .pointer (some ⟨p9, 0, none⟩))], rfl, Below.refl _ _, fun _ _ h hb => Old.step h hb, ?_, ?_⟩
        · intro pr hpr
          obtain rfl : pr = (9, .pointer (some ⟨p9, 0, none⟩)) := by simpa using hpr
          exact ⟨hx9, by simp, by rfl⟩
        simp only [List.take_succ_cons, List.take_zero, List.drop_succ_cons, List.drop_zero, List.drop_nil, envB, List.map_cons, List.map_nil, List.nil_append, List.cons_append, weak, weak1]
        refine ⟨fun i hi => (by cases hi), chain_end (by rfl) ?_⟩
        intro xs w7 hC7 hre
        have hs9 : Below wr.heap.size wr ((((w1.setCell ⟨p9, 0, none⟩ (.int .i64 st)).setCell ⟨p9, 1, none⟩ (.int .i64 sn)).setCell ⟨p9, 2, none⟩ (.int .i64 sc)).setCell ⟨p9, 3, none⟩ (.bool true)) := (((hb1.setCell hB9 _).setCell hB9 _).setCell hB9 _).setCell hB9 _
        have hC7' : Below ((((w1.setCell ⟨p9, 0, none⟩ (.int .i64 st)).setCell ⟨p9, 1, none⟩ (.int .i64 sn)).setCell ⟨p9, 2, none⟩ (.int .i64 sc)).setCell ⟨p9, 3, none⟩ (.bool true)).heap.size ((((w1.setCell ⟨p9, 0, none⟩ (.int .i64 st)).setCell ⟨p9, 1, none⟩ (.int .i64 sn)).setCell ⟨p9, 2, none⟩ (.int .i64 sc)).setCell ⟨p9, 3, none⟩ (.bool true)) w7 := hC7
        have HP9 : Hid (Blk w7 p9 [.int .i64 st, .int .i64 sn, .int .i64 sc, .bool true] 107) := ((((hk9'.set_ 0 (.int .i64 st)).set_ 1 (.int .i64 sn)).set_ 2 (.int .i64 sc)).set_ 3 (.bool true)).below hC7'
        have hb7 : Below wr.heap.size wr w7 := hs9.trans (hC7'.mono hs9.size)
        have HB7S : Hid (wr.heap.size ≤ w7.heap.size) := hb7.size
        replace HC := Lib.hid (HC.out.below hb7)
        replace H4 := Lib.hid (H4.out.below hb7)
        replace H8 := Lib.hid (H8.out.below hb7)
        replace HO := Lib.hid (own_below HO.out hb7)
        replace HB := Lib.hid (HB.out.trans (hb7.mono HB.out.size))
        simp only [layE, List.foldr_cons, List.foldr_nil, List.set_cons_succ, List.set_cons_zero]
        have HNE : Hid (b8 ≠ g ∧ p9 ≠ b8) := ⟨fun e => by have h1 := H8.out; rw [e] at h1; exact blk_ty h1 HC.out (by decide), fun e => by have h1 := HP9.out; rw [e] at h1; exact blk_ty h1 H8.out (by decide)⟩
        clear hC7 hC7' hs9 hb7 hre hk9 hk9' d0 d1 d2 d3 f0 f1 f2 f3 hb1 hx9 hk hN hC hB9 HOWD HX0 HX1 HX2 HX3
        have x0 := HP9.out.cell (i := 0) rfl
        have HA : Hid (Below w7.heap.size w7 (w7.alloc (.cells #[.int .i64 st] 3))) := (Below.refl _ _).alloc (Nat.le_refl _) _
        have HOA : Hid ((w7.alloc (.cells #[.int .i64 st] 3)).ownsRow (b5 + 1) 3 1 (.slice fa l1.length fc) l1.length (ivL l1)) := own_below HO.out HA.out
        have HNEW : Hid ((w7.alloc (.cells #[.int .i64 st] 3)).cell? ⟨w7.heap.size, 0, none⟩ = some (.int .i64 st)) := (Blk.new w7 [.int .i64 st] 3).cell rfl
        have HSZ : Hid (b5 + 1 ≤ (w7.alloc (.cells #[.int .i64 st] 3)).heap.size) := Nat.le_trans (Nat.le_trans HWS.out HB7S.out) HA.out.size
        go_upto_region 6 with (first | (at_builtin; go_loud (obtain ⟨f2, c2, w9, hr, hown, hgrow⟩ := own_int (w7.alloc (.cells #[.int .i64 st] 3)) (b5 + 1) l1.length 27 fa fc (ivL l1) w7.heap.size st HOA.out HNEW.out (by have := HLL.out; omega) HSZ.out; refine Lib.wpList_append_run _ rfl _ _ _ _ rfl _ _ rfl rfl _ _ hr ?_; clear hr; have kb : ∀ {q xs t}, t ≠ 3 → Blk w7 q xs t → Blk w9 q xs t := (fun ht h => (h.below HA.out).block (hgrow.block _ (h.below HA.out).lt (fun e => own_neI HOA.out (h.below HA.out) ht e.symm))); have K9O := Lib.hid hown; have K9C := Lib.hid (kb (by decide) HC.out); have K94 := Lib.hid (kb (by decide) H4.out); have K98 := Lib.hid (kb (by decide) H8.out); have K99 := Lib.hid (kb (by decide) HP9.out); have K9B : Hid (Below w.heap.size w w9) := (HB.out.trans (HA.out.mono HB.out.size)).grown hgrow (Nat.le_trans HB.out.size HA.out.size) (fun q' hq' => by have h9 := (World.ownsRow.lt HOA.out q' hq').1; have h8 := HBB.out; omega); clear hown hgrow kb)))
        clear HP9 HC H4 H8 HO HB HOA HNEW HSZ HA x0
        have x1 := K99.out.cell (i := 1) rfl
        have x2 := K99.out.cell (i := 2) rfl
        have y0 := K98.out.cell (i := 0) rfl
        have y1 := K98.out.cell (i := 1) rfl
        have f0 := K98.out.frozen 0
        have f1 := K98.out.frozen 1
        go_upto_region 7 with (fail)
        refine named (fun V => Hid (Blk V g (cmV c) 110) ∧ Hid (Blk V b4 [.int .i64 first.1, .int .i64 first.2] 102) ∧ Hid (Blk V b8 [.int .i64 sn, .int .i64 sc] 102) ∧ Hid (V.ownsRow (b5 + 1) 3 1 (.slice f2 (l1.length + 1) c2) (l1.length + 1) (ivL l1 ++ [.int .i64 st])) ∧ Hid (Below w.heap.size w V)) ?_ ?_
        · have o1 : Only b8 w9 ((w9.setCell ⟨b8, 0, none⟩ (.int .i64 sn)).setCell ⟨b8, 1, none⟩ (.int .i64 sc)) := ((Only.refl _ w9).set_ 0 _).set_ 1 _
          have hq8 : w.heap.size ≤ b8 := by have h1 := HBB.out; have h2 := HB8.out; omega
          exact ⟨K9C.out.only o1 (Ne.symm HNE.out.1), K94.out.only o1 (by have := HB8.out; have := HBB.out; omega), (K98.out.set_ 0 _).set_ 1 _, own_onlyT K9O.out K98.out (by decide) o1, (K9B.out.setCell hq8 _).setCell hq8 _⟩
        clear K9C K94 K98 K99 K9O K9B x1 x2 y0 y1 f0 f1 HNE
        rintro V7 ⟨K1, K2, K3, K4, K5⟩
        have x1 := K3.out.cell (i := 0) rfl
        have x2 := K3.out.cell (i := 1) rfl
        have hbA : Below V7.heap.size V7 (V7.alloc (.cells #[.int .i64 sn, .int .i64 sc] 102)) := (Below.refl _ _).alloc (Nat.le_refl _) _
        have HEND : Hid (Bk c first (sn, sc) l2' ∧ (l1 ++ [st]) ++ l2' = l ∧ Blk (V7.alloc (.cells #[.int .i64 sn, .int .i64 sc] 102)) V7.heap.size [.int .i64 sn, .int .i64 sc] 102 ∧ b5 < V7.heap.size) := ⟨HBK2.out, by have := HCAT.out; simp [← this], Blk.new V7 _ _, by have h1 := K3.out.lt; have h2 := HB8.out; omega⟩
        have HE1 := Lib.hid (K1.out.below hbA)
        have HE2 := Lib.hid (K2.out.below hbA)
        have HE4 : Hid ((V7.alloc (.cells #[.int .i64 sn, .int .i64 sc] 102)).ownsRow (b5 + 1) 3 1 (.slice f2 (l1 ++ [st]).length c2) (l1 ++ [st]).length (ivL (l1 ++ [st]))) := by rw [List.length_append, ivL_snoc]; exact own_below K4.out hbA
        have HE5 := Lib.hid (K5.out.trans (hbA.mono K5.out.size))
        have he2 : (Value.slice f2 (l1.length + 1) c2) = .slice f2 (l1 ++ [st]).length c2 := by rw [List.length_append]; rfl
        clear hbA K1 K2 K3 K4 K5
        go_wp2_with fail
        go_roundg (gk - 1)
        case measure => omega
        case rel => exact ⟨(sn, sc), l1 ++ [st], l2', V7.heap.size, HEND.out.1, HEND.out.2.1, by omega, rfl, (by first | exact HE4 | (rw [he2]; exact HE4)), HE1, HE2, HEND.out.2.2.1, HEND.out.2.2.2, HE5⟩
end Go.Proofs.YthjeiaildabadaaGreat
