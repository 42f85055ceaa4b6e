/- Contracts. -/
import Derived.Test.YtaefgofheiegeaaGreatTLq04
import Derived.Scope
namespace Go.Proofs.YtaefgofheiegeaaGreat
open Go
namespace Ev
section
variable {F : Type} {S : Sig F} {P : Program} {C : Cfg F}
theorem ex_over (g : Tr (Blk F)) (f : Nat → Blk F) : ∀ names : List Nat, ∃ g' : Tr (Blk F), ∀ m, g'.get m = if m ∈ names then some (f m) else g.get m
  | [] => ⟨g, fun m => by simp⟩
  | n :: l => by
    obtain ⟨g1, h1⟩ := ex_over g f l
    refine ⟨g1.set n (f n), fun m => ?_⟩
    rw [Tr.get_set, h1]
    by_cases h : m = n
    · subst h; simp
    · rw [if_neg h]
      simp [h]
def logged {α : Type} (m : M F α) : M F (α × Nat × Nat × List Nat × List Nat) := fun h nx => match m h nx with
  | .no => .no
  | .ok v h1 nx1 R W => .ok (v, nx, nx1, R, W) h1 nx1 R W
theorem loc_logged {α : Type} {m : M F α} (L : Loc m) : Loc (logged m) := by
  refine ⟨fun h nx a h' nx' R W e => ?_, fun h nx a h' nx' R W e hf => ?_⟩
  · unfold logged at e
    cases hs : m h nx with
    | no => rw [hs] at e; cases e
    | ok v h1 nx1 R1 W1 => rw [hs] at e; cases e; exact L.1 _ _ _ _ _ _ _ hs
  · unfold logged at e
    cases hs : m h nx with
    | no => rw [hs] at e; cases e
    | ok v h1 nx1 R1 W1 =>
      rw [hs] at e; cases e
      have LL := L.2 _ _ _ _ _ _ _ hs hf
      refine ⟨LL.le, LL.fr, LL.ltR, LL.ltW, LL.keep, LL.live, fun h2 a b => ?_⟩
      obtain ⟨g, c, t, u⟩ := LL.again h2 a b
      exact ⟨g, by unfold logged; rw [c], t, u⟩
theorem loc_anyOps (P : Program) (C : Cfg F) [HardLoc C] {call : Cl F} (hc : ClLoc call) (ops : Array Oper) (bef : Array Nat) : ∀ (l : List Oper) (i : Nat) (ds : List Did) (ts : Tr Value), Loc (anyOps P C call ops bef l i ds ts)
  | [], _, _, _ => loc_ret _
  | o :: l, i, ds, ts => by
    have key : anyOps P C call ops bef (o :: l) i ds ts = bind (logged (scp (step1 P C call ops ts o))) (fun x => cond (idle ⟨i, x.2.2.2.1, x.2.2.2.2, x.2.1, x.2.2.1⟩ || apartAll ⟨i, x.2.2.2.1, x.2.2.2.2, x.2.1, x.2.2.1⟩ (bef.getD i 0) ds)
          (anyOps P C call ops bef l (Nat.succ i) (noted ⟨i, x.2.2.2.1, x.2.2.2.2, x.2.1, x.2.2.1⟩ ds) (put ts o.dst x.1)) fail) := by
      funext h nx
      rw [any_cons, bind_eq]
      unfold logged
      cases scp (step1 P C call ops ts o) h nx with
      | no => rfl
      | ok v h1 nx1 R W =>
        simp only
        cases (idle ⟨i, R, W, nx, nx1⟩ || apartAll ⟨i, R, W, nx, nx1⟩ (bef.getD i 0) ds) with
        | false => rfl
        | true =>
          simp only [cond_true]
          cases anyOps P C call ops bef l (Nat.succ i) (noted ⟨i, R, W, nx, nx1⟩ ds) (put ts o.dst v) h1 nx1 <;> rfl
    rw [key]
    exact loc_bind (loc_logged (loc_scp (loc_step1 P C hc ops ts o))) fun x => loc_cond (loc_anyOps P C hc ops bef l _ _ _) loc_fail
theorem Mod.heap {r : Ren} {g : Nat → Option (Blk F)} {w w1 : World} (h : Mod S r g w) (e : w1.heap = w.heap) : Mod S r g w1 :=
  ⟨h.inj, fun n b hn => by rw [e]; exact h.lt n b hn, fun n c t hn => by
    obtain ⟨b, c', h1, h2, h3, h4⟩ := h.cells n c t hn
    exact ⟨b, c', h1, by rw [e]; exact h2, h3, h4⟩, fun n f hn => by
    obtain ⟨v, h1, h2, h3⟩ := h.fact n f hn
    exact ⟨v, h1, S.stable f w w1 v h2 fun b c t z hb _ => by rw [e]; exact hb, h3⟩, S.baseS w w1 h.base fun b o _ hb => by rw [e]; exact hb, h.glob, h.own, fun n c t hn => by
    obtain ⟨b, c', h1, h2, h3, h4, h5⟩ := h.room n c t hn
    exact ⟨b, c', h1, by rw [e]; exact h2, h3, h4, h5⟩, by rw [e]; exact h.sz, h.lp.mono (.refl r) (fun _ _ q => q) fun b L hb => by rw [e]; exact hb, h.ow.all (.refl r) (fun _ _ q => q) fun b o hb => by rw [e]; exact hb, h.ad⟩
structure Mid (S : Sig F) (X : Nat → Nat) (WW : Nat → List Nat) (n : Nat) (L : Nat → Bool) (r : Ren) (w : World) (r' : Ren) (w' : World) : Prop where
  le : r.le r'
  dom : ∀ m, r'.blk m ≠ none ∨ r'.val m ≠ none → (r.blk m ≠ none ∨ r.val m ≠ none) ∨ ∃ k, k < n ∧ L k = true ∧ X k ≤ m ∧ m < X (k + 1)
  new : ∀ m b, r'.blk m = some b → r.blk m = some b ∨ w.heap.size ≤ b ∨ ∃ k, k < n ∧ L k = true ∧ ∃ j ∈ WW k, r.blk j = some b
  keep : ∀ (b : Nat) (o : Obj), w.heap[b]? = some o → (∀ k, k < n → L k = true → ∀ m ∈ WW k, r.blk m ≠ some b) → w'.heap[b]? = some o
  size : w.heap.size ≤ w'.heap.size
  os : w'.os = w.os
  tape : w'.tape = w.tape
  output : w'.output = w.output
  loops : Loops w w'
theorem any_ok [HardLoc C] {call : Cl F} {ops : Array Oper} {N : Nat} (hF : Fits S P C) (hc : ClOK S P call) (ro : Option Nat) (n : Nat) (ds : List Deferred) (hok : okOps C N ops.toList = true) (htd : tidyRegion ops = true)
    {ts ts' : Tr Value} {h h' : Tr (Blk F)} {nx nx' : Nat} {R W : List Nat} {id : Nat} (e : Run (scp (anyOps P C call ops (Region.before ops) ops.toList 0 [] ts)) h nx ts' h' nx' R W)
    {r : Ren} {w : World} {a : Act} (hM : Mod S r h.get w) (hN : New r nx nx') (hT : TR r ts a) (hz : a.tmps.size = N) (hd : a.defers = ds) (hY : YOK S P call.ys r w) (Q : Exit → Act → World → Prop)
    (hQ : ∀ a' r' w', TR r' ts' a' → a'.tmps.size = N → a'.defers = ds → Ext S r w nx nx' W h'.get r' w' → Q .normal a' w') : (Code.region id ops true).wpIn (RF ro) n P Q a w := by
  obtain ⟨ok, hcan, hcan', hfr, ec, hR, hNn, ht, hu⟩ := e
  obtain ⟨R1, W1, e1, rfl, rfl, hb⟩ := scp_ok ec
  obtain ⟨T, H, X, V, RR, WW, h0, -, tr, hTn, hHn, hXn, hsub, hcov⟩ := any_trace ops.toList 0 [] ts ts' hcan hcan' nx nx' R1 W1 rfl e1 (fun _ => ts) (fun _ => hcan) (fun _ => nx) (fun _ => undef) (fun _ => []) (fun _ => []) rfl rfl rfl (fun k hk => by omega)
  simp only [Nat.zero_add, Array.length_toList] at tr hTn hHn hXn hsub hcov
  obtain ⟨hT0, hH0, hX0⟩ := h0 0 (Nat.le_refl _)
  obtain ⟨htt, hac⟩ := tidy_edges htd
  have hopsok : ∀ (j : Nat) (o : Oper), ops[j]? = some o → (∀ d, o.dst = some d → d < N) ∧ ∀ y ∈ o.op.operands.toList, okOpd C y = true := fun j o hj => okOps_mem hok o (List.mem_of_getElem? (by simpa using hj))
  have hfrX : ∀ j, j ≤ ops.size → Fr (H j) (X j) ∧ X 0 ≤ X j := by
    intro j
    induction j with
    | zero => intro _; rw [hH0, hX0]; exact ⟨hfr, Nat.le_refl _⟩
    | succ j ih =>
      intro hj
      obtain ⟨f1, f2⟩ := ih (by omega)
      have L := (loc_scp (loc_step1 P C hc.loc ops (T j) ops[j])).2 _ _ _ _ _ _ _ (tr.step j ops[j] (Nat.zero_le _) (by omega) (Array.getElem?_eq_getElem (by omega))) f1
      exact ⟨L.fr, Nat.le_trans f2 L.le⟩
  have hL : ∀ j (hj : j < ops.size), Lo (scp (step1 P C call ops (T j) ops[j])) (H j) (X j) (V j) (H (j + 1)) (X (j + 1)) (RR j) (WW j) := fun j hj =>
    (loc_scp (loc_step1 P C hc.loc ops (T j) ops[j])).2 _ _ _ _ _ _ _ (tr.step j ops[j] (Nat.zero_le _) hj (Array.getElem?_eq_getElem hj)) (hfrX j (by omega)).1
  have hXm : ∀ j k, j ≤ k → k ≤ ops.size → X j ≤ X k := by
    intro j k hjk
    induction hjk with
    | refl => intro _; exact Nat.le_refl _
    | step hjk ih => intro hk; exact Nat.le_trans (ih (by omega)) (hL _ (by omega)).le
  -- each new name has its maker
  have cover : ∀ j, j ≤ ops.size → ∀ m, nx ≤ m → m < X j → ∃ k, k < j ∧ X k ≤ m ∧ m < X (k + 1) := by
    intro j
    induction j with
    | zero => intro _ m a b; rw [hX0] at b; omega
    | succ j ih =>
      intro hj m a b
      by_cases hm : m < X j
      · obtain ⟨k, h1, h2, h3⟩ := ih (by omega) m a hm
        exact ⟨k, by omega, h2, h3⟩
      · exact ⟨j, by omega, by omega, b⟩
  let domH : Nat → Nat → Prop := fun k m => m ∈ WW k ∨ (X k ≤ m ∧ m < X (k + 1))
  let valH : Nat → Nat → Option (Blk F) := fun k m => (H (k + 1)).get m
  let domT : Nat → Nat → Prop := fun k t => (ops[k]?).bind (·.dst) = some t
  let valT : Nat → Nat → Value := fun k _ => V k
  let bit : Nat → Nat → Bool := fun j k => ((Region.before ops).getD j 0).testBit k
  have fullH : ∀ j, j ≤ ops.size → ∀ m, pf h.get domH valH (fun _ => true) j m = (H j).get m ∨ (pf h.get domH valH (fun _ => true) j m = h.get m ∧ (H j).get m = hcan.get m ∧ ∀ k, k < j → ¬ domH k m) := by
    intro j
    induction j with
    | zero => intro _ m; right; exact ⟨rfl, by rw [hH0], fun k hk => by omega⟩
    | succ j ih =>
      intro hj m
      have LL := hL j (by omega)
      by_cases hdm : domH j m
      · rw [pf_pos rfl hdm]; exact .inl rfl
      · rw [pf_neg (fun hh => hdm hh.2)]
        have hkeep : (H (j + 1)).get m = (H j).get m := by
          by_cases hm : m < X j
          · exact LL.keep m hm (fun hw => hdm (.inl hw))
          · have hm2 : X (j + 1) ≤ m := by
              rcases Nat.lt_or_ge m (X (j + 1)) with q | q
              · exact absurd (.inr ⟨by omega, q⟩) hdm
              · exact q
            rw [LL.fr m hm2, (hfrX j (by omega)).1 m (by omega)]
        rw [hkeep]
        rcases ih (by omega) m with q | ⟨q1, q2, q3⟩
        · exact .inl q
        · refine .inr ⟨q1, q2, fun k hk => ?_⟩
          by_cases hkj : k = j
          · subst hkj; exact hdm
          · exact q3 k (by omega)
  have fullT : ∀ j, j ≤ ops.size → ∀ t, pf (fun t => opd ts (.tmp t)) domT valT (fun _ => true) j t = opd (T j) (.tmp t) := by
    intro j
    induction j with
    | zero => intro _ t; show opd ts (.tmp t) = _; rw [hT0]
    | succ j ih =>
      intro hj t
      have ho : ops[j]? = some ops[j] := Array.getElem?_eq_getElem (by omega)
      rw [tr.next j ops[j] (Nat.zero_le _) (by omega) ho]
      have hdo : domT j t ↔ ops[j].dst = some t := by show (ops[j]?).bind (·.dst) = some t ↔ _; rw [ho, Option.bind_some]
      cases hdst : ops[j].dst with
      | none => rw [pf_neg (fun hh => by rw [hdo, hdst] at hh; cases hh.2), ih (by omega) t]; rfl
      | some d =>
        show _ = opd ((T j).set d (V j)) (.tmp t)
        rw [opd_put]
        by_cases htd2 : t = d
        · subst htd2; rw [if_pos rfl, pf_pos rfl (hdo.2 hdst)]
        · rw [if_neg htd2, pf_neg (fun hh => by rw [hdo, hdst] at hh; exact htd2 (Option.some.inj hh.2).symm), ih (by omega) t]
  have exT : ∀ (L : Nat → Bool) (n : Nat), n ≤ ops.size → ∃ g : Tr (Blk F), ∀ m, g.get m = pf h.get domH valH L n m := by
    intro L n
    induction n with
    | zero => intro _; exact ⟨h, fun _ => rfl⟩
    | succ n ih =>
      intro hn
      obtain ⟨g, hg⟩ := ih (by omega)
      cases hLn : L n with
      | false => exact ⟨g, fun m => by rw [pf_neg (fun hh => by rw [hLn] at hh; exact absurd hh.1 (by decide))]; exact hg m⟩
      | true =>
        have LL := hL n (by omega)
        obtain ⟨g', hg'⟩ := ex_over g (fun m => ((H (n + 1)).get m).getD (.cells [] 0)) (WW n ++ List.range' (X n) (X (n + 1) - X n))
        refine ⟨g', fun m => ?_⟩
        rw [hg']
        have hiff : m ∈ WW n ++ List.range' (X n) (X (n + 1) - X n) ↔ domH n m := by
          rw [List.mem_append, List.mem_range'_1]
          have := LL.le
          constructor
          · rintro (q | q)
            · exact .inl q
            · exact .inr ⟨q.1, by omega⟩
          · rintro (q | q)
            · exact .inl q
            · exact .inr ⟨q.1, by omega⟩
        by_cases hdm : domH n m
        · rw [if_pos (hiff.2 hdm), pf_pos hLn hdm]
          have hs : ((H (n + 1)).get m).isSome := LL.live m (hdm.elim .inl fun q => .inr (.inl q))
          show _ = (H (n + 1)).get m
          obtain ⟨x, hx⟩ := Option.isSome_iff_exists.1 hs
          rw [hx]; rfl
        · rw [if_neg (fun q => hdm (hiff.1 q)), pf_neg (fun hh => hdm hh.2)]
          exact hg m
  have hbit : ∀ (j k : Nat) (o : Oper), ops[j]? = some o → bit j k = true → ∃ e ∈ o.after, Region.binds .any e = true ∧ e.on < j ∧ (e.on = k ∨ bit e.on k = true) := by
    intro j k o hj hbk
    obtain ⟨e, he, hbd, hk⟩ := before_bit hj (hac j o hj) hbk
    exact ⟨e, he, hbd, hac j o hj e he hbd, hk⟩
  let w1 : World := { w with drawn := w.drawn + 1 }
  have hM1 : Mod S r h.get w1 := hM.heap rfl
  let Inv : Array Bool → Act → World → Prop := fun listed a' w' =>
    (∀ j, j < ops.size → listed.getD j false = true → ∀ k, bit j k = true → listed.getD k false = true) ∧ a'.tmps.size = N ∧ a'.defers = ds ∧
    ∃ r', Mid S X WW ops.size (fun k => listed.getD k false) r w r' w' ∧ Mod S r' (pf h.get domH valH (fun k => listed.getD k false) ops.size) w' ∧
      ∀ t, VR r' (pf (fun t => opd ts (.tmp t)) domT valT (fun k => listed.getD k false) ops.size t) (a'.eval (.tmp t))
  refine wpIn_region_any hF.mixed (wpAny_by Inv hac ?_ ?_ ops.size (Array.replicate ops.size false) a w1 (by simp) (by simp) ?_)
  · -- one more
    intro i o listed a' w' ho hsz hun hall hI
    obtain ⟨hcl, hz', hd', r', hmid, hmod, htm⟩ := hI
    have hi : i < ops.size := (Array.getElem?_eq_some_iff.1 ho).1
    have hoi : ops[i] = o := (Array.getElem?_eq_some_iff.1 ho).2
    have hunl : listed.getD i false = false := by
      have h1 : i < listed.size := by omega
      simp only [Array.getD, h1, dite_true] at hun ⊢
      exact hun
    have hset : ∀ k, (listed.setIfInBounds i true).getD k false = if k = i then true else listed.getD k false := by
      intro k
      rw [Array.getD_eq_getD_getElem?, Array.getElem?_setIfInBounds, Array.getD_eq_getD_getElem?]
      by_cases hk : k = i
      · subst hk; simp [show k < listed.size by omega]
      · rw [if_neg (fun q => hk q.symm), if_neg hk]
    have hpre : ∀ k, bit i k = true → listed.getD k false = true := by
      intro k hbk
      obtain ⟨e, he, hbd, hlt, hk⟩ := hbit i k o ho hbk
      have h1 := hall e he hbd
      rcases hk with rfl | hk
      · exact h1
      · exact hcl e.on (by omega) h1 k hk
    have hnl : ∀ k, k < ops.size → listed.getD k false = true → bit k i = true → False := fun k hk hlk hbk => by
      have := hcl k hk hlk i hbk
      rw [hunl] at this; cases this
    have LL := hL i hi
    rw [hoi] at LL
    -- what it reads is as it was
    have cA : ∀ m ∈ RR i, m < X i → pf h.get domH valH (fun k => listed.getD k false) ops.size m = (H i).get m := by
      intro m hm hmx
      have hsame : pf h.get domH valH (fun k => listed.getD k false) ops.size m = pf h.get domH valH (fun _ => true) i m := by
        refine pf_same ops.size (Nat.le_of_lt hi) fun k hk hdk => ?_
        rcases Nat.lt_trichotomy k i with hlt | rfl | hgt
        · refine ⟨fun _ => hlt, fun _ => ?_⟩
          rcases tr.apart i k hlt (Nat.zero_le _) hi with hbk | hap
          · exact hpre k hbk
          · rcases hdk with q | q
            · exact absurd hm (hap.wr m q)
            · exact absurd q (hap.out m hm)
        · exact ⟨fun q => by rw [hunl] at q; exact absurd q (by decide), fun q => absurd q (Nat.lt_irrefl _)⟩
        · refine ⟨fun q => ?_, fun q => by omega⟩
          rcases tr.apart k i hgt (Nat.zero_le _) hk with hbk | hap
          · exact (hnl k hk q hbk).elim
          · rcases hdk with p | p
            · exact absurd p (hap.rw m hm)
            · have := hXm i k (Nat.le_of_lt hgt) (Nat.le_of_lt hk); omega
      rw [hsame]
      rcases fullH i (Nat.le_of_lt hi) m with q | ⟨q1, q2, q3⟩
      · exact q
      · rw [q1, q2]
        have hmn : m < nx := by
          rcases Nat.lt_or_ge m nx with q | q
          · exact q
          · obtain ⟨k, a1, a2, a3⟩ := cover i (Nat.le_of_lt hi) m q hmx
            exact absurd (.inr ⟨a2, a3⟩) (q3 k a1)
        exact hR m (mem_below.2 ⟨hmn, (hsub i (Nat.zero_le _) hi).2 m hm⟩) hmn
    have cB : ∀ m, X i ≤ m → m < X (i + 1) → pf h.get domH valH (fun k => listed.getD k false) ops.size m = none := by
      intro m a1 a2
      rw [pf_none ops.size]
      · refine hNn m ?_ ?_
        · have := (hfrX i (Nat.le_of_lt hi)).2; rw [hX0] at this; omega
        · have := hXm (i + 1) ops.size (by omega) (Nat.le_refl _); rw [hXn] at this; omega
      · intro k hk hdk
        rcases Nat.lt_trichotomy k i with hlt | rfl | hgt
        · have hx := hXm (k + 1) i (by omega) (Nat.le_of_lt hi)
          rcases hdk with q | q
          · have := (hL k hk).ltW m q; omega
          · omega
        · exact hunl
        · have hx := hXm (i + 1) k (by omega) (Nat.le_of_lt hk)
          rcases hdk with q | q
          · cases hlk : listed.getD k false with
            | false => rfl
            | true =>
              rcases tr.apart k i hgt (Nat.zero_le _) hk with hbk | hap
              · exact (hnl k hk hlk hbk).elim
              · exact absurd ⟨a1, a2⟩ (hap.outW m q)
          · omega
    have cT : ∀ t ∈ namesOf ops o, pf (fun t => opd ts (.tmp t)) domT valT (fun k => listed.getD k false) ops.size t = opd (T i) (.tmp t) := by
      intro t htn
      rw [← fullT i (Nat.le_of_lt hi) t]
      refine pf_same ops.size (Nat.le_of_lt hi) fun k hk hdk => ?_
      have hok : ops[k]? = some ops[k] := Array.getElem?_eq_getElem hk
      have hdk' : ops[k].dst = some t := by
        have h1 : (ops[k]?).bind (·.dst) = some t := hdk
        rw [hok, Option.bind_some] at h1; exact h1
      rcases tidy_ok htt ho hok hdk' htn with rfl | hbk
      · exact ⟨fun q => by rw [hunl] at q; exact absurd q (by decide), fun q => absurd q (Nat.lt_irrefl _)⟩
      · rcases Nat.lt_trichotomy k i with hlt | rfl | hgt
        · rw [Nat.max_eq_right (Nat.le_of_lt hlt), Nat.min_eq_left (Nat.le_of_lt hlt)] at hbk
          exact ⟨fun _ => hlt, fun _ => hpre k hbk⟩
        · exact ⟨fun q => by rw [hunl] at q; exact absurd q (by decide), fun q => absurd q (Nat.lt_irrefl _)⟩
        · rw [Nat.max_eq_left (Nat.le_of_lt hgt), Nat.min_eq_right (Nat.le_of_lt hgt)] at hbk
          exact ⟨fun q => (hnl k hk q hbk).elim, fun q => by omega⟩
    obtain ⟨g2, hg2⟩ := exT (fun k => listed.getD k false) ops.size (Nat.le_refl _)
    obtain ⟨g3, run3, t3, u3⟩ := Run.of (loc_scp (loc_step1 P C hc.loc ops (T i) o)) (tr.step i o (Nat.zero_le _) hi ho) (hfrX i (Nat.le_of_lt hi)).1 (h := g2) (fun m hm hl => by rw [hg2]; exact cA m hm hl) (fun m a1 a2 => by rw [hg2]; exact cB m a1 a2)
    obtain ⟨R3, W3, run4, hR3, hW3, hW3l⟩ := run3.scp (loc_step1 P C hc.loc ops (T i) o)
    have hmod2 : Mod S r' g2.get w' := hmod.congr fun m => .inr (hg2 m)
    have hxi := hXm i ops.size (Nat.le_of_lt hi) (Nat.le_refl _)
    have hxi1 := hXm (i + 1) ops.size (by omega) (Nat.le_refl _)
    have hx0 := (hfrX i (Nat.le_of_lt hi)).2
    rw [hX0] at hx0
    rw [hXn] at hxi hxi1
    have hnew : New r' (X i) (X (i + 1)) := by
      intro m a1 a2
      have hno := hN m (by omega) (by omega)
      have hkey : ¬ (r'.blk m ≠ none ∨ r'.val m ≠ none) := by
        intro q
        rcases hmid.dom m q with p | ⟨k, hk, hlk, b1, b2⟩
        · rcases p with p | p
          · exact p hno.1
          · exact p hno.2
        · rcases Nat.lt_trichotomy k i with hlt | rfl | hgt
          · have := hXm (k + 1) i (by omega) (Nat.le_of_lt hi); omega
          · rw [hunl] at hlk; cases hlk
          · have := hXm (i + 1) k (by omega) (Nat.le_of_lt hk); omega
      exact ⟨Classical.byContradiction fun q => hkey (.inl q), Classical.byContradiction fun q => hkey (.inr q)⟩
    have hO : OR r' (T i) a' o.op.operands.toList := by
      intro y hy
      refine opd_ok (C := C) (fun t hyt => ?_) (fun n hn => hmod2.glob n (hF.G ▸ hn)) ((hopsok i o ho).2 y hy)
      have htn : t ∈ namesOf ops o := by
        unfold namesOf
        rw [List.mem_append, List.mem_append]
        refine .inl (.inr ?_)
        rw [List.mem_filterMap]
        exact ⟨y, hy, by rw [hyt]⟩
      rw [← cT t htn]; exact htm t
    have hG : GR r' ops (T i) a' o := by
      intro j b t hgd hdj
      have htn : t ∈ namesOf ops o := by
        unfold namesOf
        rw [List.mem_append]
        refine .inr ?_
        rw [hgd]
        simp only
        rw [hdj]; simp
      rw [← cT t htn]; exact htm t
    unfold wpOpIn
    rw [ho]
    refine step1_ok (a := a') hF hc run4 hmod2 hnew hO hG (hY.mono ⟨hmid.le, fun b ob hb hno => hmid.keep b ob hb fun k _ _ m _ => hno m, fun k b hk => by
      rcases hmid.new k b hk with q | q | ⟨_, _, _, j, _, q⟩
      · exact .inl ⟨k, q⟩
      · exact .inr q
      · exact .inl ⟨j, q⟩, hmid.size, hmid.loops⟩) ro n Q _ fun v' r2 w2 hv hX3 => ?_
    have hX2 := hX3.below hnew hW3l
    rw [← hW3] at hX2
    -- the state again
    have hheap : ∀ m, g3.get m = pf h.get domH valH (fun k => (listed.setIfInBounds i true).getD k false) ops.size m := by
      intro m
      rw [pf_set (L := fun k => listed.getD k false) (i := i) (fun k => hset k) ops.size hi (fun k hik hk hlk hdk hdi => by
        rcases tr.apart k i hik (Nat.zero_le _) hk with hbk | hap
        · exact hnl k hk hlk hbk
        · have hx := hXm (i + 1) k (by omega) (Nat.le_of_lt hk)
          rcases hdk with p | p <;> rcases hdi with q | q
          · exact hap.ww m q p
          · exact hap.outW m p q
          · have := LL.ltW m q; omega
          · omega)]
      by_cases hdi : domH i m
      · rw [if_pos hdi]
        have hlt : m < X (i + 1) := by
          rcases hdi with q | q
          · exact LL.ltW m q
          · exact q.2
        exact t3 m (hdi.elim .inl fun q => .inr q.1) hlt
      · rw [if_neg hdi, u3 m (fun q => hdi (.inl q)) (fun q => hdi (.inr q)), hg2]
    refine ⟨?_, (put_size _ _ _).trans hz', (put_defers _ _ _).trans hd', r2, ?_, hX2.mod.congr fun m => .inr (hheap m).symm, ?_⟩
    · intro j hj hlj k hbk
      rw [hset] at hlj ⊢
      by_cases hki : k = i
      · rw [if_pos hki]
      · rw [if_neg hki]
        by_cases hji : j = i
        · subst hji; exact hpre k hbk
        · rw [if_neg hji] at hlj; exact hcl j hj hlj k hbk
    · refine ⟨hmid.le.trans hX2.le, fun m q => ?_, fun m b q => ?_, fun b ob hob hk => ?_, Nat.le_trans hmid.size hX2.size, hX2.os.trans hmid.os, hX2.tape.trans hmid.tape, hX2.output.trans hmid.output, hmid.loops.trans hX2.loops⟩
      · rcases hX2.dom m q with p | p
        · rcases hmid.dom m p with p | ⟨k, hk, hlk, b1, b2⟩
          · exact .inl p
          · exact .inr ⟨k, hk, by rw [hset]; split <;> first | rfl | exact hlk, b1, b2⟩
        · exact .inr ⟨i, hi, by rw [hset, if_pos rfl], p.1, p.2⟩
      · have hup : (∃ k, k < ops.size ∧ listed.getD k false = true ∧ ∃ j ∈ WW k, r.blk j = some b) → ∃ k, k < ops.size ∧ (listed.setIfInBounds i true).getD k false = true ∧ ∃ j ∈ WW k, r.blk j = some b := fun ⟨k, hk, hlk, y⟩ => ⟨k, hk, by rw [hset]; split <;> first | rfl | exact hlk, y⟩
        rcases hX2.new m b q with p | p | ⟨j, hj, p⟩
        · exact (hmid.new m b p).imp (fun y => y) (Or.imp (fun y => y) hup)
        · exact .inr (.inl (Nat.le_trans hmid.size p))
        · rcases hmid.new j b p with p | p | p
          · exact .inr (.inr ⟨i, hi, by rw [hset, if_pos rfl], j, hj, p⟩)
          · exact .inr (.inl p)
          · exact .inr (.inr (hup p))
      · refine hX2.keep b ob (hmid.keep b ob hob fun k hk2 hlk m hm => hk k hk2 (by rw [hset]; split <;> first | rfl | exact hlk) m hm) fun m hm q => ?_
        rcases hmid.new m b q with p | p | ⟨k, hk2, hlk, j, hj, p⟩
        · exact hk i hi (by rw [hset, if_pos rfl]) m hm p
        · have := (Array.getElem?_eq_some_iff.1 hob).1; omega
        · exact hk k hk2 (by rw [hset]; split <;> first | rfl | exact hlk) j hj p
    · intro t
      have hdi : domT i t ↔ o.dst = some t := by show (ops[i]?).bind (·.dst) = some t ↔ _; rw [ho, Option.bind_some]
      rw [pf_set (L := fun k => listed.getD k false) (i := i) (fun k => hset k) ops.size hi (fun k hik hk hlk hdk hdi2 => by
        have hok : ops[k]? = some ops[k] := Array.getElem?_eq_getElem hk
        have hdk' : ops[k].dst = some t := by
          have h1 : (ops[k]?).bind (·.dst) = some t := hdk
          rw [hok, Option.bind_some] at h1; exact h1
        have htn : t ∈ namesOf ops o := by
          unfold namesOf
          rw [List.mem_append, List.mem_append]
          exact .inl (.inl (by rw [hdi.1 hdi2]; simp))
        rcases tidy_ok htt ho hok hdk' htn with rfl | hbk
        · omega
        · rw [Nat.max_eq_left (Nat.le_of_lt hik), Nat.min_eq_right (Nat.le_of_lt hik)] at hbk
          exact hnl k hk hlk hbk)]
      cases hdst : o.dst with
      | none =>
        rw [if_neg (fun q => by rw [hdi, hdst] at q; cases q)]
        exact (htm t).mono hX2.le
      | some d =>
        rw [eval_put a' d v' t (by rw [hz']; exact (hopsok i o ho).1 d hdst)]
        by_cases htd2 : t = d
        · subst htd2
          rw [if_pos (hdi.2 hdst), if_pos rfl]
          exact hv
        · rw [if_neg (fun q => by rw [hdi, hdst] at q; exact htd2 (Option.some.inj q).symm), if_neg htd2]
          exact (htm t).mono hX2.le
  · -- all done
    intro listed a' w' hI hall
    obtain ⟨-, hz', hd', r', hmid, hmod, htm⟩ := hI
    have hall' : ∀ k, k < ops.size → listed.getD k false = true := hall
    have hH : ∀ m, pf h.get domH valH (fun k => listed.getD k false) ops.size m = h'.get m := by
      intro m
      rw [pf_same (i := ops.size) ops.size (Nat.le_refl _) fun k hk _ => ⟨fun _ => hk, fun _ => hall' k hk⟩]
      by_cases hdm : ∃ k, k < ops.size ∧ domH k m
      · obtain ⟨k, hk, hdk⟩ := hdm
        rcases fullH ops.size (Nat.le_refl _) m with q | ⟨_, _, q3⟩
        · rw [q, hHn]
          have hx1 := hXm (k + 1) ops.size (by omega) (Nat.le_refl _)
          have hx2 := (hfrX k (Nat.le_of_lt hk)).2
          rw [hX0] at hx2
          rw [hXn] at hx1
          rcases hdk with p | p
          · have hlt := (hL k hk).ltW m p
            by_cases hmn : m < nx
            · exact (ht m (.inl (mem_below.2 ⟨hmn, (hsub k (Nat.zero_le _) hk).1 m p⟩)) (by omega)).symm
            · exact (ht m (.inr (by omega)) (by omega)).symm
          · exact (ht m (.inr (by omega)) (by omega)).symm
        · exact absurd hdk (q3 k hk)
      · rw [pf_none ops.size fun k hk q => absurd ⟨k, hk, q⟩ hdm]
        refine (hu m (fun q => ?_) (fun q => ?_)).symm
        · obtain ⟨j, _, hj, hw⟩ := hcov m (mem_below.1 q).2
          exact hdm ⟨j, hj, .inl hw⟩
        · rw [← hXn] at q
          obtain ⟨k, hk, p⟩ := cover ops.size (Nat.le_refl _) m q.1 q.2
          exact hdm ⟨k, hk, .inr p⟩
    refine hQ a' r' w' (fun t => ?_) hz' hd' ⟨hmid.le, hmod.congr fun m => .inr (hH m).symm, fun m q => ?_, fun m b q => (hmid.new m b q).imp (fun y => y) (Or.imp (fun y => y) fun ⟨k, hk, _, j, hj, p⟩ => ⟨j, mem_below.2 ⟨(by
      rcases Nat.lt_or_ge j nx with hjn | hjn
      · exact hjn
      · have hlt := (hL k hk).ltW j hj
        have hx1 := hXm (k + 1) ops.size (by omega) (Nat.le_refl _)
        rw [hXn] at hx1
        rw [(hN j (by omega) (by omega)).1] at p; cases p), (hsub k (Nat.zero_le _) hk).1 j hj⟩, p⟩), fun b ob hob hk => hmid.keep b ob hob fun k hk2 _ m hm q => ?_, hmid.size, hmid.os, hmid.tape, hmid.output, hmid.loops⟩
    · have h1 := htm t
      rw [pf_same (i := ops.size) ops.size (Nat.le_refl _) fun k hk _ => ⟨fun _ => hk, fun _ => hall' k hk⟩, fullT ops.size (Nat.le_refl _) t, hTn] at h1
      exact h1
    · rcases hmid.dom m q with p | ⟨k, hk, _, b1, b2⟩
      · exact .inl p
      · have hx1 := hXm (k + 1) ops.size (by omega) (Nat.le_refl _)
        have hx2 := (hfrX k (Nat.le_of_lt hk)).2
        rw [hX0] at hx2
        rw [hXn] at hx1
        exact .inr ⟨by omega, by omega⟩
    · by_cases hmn : m < nx
      · exact hk m (mem_below.2 ⟨hmn, (hsub k (Nat.zero_le _) hk2).1 m hm⟩) q
      · have hlt := (hL k hk2).ltW m hm
        have hx1 := hXm (k + 1) ops.size (by omega) (Nat.le_refl _)
        rw [hXn] at hx1
        rw [(hN m (by omega) (by omega)).1] at q; cases q
  · -- at the start
    have hno : ∀ k, (Array.replicate ops.size false).getD k false = false := by
      intro k
      rw [Array.getD_eq_getD_getElem?]
      by_cases hk : k < ops.size
      · simp [hk]
      · simp [hk]
    refine ⟨fun j _ hlj => (by rw [hno] at hlj; exact absurd hlj (by decide)), hz, hd, r, ⟨.refl r, fun m q => .inl q, fun m b q => .inl q, fun b ob hob _ => hob, Nat.le_refl _, rfl, rfl, rfl, .of fun _ _ q => q⟩, hM1.congr fun m => .inr (pf_none _ fun k _ _ => hno k), fun t => ?_⟩
    rw [pf_none _ fun k _ _ => hno k]
    exact hT t
end
end Ev
end Go.Proofs.YtaefgofheiegeaaGreat
namespace Go.Proofs.YtaefgofheiegeaaGreat
open Go Go.RowKit
namespace Ev
section
variable {F : Type} {S : Sig F} {P : Program} {C : Cfg F}
theorem wp_loop_ix {d : Nat} {fe : Fence} {c : Code} {Q : Exit → Act → World → Prop} {a : Act} {w : World} (I : Nat → Act → World → Prop) {n : Nat} (h₀ : I n a w)
    (round : ∀ n a w, I n a w → c.wpIn fe d P (Exit.then (fun a' w' => ∃ m, m < n ∧ I m a' w') Q) a w) : (Code.loop c).wpIn fe d P Q a w := by
  intro b k cs hro hb hr
  have key : ∀ n a w, I n a w → ∃ e a' w', Q e a' w' ∧ ArrivesIn (Machine.fenced P fe) P (lone (b.atR a (.code c :: .inLoop c :: k)) cs w) b k cs e a' w' := by
    intro n
    induction n using Nat.strongRecOn with
    | _ n ih =>
      intro a w hI
      obtain ⟨e, a₁, w₁, hq, harr⟩ := round n a w hI b (.inLoop c :: k) cs hro hb hr
      cases e with
      | normal =>
        obtain ⟨m, hlt, hI₁⟩ := hq
        obtain ⟨e₂, a₂, w₂, hq₂, harr₂⟩ := ih m hlt a₁ w₁ hI₁
        exact ⟨e₂, a₂, w₂, hq₂, .of_steps (StepsIn.trans harr (.one (fenced_calm hb hr rfl) stepR_inLoop)) harr₂⟩
      | exit id => exact ⟨_, a₁, w₁, hq, .pass (x := .inLoop c) rfl (fun _ _ => .inl (by simp)) harr⟩
      | goto l => exact ⟨_, a₁, w₁, hq, .pass (x := .inLoop c) rfl (fun _ _ => .inl (by simp)) harr⟩
      | ret => exact ⟨_, a₁, w₁, hq, .pass (x := .inLoop c) rfl (fun _ _ => .inl (by simp)) harr⟩
      | panic ch => exact ⟨_, a₁, w₁, hq, .pass (x := .inLoop c) rfl (fun _ _ => .inl (by simp)) harr⟩
      | outgrown => exact ⟨_, a₁, w₁, hq, .pass (x := .inLoop c) rfl (fun _ _ => .inl (by simp)) harr⟩
  obtain ⟨e, a', w', hq, harr⟩ := key n a w h₀
  exact ⟨e, a', w', hq, .of_steps (.one (fenced_calm hb hr rfl) stepR_loop) harr⟩
theorem stepR_scope {c : Code} {b : Frame} {a : Act} {k : List Item} {cs : List Frame} {w : World} : step P (lone (b.atR a (.code (.scope c) :: k)) cs w) = .next (lone (b.atR a (.code c :: .inScope c :: k)) cs w) :=
  step_lone_go (by simp [stepG, stepG.exec, Frame.atR])
theorem stepR_inScope {c : Code} {b : Frame} {a : Act} {k : List Item} {cs : List Frame} {w : World} : step P (lone (b.atR a (.inScope c :: k)) cs w) = .next (lone (b.atR a k) cs w) :=
  step_lone_go (by simp [stepG, stepG.exec, Frame.atR])
theorem wp_scope_straight {d : Nat} {fe : Fence} {c : Code} {Q : Exit → Act → World → Prop} {a : Act} {w : World} (h : c.wpIn fe d P (Exit.noGoto Q) a w) : (Code.scope c).wpIn fe d P Q a w := by
  intro b k cs hro hb hr
  have h0 : (lone (b.atR a (.code (.scope c) :: k)) cs w).fenced P fe := fenced_calm hb hr rfl
  obtain ⟨e, a₁, w₁, hq, harr⟩ := h b (.inScope c :: k) cs hro hb hr
  have hx : ∀ id, exitTo id (.inScope c :: k) = exitTo id k := fun id => by simp [exitTo]
  cases e with
  | normal => exact ⟨.normal, a₁, w₁, hq, .head h0 stepR_scope (StepsIn.trans harr (.one (fenced_calm hb hr rfl) stepR_inScope))⟩
  | exit id => exact ⟨.exit id, a₁, w₁, hq, fun k' hk => .head h0 stepR_scope (harr.1 k' (by rw [hx]; exact hk)),
      fun hr' hk => let ⟨k₁, h1, h2⟩ := harr.2 hr' (by rw [hx]; exact hk); ⟨k₁, h1, .head h0 stepR_scope h2⟩⟩
  | goto l => exact hq.elim
  | ret => exact ⟨_, a₁, w₁, hq, .of_steps (.one h0 stepR_scope) harr⟩
  | panic ch => exact ⟨_, a₁, w₁, hq, .of_steps (.one h0 stepR_scope) harr⟩
  | outgrown => exact ⟨_, a₁, w₁, hq, .of_steps (.one h0 stepR_scope) harr⟩
def Marks (S : Sig F) (B0 : Nat) : List Deferred → Ren → World → Prop
  | [], _, w => B0 ≤ w.heap.size
  | d :: ds, r, w => Marks S B0 ds r w ∧ ∃ D, d = { target := .collected D, args := #[] } ∧ w.heap[D]? = some (.deferred (some [])) ∧ (∀ k, r.blk k ≠ some D) ∧ S.G ≤ D ∧ B0 ≤ D ∧ ∀ e ∈ ds, e.target ≠ .collected D
theorem Marks.mono {B0 : Nat} : ∀ {ds : List Deferred} {r r' : Ren} {w w' : World}, Marks S B0 ds r w → Going r w r' w' → Marks S B0 ds r' w'
  | [], _, _, _, _, h, g => Nat.le_trans h g.size
  | _ :: _, _, _, _, _, ⟨h, D, h1, h2, h3, h4, h5, h6⟩, g => ⟨Marks.mono h g, D, h1, (g.nameless h2 h3).1, (g.nameless h2 h3).2, h4, h5, h6⟩
theorem Marks.lt {B0 : Nat} : ∀ {ds : List Deferred} {r : Ren} {w : World}, Marks S B0 ds r w → ∀ D, (∃ e ∈ ds, e.target = .collected D) → D < w.heap.size
  | [], _, _, _, _, ⟨e, he, _⟩ => by simp at he
  | d :: ds, r, w, ⟨h, D0, h1, h2, h3, h4, h5, h6⟩, D, ⟨e, he, ht⟩ => by
    rcases List.mem_cons.1 he with rfl | he
    · rw [h1] at ht
      injection ht with ht
      subst ht
      exact (Array.getElem?_eq_some_iff.1 h2).1
    · exact Marks.lt h D ⟨e, he, ht⟩
theorem Marks.base {B0 : Nat} : ∀ {ds : List Deferred} {r : Ren} {w : World}, Marks S B0 ds r w → B0 ≤ w.heap.size
  | [], _, _, h => h
  | _ :: _, _, _, ⟨h, _⟩ => Marks.base h
def InRound (ro : Option Nat) (w : World) : Prop := ∀ l, ro = some l → ∃ L, w.heap[l]? = some (.loop L)
theorem InRound.mono {ro : Option Nat} {r r' : Ren} {w w' : World} (h : InRound ro w) (g : Going r w r' w') : InRound ro w' := fun l hl => by
  obtain ⟨L, h1⟩ := h l hl
  obtain ⟨L', h2, _⟩ := g.loops.lp l L h1
  exact ⟨L', h2⟩
structure Df where
  ds : List Deferred
  z : Nat
def DfOK (D0 : Df) (ds : List Deferred) (w : World) : Prop := D0.z ≤ w.heap.size ∧ ∃ pre, ds = pre ++ D0.ds ∧ ∀ e ∈ pre, ∃ D, e.target = .collected D ∧ D0.z ≤ D
theorem DfOK.mono {D0 : Df} {ds : List Deferred} {w w' : World} (h : DfOK D0 ds w) (hz : w.heap.size ≤ w'.heap.size) : DfOK D0 ds w' := ⟨Nat.le_trans h.1 hz, h.2⟩
theorem DfOK.nil {w : World} : DfOK ⟨[], 0⟩ [] w := ⟨Nat.zero_le _, [], rfl, fun _ h => by simp at h⟩
structure St (S : Sig F) (P : Program) (ys : Ylds F) (N : Nat) (ro : Option Nat) (B0 : Nat) (D0 : Df) (ts : Tr Value) (r : Ren) (w : World) (a : Act) : Prop where
  T : TR r ts a
  size : a.tmps.size = N
  marks : Marks S B0 a.defers r w
  round : InRound ro w
  ys : YOK S P ys r w
  dfs : DfOK D0 a.defers w
theorem St.next {ys : Ylds F} {N : Nat} {ro : Option Nat} {B0 : Nat} {D0 : Df} {ts ts' : Tr Value} {r r' : Ren} {w w' : World} {a a' : Act} (h : St S P ys N ro B0 D0 ts r w a) (hT : TR r' ts' a') (hz : a'.tmps.size = N) (hd : a'.defers = a.defers) (g : Going r w r' w') : St S P ys N ro B0 D0 ts' r' w' a' :=
  ⟨hT, hz, by rw [hd]; exact h.marks.mono g, h.round.mono g, h.ys.mono g, by rw [hd]; exact h.dfs.mono g.size⟩
def JmpOK (S : Sig F) (P : Program) (N : Nat) (x : Code) (m : Tr Value → M F (Tr Value)) : Prop :=
  ∀ {ys : Ylds F} {ts ts1 : Tr Value} {h h1 : Tr (Blk F)} {nx nx1 : Nat} {R W : List Nat}, Run (m ts) h nx ts1 h1 nx1 R W →
    ∀ {r : Ren} {w : World} {a : Act} {ro : Option Nat} (d : Nat) {B0 : Nat} {D0 : Df}, Mod S r h.get w → New r nx nx1 → St S P ys N ro B0 D0 ts r w a →
      ∃ (K : Nat) (J : Nat → Act → World → Prop), J K a w ∧ (∀ j a' w', J (j + 1) a' w' → x.wpIn (RF ro) d P (Exit.then (J j) (fun _ _ _ => False)) a' w') ∧
        ∀ a' w', J 0 a' w' → ∃ r', St S P ys N ro B0 D0 ts1 r' w' a' ∧ Ext S r w nx nx1 W h1.get r' w'
def loopsIn : Code → List Code
  | .seq a b => loopsIn a ++ loopsIn b
  | .cond _ a b => loopsIn a ++ loopsIn b
  | .block _ c => loopsIn c
  | .loop c => c :: loopsIn c
  | .rangeFunc _ _ a b => loopsIn a ++ loopsIn b
  | .scope c => loopsIn c
  | _ => []
structure JmpAll (S : Sig F) (P : Program) (C : Cfg F) : Prop where
  loc : ∀ f x m, C.jmp f x = some m → ∀ ts, Loc (m ts)
  ok : ∀ f fn c x m, C.tab f = some fn → fn.body = some c → x ∈ loopsIn c → C.jmp f x = some m → JmpOK S P fn.ntmps x m
theorem JmpAll.none {C : Cfg F} (h : C.jmp = fun _ _ => .none) : JmpAll S P C := ⟨fun f x m e => (by rw [h] at e; cases e), fun f fn c x m _ _ _ e => (by rw [h] at e; cases e)⟩
def toExit : Ex → Exit
  | .normal => .normal
  | .exit i => .exit i
  | .ret => .ret
variable {call : Cl F} {N fuel : Nat}
noncomputable def seqK (call : Cl F) (N fuel : Nat) (P : Program) (C : Cfg F) (b : Code) (x : Ex × Tr Value) : M F (Ex × Tr Value) := match x.1 with
  | .normal => code P C call N fuel b x.2
  | .exit i => ret (.exit i, x.2)
  | .ret => ret (.ret, x.2)
noncomputable def blockK (id : Nat) (x : Ex × Tr Value) : M F (Ex × Tr Value) := match x.1 with
  | .normal => ret (.normal, x.2)
  | .exit j => cond (Nat.beq j id) (ret (.normal, x.2)) (ret (.exit j, x.2))
  | .ret => ret (.ret, x.2)
noncomputable def iterK (f : Nat) (body : Tr Value → M F (Ex × Tr Value)) (x : Ex × Tr Value) : M F (Ex × Tr Value) := match x.1 with
  | .normal => iter f body x.2
  | .exit i => ret (.exit i, x.2)
  | .ret => ret (.ret, x.2)
theorem code_seq (a b : Code) (ts : Tr Value) : code P C call N fuel (.seq a b) ts = bind (code P C call N fuel a ts) (seqK call N fuel P C b) := by
  show bind (code P C call N fuel a ts) _ = _
  congr 1; funext x; obtain ⟨e, t⟩ := x; cases e <;> rfl
theorem code_block (id : Nat) (c : Code) (ts : Tr Value) : code P C call N fuel (.block id c) ts = bind (code P C call N fuel c ts) (blockK id) := by
  show bind (code P C call N fuel c ts) _ = _
  congr 1; funext x; obtain ⟨e, t⟩ := x
  cases e with
  | exit j =>
    show Bool.rec (motive := fun _ => M F (Ex × Tr Value)) (ret (.exit j, t)) (ret (.normal, t)) (Nat.beq j id) = cond (Nat.beq j id) (ret (.normal, t)) (ret (.exit j, t))
    cases Nat.beq j id <;> rfl
  | _ => rfl
theorem iter_succ (f : Nat) (body : Tr Value → M F (Ex × Tr Value)) (ts : Tr Value) : iter (f + 1) body ts = bind (body ts) (iterK f body) := by
  show bind (body ts) _ = _
  congr 1; funext x; obtain ⟨e, t⟩ := x; cases e <;> rfl
theorem bind_assoc {α β γ : Type} (m : M F α) (f : α → M F β) (g : β → M F γ) : bind (bind m f) g = bind m (fun a => bind (f a) g) := by
  funext h nx
  simp only [bind_eq]
  cases m h nx with
  | no => rfl
  | ok a h1 nx1 R1 W1 =>
    simp only
    cases f a h1 nx1 with
    | no => rfl
    | ok b h2 nx2 R2 W2 =>
      simp only
      cases g b h2 nx2 with
      | no => rfl
      | ok c h3 nx3 R3 W3 => simp [List.append_assoc]
theorem ret_bind {α β : Type} (a : α) (f : α → M F β) : bind (ret a) f = f a := by
  funext h nx
  simp only [bind_eq, ret]
  cases f a h nx with
  | no => rfl
  | ok c h3 nx3 R3 W3 => simp
theorem halves_succ (d : Nat) (body : Tr Value → M F (Ex × Tr Value)) (ts : Tr Value) : halves (d + 1) body ts = bind (halves d body ts) (fun x => match x.1 with
  | .normal => halves d body x.2
  | .exit i => ret (.exit i, x.2)
  | .ret => ret (.ret, x.2)) := by
  show bind (halves d body ts) _ = _
  congr 1; funext x; obtain ⟨e, t⟩ := x; cases e <;> rfl
theorem halves_iter (body : Tr Value → M F (Ex × Tr Value)) : ∀ (d f : Nat) (ts : Tr Value), bind (halves d body ts) (iterK f body) = iter (2 ^ d + f) body ts
  | 0, f, ts => by
    rw [Nat.pow_zero, Nat.add_comm, iter_succ]
    rfl
  | d + 1, f, ts => by
    rw [halves_succ, bind_assoc, show 2 ^ (d + 1) + f = 2 ^ d + (2 ^ d + f) by rw [Nat.pow_succ]; omega, ← halves_iter body d (2 ^ d + f) ts]
    congr 1; funext x; obtain ⟨e, t⟩ := x
    cases e with
    | normal => exact halves_iter body d f t
    | exit i => exact ret_bind _ _
    | ret => exact ret_bind _ _
theorem loc_jumpO (hc : ClLoc call) (x : Code) (ts : Tr Value) : Loc (jumpO call x ts) := by
  unfold jumpO
  cases h : call.jmp x with
  | none => exact loc_ret _
  | some m => exact hc.jmp x m h ts
theorem code_loop (c : Code) (ts : Tr Value) : code P C call N fuel (.loop c) ts = bind (jumpO call c ts) (iter (2 ^ 12 + fuel) (fun ts => code P C call N fuel c ts)) := by
  show bind (jumpO call c ts) _ = bind (jumpO call c ts) _
  congr 1; funext ts
  rw [← halves_iter]
  show bind (halves 12 (fun ts => code P C call N fuel c ts) ts) _ = _
  congr 1; funext x; obtain ⟨e, t⟩ := x; cases e <;> rfl
theorem code_regF (id : Nat) (ops : Array Oper) (ts : Tr Value) : code P C call N fuel (.region id ops false) ts = cond (okOps C N ops.toList) (bind (seqOps P C call ops ops.toList ts) fun ts' => ret (.normal, ts')) fail := by
  show Bool.rec (motive := fun _ => M F (Ex × Tr Value)) fail (bind (seqOps P C call ops ops.toList ts) fun ts' => ret (.normal, ts')) (okOps C N ops.toList) = _
  cases okOps C N ops.toList <;> rfl
theorem code_regT (id : Nat) (ops : Array Oper) (ts : Tr Value) : code P C call N fuel (.region id ops true) ts = cond (okOps C N ops.toList && tidyRegion ops) (bind (scp (anyOps P C call ops (Region.before ops) ops.toList 0 [] ts)) fun ts' => ret (.normal, ts')) fail := by
  show Bool.rec (motive := fun _ => M F (Ex × Tr Value)) fail (bind (scp (anyOps P C call ops (Region.before ops) ops.toList 0 [] ts)) fun ts' => ret (.normal, ts')) (okOps C N ops.toList && tidyRegion ops) = _
  cases (okOps C N ops.toList && tidyRegion ops) <;> rfl
theorem code_cond (c : Operand) (x y : Code) (ts : Tr Value) : code P C call N fuel (.cond c x y) ts = match opd ts c with
    | .bool b => cond b (code P C call N fuel x ts) (code P C call N fuel y ts)
    | _ => fail := by
  show (match opd ts c with
    | .bool b => Bool.rec (motive := fun _ => M F (Ex × Tr Value)) (code P C call N fuel y ts) (code P C call N fuel x ts) b
    | _ => fail) = _
  split
  · rename_i b _
    cases b <;> rfl
  · rfl
theorem loc_iter {body : Tr Value → M F (Ex × Tr Value)} (hb : ∀ ts, Loc (body ts)) : ∀ (f : Nat) (ts : Tr Value), Loc (iter f body ts)
  | 0, _ => loc_fail
  | f + 1, ts => by
    rw [iter_succ]
    refine loc_bind (hb ts) fun x => ?_
    unfold iterK
    split
    · exact loc_iter hb f _
    · exact loc_ret _
    · exact loc_ret _
theorem loc_code (P : Program) (C : Cfg F) [HardLoc C] (N fuel : Nat) (hc : ClLoc call) : ∀ (c : Code) (ts : Tr Value), Loc (code P C call N fuel c ts)
  | .skip, _ => loc_ret _
  | .label _, _ => loc_ret _
  | .region id ops false, ts => by rw [code_regF]; exact loc_cond (loc_bind (loc_seqOps P C hc ops _ _) fun _ => loc_ret _) loc_fail
  | .region id ops true, ts => by rw [code_regT]; exact loc_cond (loc_bind (loc_scp (loc_anyOps P C hc ops _ _ _ _ _)) fun _ => loc_ret _) loc_fail
  | .seq a b, ts => by
    rw [code_seq]
    refine loc_bind (loc_code P C N fuel hc a ts) fun x => ?_
    unfold seqK
    split
    · exact loc_code P C N fuel hc b _
    · exact loc_ret _
    · exact loc_ret _
  | .cond c x y, ts => by
    rw [code_cond]
    split
    · exact loc_cond (loc_code P C N fuel hc x ts) (loc_code P C N fuel hc y ts)
    · exact loc_fail
  | .block id c, ts => by
    rw [code_block]
    refine loc_bind (loc_code P C N fuel hc c ts) fun x => ?_
    unfold blockK
    split
    · exact loc_ret _
    · exact loc_cond (loc_ret _) (loc_ret _)
    · exact loc_ret _
  | .loop c, ts => by rw [code_loop]; exact loc_bind (loc_jumpO hc c ts) fun ts => loc_iter (fun ts => loc_code P C N fuel hc c ts) _ ts
  | .scope c, ts => loc_code P C N fuel hc c ts
  | .exit _, _ => loc_ret _
  | .ret, _ => loc_ret _
  | .goto _, _ => loc_fail
  | .refuse _, _ => loc_fail
  | .rangeFunc _ _ _ _, _ => loc_fail
theorem eval_bool {r : Ren} {ts : Tr Value} {a : Act} (hT : TR r ts a) {c : Operand} {b : Bool} (h : opd ts c = .bool b) : a.eval c = .bool b := by
  cases c with
  | tmp t => have h1 := hT t; rw [h] at h1; exact h1.bool
  | const v => exact h
  | global g => simp [opd] at h
  | func f => simp [opd] at h
theorem Mod.putObj' {r : Ren} {g : Nat → Option (Blk F)} {w : World} {l : Nat} (hM : Mod S r g w) (hl : ∀ c t z, w.heap[l]? ≠ some (.cells c t z)) (hlo : ∀ L, w.heap[l]? ≠ some (.loop L)) (hG : S.G ≤ l) (o : Obj) : Mod S r g (w.putObj l o) := by
  have hk : ∀ (b : Nat) (c : Array Value) (t : TypeId) (z : Nat × Nat), w.heap[b]? = some (.cells c t z) → (w.putObj l o).heap[b]? = some (.cells c t z) := fun b c t z hb => by
    rw [World.putObj_heap_other (fun q => by rw [q] at hb; exact hl c t z hb)]; exact hb
  refine ⟨hM.inj, fun n b hn => by rw [World.putObj_size]; exact hM.lt n b hn, fun n c t hn => ?_, fun n f hn => ?_, S.baseS w _ hM.base fun b o' hb ho => by rw [World.putObj_heap_other (by omega)]; exact ho, hM.glob, hM.own, fun n c t hn => ?_, by rw [World.putObj_size]; exact hM.sz, hM.lp.mono (.refl r) (fun _ _ q => q) fun b L hb => by rw [World.putObj_heap_other (fun q => by rw [q] at hb; exact hlo L hb)]; exact hb, hM.ow.mono (.refl r) (fun _ _ q => q) fun b c t z hb _ => hk b c t z hb, hM.ad⟩
  · obtain ⟨b, c', h1, h2, h3, h4⟩ := hM.cells n c t hn
    exact ⟨b, c', h1, hk _ _ _ _ h2, h3, h4⟩
  · obtain ⟨v, h1, h2, h3⟩ := hM.fact n f hn
    exact ⟨v, h1, S.stable f w _ v h2 fun b c t z hbo _ => hk _ _ _ _ hbo, h3⟩
  · obtain ⟨b, c', h1, h2, h3, h4, h5⟩ := hM.room n c t hn
    exact ⟨b, c', h1, hk _ _ _ _ h2, h3, h4, h5⟩
theorem Marks.putObj {B0 : Nat} {l : Nat} {L : Loop} {w : World} (hl : w.heap[l]? = some (.loop L)) (o : Obj) : ∀ {ds : List Deferred} {r : Ren}, Marks S B0 ds r w → Marks S B0 ds r (w.putObj l o)
  | [], _, h => by show B0 ≤ _; rw [World.putObj_size]; exact h
  | _ :: _, _, ⟨h, D, h1, h2, h3⟩ => ⟨Marks.putObj hl o h, D, h1, by rw [World.putObj_heap_other (fun q => by rw [q, hl] at h2; cases h2)]; exact h2, h3⟩
theorem YOK.putObj {l : Nat} (o : Obj) : ∀ {ys : Ylds F} {r : Ren} {w : World}, YOK S P ys r w → (∀ x ∈ ys, ∀ b, r.val x.1 = some (.func (.yield b) #[] #[]) → b ≠ l) → YOK S P ys r (w.putObj l o)
  | [], _, _, _, _ => trivial
  | x :: _, _, _, ⟨h, b, L, r0, hb, hle, hs⟩, hne => ⟨YOK.putObj o h fun y hy => hne y (List.mem_cons_of_mem _ hy), b, L, r0,
      ⟨hb.val, hb.blk, by rw [World.putObj_heap_other (hne x List.mem_cons_self b hb.val)]; exact hb.at_, hb.own⟩, hle, hs⟩
theorem YOK.lt : ∀ {ys : Ylds F} {r : Ren} {w : World}, YOK S P ys r w → ∀ x ∈ ys, ∃ b, r.val x.1 = some (.func (.yield b) #[] #[]) ∧ b < w.heap.size
  | [], _, _, _, x, hx => by simp at hx
  | y :: _, _, _, ⟨h, b, L, r0, hb, _, _⟩, x, hx => by
    rcases List.mem_cons.1 hx with rfl | hx
    · obtain ⟨L', h1, _⟩ := hb.at_
      exact ⟨b, hb.val, (Array.getElem?_eq_some_iff.1 h1).1⟩
    · exact YOK.lt h x hx
theorem LStep.same {L L' : Loop} (h : LStep L L') : L'.fn = L.fn ∧ L'.tmps = L.tmps ∧ L'.params = L.params ∧ L'.assign = L.assign ∧ L'.body = L.body := by
  rcases h with rfl | ⟨_, c, rfl⟩ <;> exact ⟨rfl, rfl, rfl, rfl, rfl⟩
section
variable {N : Nat}
end
theorem code_ok [HardLoc C] (hF : Fits S P C) (hc : ClOK S P call) : ∀ (c : Code), (∀ x ∈ loopsIn c, ∀ m, call.jmp x = some m → JmpOK S P N x m) → ∀ {ts ts' : Tr Value} {ex : Ex} {h h' : Tr (Blk F)} {nx nx' : Nat} {R W : List Nat}, Run (code P C call N fuel c ts) h nx (ex, ts') h' nx' R W →
    ∀ {r : Ren} {w : World} {a : Act} {ro : Option Nat} {d B0 : Nat} {D0 : Df}, Mod S r h.get w → New r nx nx' → St S P call.ys N ro B0 D0 ts r w a → ∀ (Q : Exit → Act → World → Prop),
      (∀ a' r' w', St S P call.ys N ro B0 D0 ts' r' w' a' → Ext S r w nx nx' W h'.get r' w' → Q (toExit ex) a' w') → c.wpIn (RF ro) d P Q a w
  | .skip, hJ, ts, ts', ex, h, h', nx, nx', R, W, e, r, w, a, ro, d, B0, D0, hM, hN, hS, Q, hQ => by
    obtain ⟨h1, rfl, rfl, rfl⟩ := ret_ok (show (ret (Ex.normal, ts) : M F _) h nx = _ from e.ok)
    cases h1
    exact wpIn_skip (hQ a r w hS (Ext.refl _ _ hM))
  | .label _, hJ, ts, ts', ex, h, h', nx, nx', R, W, e, r, w, a, ro, d, B0, D0, hM, hN, hS, Q, hQ => by
    obtain ⟨h1, rfl, rfl, rfl⟩ := ret_ok (show (ret (Ex.normal, ts) : M F _) h nx = _ from e.ok)
    cases h1
    exact wpIn_label (hQ a r w hS (Ext.refl _ _ hM))
  | .exit id, hJ, ts, ts', ex, h, h', nx, nx', R, W, e, r, w, a, ro, d, B0, D0, hM, hN, hS, Q, hQ => by
    obtain ⟨h1, rfl, rfl, rfl⟩ := ret_ok (show (ret (Ex.exit id, ts) : M F _) h nx = _ from e.ok)
    cases h1
    exact wpIn_exit (hQ a r w hS (Ext.refl _ _ hM))
  | .ret, hJ, ts, ts', ex, h, h', nx, nx', R, W, e, r, w, a, ro, d, B0, D0, hM, hN, hS, Q, hQ => by
    obtain ⟨h1, rfl, rfl, rfl⟩ := ret_ok (show (ret (Ex.ret, ts) : M F _) h nx = _ from e.ok)
    cases h1
    exact wpIn_ret (hQ a r w hS (Ext.refl _ _ hM))
  | .region id ops false, hJ, ts, ts', ex, h, h', nx, nx', R, W, e, r, w, a, ro, d, B0, D0, hM, hN, hS, Q, hQ => by
    rw [code_regF] at e
    obtain ⟨hok, e⟩ := e.cond
    obtain ⟨ts1, h1, nx1, R1, W1, R2, W2, e1, e2, rfl, rfl, -, -⟩ := e.bind (loc_seqOps P C hc.loc ops _ _) (fun _ => loc_ret _)
    obtain ⟨q, rfl, rfl, rfl⟩ := ret_ok e2.ok
    cases q
    refine wpIn_region ?_
    have hm := okOps_mem hok
    have := seqOps_ok hF hc ro d a.defers Q (fun o ho => (hm o ho).2) (N := N) (fun o ho => (hm o ho).1) ops.toList 0 rfl e1 hM hN hS.T hS.size rfl hS.ys fun a' r' w' h1 h2 h3 hX => hQ a' r' w' (hS.next h1 h2 h3 hX.going) (by simpa using hX)
    rwa [Array.length_toList, ← List.range_eq_range'] at this
  | .region id ops true, hJ, ts, ts', ex, h, h', nx, nx', R, W, e, r, w, a, ro, d, B0, D0, hM, hN, hS, Q, hQ => by
    rw [code_regT] at e
    obtain ⟨hok, e⟩ := e.cond
    simp only [Bool.and_eq_true] at hok
    obtain ⟨ts1, h1, nx1, R1, W1, R2, W2, e1, e2, rfl, rfl, -, -⟩ := e.bind (loc_scp (loc_anyOps P C hc.loc ops _ _ _ _ _)) (fun _ => loc_ret _)
    obtain ⟨q, rfl, rfl, rfl⟩ := ret_ok e2.ok
    cases q
    exact any_ok hF hc ro d a.defers hok.1 hok.2 e1 hM hN hS.T hS.size rfl hS.ys Q fun a' r' w' h1 h2 h3 hX => hQ a' r' w' (hS.next h1 h2 h3 hX.going) (by simpa using hX)
  | .seq x y, hJ, ts, ts', ex, h, h', nx, nx', R, W, e, r, w, a, ro, d, B0, D0, hM, hN, hS, Q, hQ => by
    rw [code_seq] at e
    have lk : ∀ x, Loc (seqK call N fuel P C y x) := fun x => by
      unfold seqK
      split
      · exact loc_code P C N fuel hc.loc y _
      · exact loc_ret _
      · exact loc_ret _
    obtain ⟨⟨e1x, ts1⟩, h1, nx1, R1, W1, R2, W2, e1, e2, rfl, rfl, l1, l2⟩ := e.bind (loc_code P C N fuel hc.loc x ts) lk
    refine wpIn_seq (code_ok hF hc x (fun z hz => hJ z (List.mem_append_left _ hz)) e1 hM (hN.sub (Nat.le_refl _) l2) hS _ fun a1 r1 w1 hS1 hX1 => ?_)
    cases e1x with
    | normal => exact code_ok hF hc y (fun z hz => hJ z (List.mem_append_right _ hz)) (show Run (code P C call N fuel y ts1) _ _ _ _ _ _ _ from e2) hX1.mod (hN.after hX1 l1) hS1 Q fun a2 r2 w2 hS2 hX2 => hQ a2 r2 w2 hS2 (hX1.trans hX2 l1 l2)
    | exit i =>
      obtain ⟨q, rfl, rfl, rfl⟩ := ret_ok (show (ret (Ex.exit i, ts1) : M F _) _ _ = _ from e2.ok)
      cases q
      exact hQ a1 r1 w1 hS1 (by simpa using hX1)
    | ret =>
      obtain ⟨q, rfl, rfl, rfl⟩ := ret_ok (show (ret (Ex.ret, ts1) : M F _) _ _ = _ from e2.ok)
      cases q
      exact hQ a1 r1 w1 hS1 (by simpa using hX1)
  | .cond c x y, hJ, ts, ts', ex, h, h', nx, nx', R, W, e, r, w, a, ro, d, B0, D0, hM, hN, hS, Q, hQ => by
    rw [code_cond] at e
    cases hv : opd ts c with
    | bool b =>
      rw [hv] at e; simp only at e
      refine wpIn_cond (eval_bool hS.T hv) ?_
      cases b with
      | true => exact code_ok hF hc x (fun z hz => hJ z (List.mem_append_left _ hz)) e hM hN hS Q hQ
      | false => exact code_ok hF hc y (fun z hz => hJ z (List.mem_append_right _ hz)) e hM hN hS Q hQ
    | _ => rw [hv] at e; exact e.no.elim
  | .block id c, hJ, ts, ts', ex, h, h', nx, nx', R, W, e, r, w, a, ro, d, B0, D0, hM, hN, hS, Q, hQ => by
    rw [code_block] at e
    have lk : ∀ x, Loc (blockK id x : M F _) := fun x => by
      unfold blockK
      split
      · exact loc_ret _
      · exact loc_cond (loc_ret _) (loc_ret _)
      · exact loc_ret _
    obtain ⟨⟨e1x, ts1⟩, h1, nx1, R1, W1, R2, W2, e1, e2, rfl, rfl, l1, l2⟩ := e.bind (loc_code P C N fuel hc.loc c ts) lk
    refine wpIn_block (code_ok hF hc c (fun z hz => hJ z hz) e1 hM (hN.sub (Nat.le_refl _) l2) hS _ fun a1 r1 w1 hS1 hX1 => ?_)
    cases e1x with
    | normal =>
      obtain ⟨q, rfl, rfl, rfl⟩ := ret_ok (show (ret (Ex.normal, ts1) : M F _) _ _ = _ from e2.ok)
      cases q
      exact hQ a1 r1 w1 hS1 (by simpa using hX1)
    | ret =>
      obtain ⟨q, rfl, rfl, rfl⟩ := ret_ok (show (ret (Ex.ret, ts1) : M F _) _ _ = _ from e2.ok)
      cases q
      exact hQ a1 r1 w1 hS1 (by simpa using hX1)
    | exit j =>
      have e3 : (cond (Nat.beq j id) (ret (Ex.normal, ts1)) (ret (Ex.exit j, ts1)) : M F _) h1 nx1 = .ok (ex, ts') h' nx' R2 W2 := e2.ok
      show (if j = id then Q .normal a1 w1 else Q (.exit j) a1 w1)
      cases hj : Nat.beq j id with
      | true =>
        rw [hj] at e3
        obtain ⟨q, rfl, rfl, rfl⟩ := ret_ok e3
        cases q
        rw [if_pos (Nat.eq_of_beq_eq_true hj)]
        exact hQ a1 r1 w1 hS1 (by simpa using hX1)
      | false =>
        rw [hj] at e3
        obtain ⟨q, rfl, rfl, rfl⟩ := ret_ok e3
        cases q
        rw [if_neg (fun q => by subst q; rw [Nat.beq_refl] at hj; cases hj)]
        exact hQ a1 r1 w1 hS1 (by simpa using hX1)
  | .loop c, hJ, ts, ts', ex, h, h', nx, nx', R, W, e, r, w, a, ro, d, B0, D0, hM, hN, hS, Q, hQ => by
    rw [code_loop] at e
    obtain ⟨ts0, h0, nx0, R0, W0, R9, W9, ej, e9, rfl, rfl, l0, l9⟩ := e.bind (loc_jumpO hc.loc c ts) fun ts => loc_iter (fun ts => loc_code P C N fuel hc.loc c ts) _ ts
    obtain ⟨I, hI⟩ : ∃ I : Nat → Act → World → Prop, I = fun n a w => ∃ ts h nx R W r, Run (iter n (fun ts => code P C call N fuel c ts) ts) h nx (ex, ts') h' nx' R W ∧ Mod S r h.get w ∧ New r nx nx' ∧ St S P call.ys N ro B0 D0 ts r w a ∧
        ∀ a' r' w', St S P call.ys N ro B0 D0 ts' r' w' a' → Ext S r w nx nx' W h'.get r' w' → Q (toExit ex) a' w' := ⟨_, rfl⟩
    have main : ∀ n a w, I n a w → c.wpIn (RF ro) d P (Exit.then (fun a' w' => ∃ m, m < n ∧ I m a' w') Q) a w := by
      subst hI
      rintro n a w ⟨ts, h, nx, R, W, r, e, hM, hN, hS, hQ⟩
      cases n with
      | zero => exact (show Run (fail : M F _) _ _ _ _ _ _ _ from e).no.elim
      | succ n =>
        rw [iter_succ] at e
        have lk : ∀ x, Loc (iterK n (fun ts => code P C call N fuel c ts) x) := fun x => by
          unfold iterK
          split
          · exact loc_iter (fun ts => loc_code P C N fuel hc.loc c ts) n _
          · exact loc_ret _
          · exact loc_ret _
        obtain ⟨⟨e1x, ts1⟩, h1, nx1, R1, W1, R2, W2, e1, e2, rfl, rfl, l1, l2⟩ := e.bind (loc_code P C N fuel hc.loc c ts) lk
        refine code_ok hF hc c (fun z hz => hJ z (List.mem_cons_of_mem _ hz)) e1 hM (hN.sub (Nat.le_refl _) l2) hS _ fun a1 r1 w1 hS1 hX1 => ?_
        cases e1x with
        | normal =>
          exact ⟨n, Nat.lt_succ_self n, ts1, h1, nx1, R2, W2, r1, e2, hX1.mod, hN.after hX1 l1, hS1, fun a2 r2 w2 hS2 hX2 => hQ a2 r2 w2 hS2 (hX1.trans hX2 l1 l2)⟩
        | exit i =>
          obtain ⟨q, rfl, rfl, rfl⟩ := ret_ok (show (ret (Ex.exit i, ts1) : M F _) _ _ = _ from e2.ok)
          cases q
          exact hQ a1 r1 w1 hS1 (by simpa using hX1)
        | ret =>
          obtain ⟨q, rfl, rfl, rfl⟩ := ret_ok (show (ret (Ex.ret, ts1) : M F _) _ _ = _ from e2.ok)
          cases q
          exact hQ a1 r1 w1 hS1 (by simpa using hX1)
    have goes : ∀ {ts : Tr Value} {h : Tr (Blk F)} {nx : Nat} {R W : List Nat} {r : Ren} {w : World} {a : Act}, Run (iter (2 ^ 12 + fuel) (fun ts => code P C call N fuel c ts) ts) h nx (ex, ts') h' nx' R W → Mod S r h.get w → New r nx nx' → St S P call.ys N ro B0 D0 ts r w a →
        (∀ a' r' w', St S P call.ys N ro B0 D0 ts' r' w' a' → Ext S r w nx nx' W h'.get r' w' → Q (toExit ex) a' w') → I (2 ^ 12 + fuel) a w := fun e hM hN hS hQ => by
      subst hI
      exact ⟨_, _, _, _, _, _, e, hM, hN, hS, hQ⟩
    cases hj : call.jmp c with
    | none =>
      have ej' : (ret ts : M F (Tr Value)) h nx = .ok ts0 h0 nx0 R0 W0 := by
        have := ej.ok
        unfold jumpO at this
        rw [hj] at this
        exact this
      obtain ⟨rfl, rfl, rfl, rfl⟩ := ret_ok ej'
      exact wp_loop_ix I (goes e9 hM hN hS hQ) main
    | some m =>
      have ej' : Run (m ts) h nx ts0 h0 nx0 R0 W0 := by
        unfold jumpO at ej
        rw [hj] at ej
        exact ej
      obtain ⟨K, J, j0, j1, j2⟩ := hJ c List.mem_cons_self m hj ej' d hM (hN.sub (Nat.le_refl _) l9) hS
      have jI : ∀ a' w', J 0 a' w' → I (2 ^ 12 + fuel) a' w' := fun a' w' hq => by
        obtain ⟨r', hS', hX'⟩ := j2 a' w' hq
        exact goes e9 hX'.mod (hN.after hX' l0) hS' fun a2 r2 w2 hS2 hX2 => hQ a2 r2 w2 hS2 (hX'.trans hX2 l0 l9)
      generalize 2 ^ 12 + fuel = n0 at goes jI
      have step : ∀ j a' w', J j a' w' → ∃ n, n ≤ n0 + j ∧ (I n a' w' ∨ ∃ i, n = n0 + 1 + i ∧ J (i + 1) a' w') := fun j a' w' hq => by
        cases j with
        | zero => exact ⟨n0, by omega, .inl (jI a' w' hq)⟩
        | succ i => exact ⟨n0 + 1 + i, by omega, .inr ⟨i, rfl, hq⟩⟩
      obtain ⟨n1, -, h1⟩ := step K a w j0
      refine wp_loop_ix (fun n a w => I n a w ∨ ∃ i, n = n0 + 1 + i ∧ J (i + 1) a w) h1 ?_
      rintro n a w (hI' | ⟨i, rfl, hq⟩)
      · refine wpIn_mono (main n a w hI') fun e a' w' hp => ?_
        cases e with
        | normal => obtain ⟨m, q1, q2⟩ := hp; exact ⟨m, q1, .inl q2⟩
        | _ => exact hp
      · refine wpIn_mono (j1 i a w hq) fun e a' w' hp => ?_
        cases e with
        | normal => obtain ⟨m, q1, q2⟩ := step i a' w' hp; exact ⟨m, by omega, q2⟩
        | _ => exact hp.elim
  | .scope c, hJ, ts, ts', ex, h, h', nx, nx', R, W, e, r, w, a, ro, d, B0, D0, hM, hN, hS, Q, hQ => by
    refine wp_scope_straight (code_ok hF hc c (fun z hz => hJ z hz) e hM hN hS _ fun a1 r1 w1 hS1 hX1 => ?_)
    have := hQ a1 r1 w1 hS1 hX1
    cases ex <;> exact this
  | .goto _, hJ, ts, ts', ex, h, h', nx, nx', R, W, e, r, w, a, ro, d, B0, D0, hM, hN, hS, Q, hQ => (show Run (fail : M F _) _ _ _ _ _ _ _ from e).no.elim
  | .refuse _, hJ, ts, ts', ex, h, h', nx, nx', R, W, e, r, w, a, ro, d, B0, D0, hM, hN, hS, Q, hQ => (show Run (fail : M F _) _ _ _ _ _ _ _ from e).no.elim
  | .rangeFunc _ _ _ _, hJ, ts, ts', ex, h, h', nx, nx', R, W, e, r, w, a, ro, d, B0, D0, hM, hN, hS, Q, hQ => (show Run (fail : M F _) _ _ _ _ _ _ _ from e).no.elim
end
end Ev
end Go.Proofs.YtaefgofheiegeaaGreat
