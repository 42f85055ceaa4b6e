/- Contracts. -/
import Derived.Test.YtdlhpleabfnogaaGreatDoorLw22
namespace Go.Proofs.YtdlhpleabfnogaaGreatDoor
open Go Go.RowKit
namespace Ev
section
variable {F : Type} {S : Sig F} {P : Program} {C : Cfg F} {eqF : F → F → Bool}
noncomputable def takeSl (eqF : F → F → Bool) (v : Value) (d : Sl F) : M F Unit := match d with
  | .p u => guard (plain2 u && eq0 v u)
  | .f x => bind (fact v) fun y => guard (eqF x y)
  | .ow x => match chanOf v with
    | some i => bind (rd i) fun b => match b with
      | .ow y => cond (eqF x y) (wr i .opq) fail
      | _ => fail
    | none => fail
noncomputable def takeSls (eqF : F → F → Bool) (ts : Tr Value) : List Nat → List (Sl F) → M F Unit
  | [], [] => ret ()
  | t :: tms, d :: ds => bind (takeSl eqF (opd ts (.tmp t)) d) fun _ => takeSls eqF ts tms ds
  | _, _ => fail
noncomputable def junks (N : Nat) : Tr Value → M F (Tr Value) := Nat.rec (motive := fun _ => Tr Value → M F (Tr Value)) (fun ts => ret ts) (fun t ih ts => bind (fresh .opq) fun m => ih (ts.set t (.map (some m)))) N
noncomputable def jumpM (eqF : F → F → Bool) (N : Nat) (tms : List Nat) (pre post : List (Sl F)) (ts : Tr Value) : M F (Tr Value) :=
  bind (takeSls eqF ts tms pre) fun _ => bind (newSls post) fun us => bind (junks N .nil) fun js => ret (putAll js tms us)
theorem loc_guard (b : Bool) : Loc (guard b : M F Unit) := loc_cond (loc_ret _) loc_fail
theorem loc_takeSl (v : Value) (d : Sl F) : Loc (takeSl eqF v d) := by
  cases d with
  | p u => exact loc_guard _
  | f x => exact loc_bind (loc_fact _) fun _ => loc_guard _
  | ow x =>
    unfold takeSl
    simp only
    split
    · refine loc_bind (loc_rd _) fun b => ?_
      split
      · exact loc_cond (loc_wr _ _) loc_fail
      · exact loc_fail
    · exact loc_fail
theorem loc_takeSls (ts : Tr Value) : ∀ (tms : List Nat) (ds : List (Sl F)), Loc (takeSls eqF ts tms ds)
  | [], [] => loc_ret _
  | [], _ :: _ => loc_fail
  | _ :: _, [] => loc_fail
  | _ :: tms, _ :: ds => loc_bind (loc_takeSl _ _) fun _ => loc_takeSls ts tms ds
theorem loc_junks : ∀ (N : Nat) (ts : Tr Value), Loc (junks N ts : M F (Tr Value))
  | 0, _ => loc_ret _
  | N + 1, _ => loc_bind (loc_fresh _) fun _ => loc_junks N _
theorem loc_jumpM (N : Nat) (tms : List Nat) (pre post : List (Sl F)) (ts : Tr Value) : Loc (jumpM eqF N tms pre post ts) :=
  loc_bind (loc_takeSls _ _ _) fun _ => loc_bind (loc_newSls _) fun _ => loc_bind (loc_junks _ _) fun _ => loc_ret _
theorem Mod.opqd {r : Ren} {g : Nat → Option (Blk F)} {w : World} (hM : Mod S r g w) (i : Nat) : Mod S r (fun n => if n = i then some .opq else g n) w := by
  have hgo : ∀ k, Gone g k → Gone (fun n => if n = i then some .opq else g n) k := fun k q => by
    by_cases e : k = i
    · exact ⟨fun c t => by simp [e], fun c t q => by simp [e] at q, ⟨fun s => by simp [e], fun f => by simp [e]⟩⟩
    · exact ⟨fun c t => by simpa only [if_neg e] using q.1 c t, fun c t => by simpa only [if_neg e] using q.2.1 c t, ⟨fun s => by simpa only [if_neg e] using q.2.2.1 s, fun f => by simpa only [if_neg e] using q.2.2.2 f⟩⟩
  refine ⟨fun n m b h1 h2 => (hM.inj n m b h1 h2).imp id (Or.imp (hgo n) (hgo m)), hM.lt, fun n c t h1 => ?_, fun n f h1 => ?_, hM.base, hM.glob, hM.own, fun n c t h1 => ?_, hM.sz, hM.lp.mono (.refl r) (fun n s h1 => ?_) (fun _ _ q => q), hM.ow.all (.refl r) (fun n f h1 => ?_) (fun _ _ q => q), hM.ad.mono (.refl r) fun n m y h1 => ?_⟩ <;> (split at h1; cases h1)
  · exact hM.cells n c t h1
  · exact hM.fact n f h1
  · exact hM.room n c t h1
  · exact h1
  · exact h1
  · exact h1
theorem takeSls_ok (heq : ∀ x y, eqF x y = true → x = y) {ts : Tr Value} {r : Ren} {w : World} {a : Act} (hT : TR r ts a) : ∀ {tms : List Nat} {ds : List (Sl F)} {h h' : Tr (Blk F)} {nx nx' : Nat} {R W : List Nat} {u : Unit}, takeSls eqF ts tms ds h nx = .ok u h' nx' R W → Mod S r h.get w →
    nx' = nx ∧ AtV S w ds (valsOf tms a) ∧ (owns ds (valsOf tms a)).Nodup ∧ (∀ n, h'.get n = if n ∈ W then some .opq else h.get n) ∧ (∀ i ∈ W, ∃ y, h.get i = some (.ow y)) ∧ ∀ b ∈ owns ds (valsOf tms a), ∃ i ∈ W, r.blk i = some b
  | [], [], h, h', nx, nx', R, W, u, e, hM => by
    obtain ⟨_, rfl, rfl, rfl⟩ := ret_ok (show (ret () : M F Unit) h nx = _ from e)
    exact ⟨rfl, rfl, List.nodup_nil, fun n => by simp, fun i hi => by simp at hi, fun b hb => by simp [owns] at hb⟩
  | [], _ :: _, h, h', nx, nx', R, W, u, e, _ => by cases (show (fail : M F Unit) h nx = _ from e)
  | _ :: _, [], h, h', nx, nx', R, W, u, e, _ => by cases (show (fail : M F Unit) h nx = _ from e)
  | t :: tms, d :: ds, h, h', nx, nx', R, W, u, e, hM => by
    obtain ⟨_, h1, nx1, R1, W1, R2, W2, e1, e2, rfl, rfl⟩ := bind_ok (show bind (takeSl eqF (opd ts (.tmp t)) d) (fun _ => takeSls eqF ts tms ds) h nx = _ from e)
    have hv := hT t
    have key : nx1 = nx ∧ d.is S w (a.eval (.tmp t)) ∧ (∀ n, h1.get n = if n ∈ W1 then some .opq else h.get n) ∧ (∀ i ∈ W1, ∃ y, h.get i = some (.ow y)) ∧ (∀ b ∈ ownOf d (a.eval (.tmp t)), ∃ i ∈ W1, r.blk i = some b) ∧ Mod S r h1.get w := by
      cases d with
      | p v =>
        unfold takeSl guard at e1
        obtain ⟨hp, e1⟩ := cond_ok e1
        obtain ⟨_, rfl, rfl, rfl⟩ := ret_ok e1
        simp only [Bool.and_eq_true] at hp
        have := eq0_ok _ _ hp.2
        rw [this] at hv
        exact ⟨rfl, hv.eq_of_plain2 hp.1, fun n => by simp, fun i hi => by simp at hi, fun b hb => by simp [ownOf] at hb, hM⟩
      | f x =>
        obtain ⟨y, h5, nx5, R5, W5, R6, W6, e5, e6, rfl, rfl⟩ := bind_ok (show bind (fact (opd ts (.tmp t))) (fun y => guard (eqF x y)) h nx = _ from e1)
        unfold guard at e6
        obtain ⟨hq, e6⟩ := cond_ok e6
        obtain ⟨_, rfl, rfl, rfl⟩ := ret_ok e6
        obtain rfl := heq _ _ hq
        obtain ⟨rfl, rfl, rfl, hh⟩ := fact_ok e5 hv hM
        have ho : isOne (a.eval (.tmp t)) = true := by
          unfold fact at e5
          cases ho : opd ts (.tmp t) with
          | chan i =>
            cases i with
            | none => rw [ho] at e5; simp [fail] at e5
            | some i =>
              rw [ho] at hv
              generalize a.eval (.tmp t) = z at hv
              cases hv with
              | same p => simp [plain] at p
              | opq _ q => exact q
          | _ => rw [ho] at e5; simp [fail] at e5
        exact ⟨rfl, ⟨hh, ho⟩, fun n => by simp, fun i hi => by simp at hi, fun b hb => by simp [ownOf] at hb, hM⟩
      | ow x =>
        unfold takeSl at e1
        simp only at e1
        cases hc : chanOf (opd ts (.tmp t)) with
        | none => rw [hc] at e1; simp [fail] at e1
        | some i =>
          rw [hc] at e1
          simp only at e1
          have hc' := chanOf_of hc
          obtain ⟨y, h5, nx5, R5, W5, R6, W6, e5, e6, rfl, rfl⟩ := bind_ok e1
          unfold rd at e5
          cases hg : h.get i with
          | none => rw [hg] at e5; cases e5
          | some bb =>
            rw [hg] at e5
            cases e5
            cases y <;> first | (cases (show (fail : M F Unit) _ _ = _ from e6); done) | skip
            rename_i y
            simp only at e6
            obtain ⟨hq, e7⟩ := cond_ok e6
            clear e6
            obtain rfl := heq _ _ hq
            unfold wr at e7
            rw [hg] at e7
            cases e7
            obtain ⟨v, q1, q2, q3, q4⟩ := hM.ow i _ hg
            rw [hc'] at hv
            obtain rfl := vr_chan hv q1
            refine ⟨rfl, ⟨q2, q3, fun b hb => (q4 b hb).2⟩, fun n => ?_, fun j hj => ?_, fun b hb => ⟨i, by simp, (q4 b (by simpa [ownOf] using hb)).1⟩, (hM.opqd i).congr fun n => .inr (Tr.get_set _ _ _ _)⟩
            · rw [Tr.get_set]; simp
            · have : j = i := by simpa using hj
              subst this; exact ⟨_, hg⟩
    obtain ⟨rfl, k1, k2, k3, k4, k5⟩ := key
    obtain ⟨rfl, j1, j2, j3, j4, j5⟩ := takeSls_ok heq hT e2 k5
    have hout : ∀ i ∈ W2, i ∉ W1 ∧ ∃ y, h.get i = some (.ow y) := fun i hi => by
      obtain ⟨y, q⟩ := j4 i hi
      rw [k2] at q
      split at q
      · cases q
      · exact ⟨by assumption, y, q⟩
    refine ⟨rfl, ⟨_, _, rfl, k1, j1⟩, ?_, fun n => ?_, fun i hi => ?_, fun b hb => ?_⟩
    · show (ownOf d (a.eval (.tmp t)) ++ owns ds (valsOf tms a)).Nodup
      refine List.nodup_append.2 ⟨?_, j2, fun b hb b' hb' q => ?_⟩
      · cases d with
        | ow x => show ((blkV _).toList).Nodup; cases blkV (a.eval (.tmp t)) <;> simp
        | _ => exact List.nodup_nil
      · subst q
        obtain ⟨i, q1, q2⟩ := k4 b hb
        obtain ⟨j, q3, q4⟩ := j5 b hb'
        obtain ⟨y, q5⟩ := k3 i q1
        obtain ⟨q6, z, q7⟩ := hout j q3
        rcases hM.inj i j b q2 q4 with q | q | q
        · exact q6 (q ▸ q1)
        · exact q.2.2.2 y q5
        · exact q.2.2.2 z q7
    · rw [j3, k2]
      by_cases h2 : n ∈ W2
      · rw [if_pos h2, if_pos (List.mem_append_right _ h2)]
      · rw [if_neg h2]
        by_cases h1 : n ∈ W1
        · rw [if_pos h1, if_pos (List.mem_append_left _ h1)]
        · rw [if_neg h1, if_neg (fun q => (List.mem_append.1 q).elim h1 h2)]
    · rcases List.mem_append.1 hi with hi | hi
      · exact k3 i hi
      · exact (hout i hi).2
    · have hb' : b ∈ ownOf d (a.eval (.tmp t)) ++ owns ds (valsOf tms a) := hb
      rcases List.mem_append.1 hb' with hb' | hb'
      · obtain ⟨i, q1, q2⟩ := k4 b hb'
        exact ⟨i, List.mem_append_left _ q1, q2⟩
      · obtain ⟨i, q1, q2⟩ := j5 b hb'
        exact ⟨i, List.mem_append_right _ q1, q2⟩
theorem mod_frame {r : Ren} {g : Nat → Option (Blk F)} {w w' : World} {I O : List Nat} (hM : Mod S r g w) (hI : ∀ i ∈ I, ∃ y, g i = some (.ow y)) (hO : ∀ b ∈ O, ∃ i ∈ I, r.blk i = some b) (hOc : ∀ b ∈ O, S.G ≤ b ∧ ∃ c t z, w.heap[b]? = some (.cells c t z) ∧ S.hid b t = false) (hf : Frm O w w') :
    Mod S r (fun n => if n ∈ I then some .opq else g n) w' := by
  have hgo : ∀ k, Gone g k → Gone (fun n => if n ∈ I then some .opq else g n) k := fun k q => by
    by_cases e : k ∈ I
    · exact ⟨fun c t => by simp [e], fun c t q => by simp [e] at q, ⟨fun s => by simp [e], fun f => by simp [e]⟩⟩
    · exact ⟨fun c t => by simpa only [if_neg e] using q.1 c t, fun c t => by simpa only [if_neg e] using q.2.1 c t, ⟨fun s => by simpa only [if_neg e] using q.2.2.1 s, fun f => by simpa only [if_neg e] using q.2.2.2 f⟩⟩
  have hnot : ∀ n b, n ∉ I → r.blk n = some b → ¬ Gone g n → b ∉ O := fun n b hn hb hg hq => by
    obtain ⟨i, h1, h2⟩ := hO b hq
    obtain ⟨y, h3⟩ := hI i h1
    rcases hM.inj n i b hb h2 with q | q | q
    · exact hn (q ▸ h1)
    · exact hg q
    · exact q.2.2.2 y h3
  have hloop : ∀ (b : Nat) (L : Loop), w.heap[b]? = some (.loop L) → w'.heap[b]? = some (.loop L) := fun b L hb => hf.keep b _ hb fun q => by
    obtain ⟨_, c, t, z, h, _⟩ := hOc b q
    rw [hb] at h; cases h
  have hhid : ∀ (b : Nat) (c : Array Value) (t : TypeId) (z : Nat × Nat), w.heap[b]? = some (.cells c t z) → S.hid b t = true → w'.heap[b]? = some (.cells c t z) := fun b c t z hb hh => hf.keep b _ hb fun q => by
    obtain ⟨_, c2, t2, z2, h, h2⟩ := hOc b q
    rw [hb] at h
    cases h
    rw [hh] at h2; cases h2
  refine ⟨fun n m b h1 h2 => (hM.inj n m b h1 h2).imp id (Or.imp (hgo n) (hgo m)), fun n b h1 => Nat.lt_of_lt_of_le (hM.lt n b h1) hf.size, fun n c t h1 => ?_, fun n f h1 => ?_, S.baseS w w' hM.base fun b o hb ho => hf.keep b o ho fun q => ?_, hM.glob, hM.own, fun n c t h1 => ?_, Nat.le_trans hM.sz hf.size, hM.lp.mono (.refl r) (fun n s h1 => ?_) hloop,
    hM.ow.mono (.refl r) (fun n f h1 => ?_) (fun b c t z hb hq => ?_), hM.ad.mono (.refl r) fun n m y h1 => ?_⟩
  · split at h1
    · cases h1
    · rename_i hn
      obtain ⟨b, c', q1, q2, q3, q4⟩ := hM.cells n c t h1
      exact ⟨b, c', q1, hf.keep b _ q2 (hnot n b hn q1 fun q => q.1 c t h1), q3, q4⟩
  · split at h1
    · cases h1
    · obtain ⟨v, q1, q2, q3⟩ := hM.fact n f h1
      exact ⟨v, q1, S.stable f w w' v q2 hhid, q3⟩
  · have := (hOc b q).1; omega
  · split at h1
    · cases h1
    · rename_i hn
      obtain ⟨b, c', q1, q2, q3, q4, q5⟩ := hM.room n c t h1
      cases c with
      | nil =>
        obtain ⟨⟨c2⟩, h2, h3⟩ := hf.loops.sh b _ _ _ q2
        exact ⟨b, c2, q1, h2, by simpa using VsR.nil, q4, by
          have : c2.length = c'.length := h3
          omega⟩
      | cons v c => exact ⟨b, c', q1, hf.keep b _ q2 (hnot n b hn q1 fun q => by cases q.2.1 _ _ h1), q3, q4, q5⟩
  · split at h1
    · cases h1
    · exact h1
  · split at h1
    · cases h1
    · exact h1
  · rcases hq with hh | ⟨n, f, h1, hb2⟩
    · exact hhid b c t z hb hh
    · split at h1
      · cases h1
      · rename_i hn
        exact hf.keep b _ hb (hnot n b hn hb2 fun q => q.2.2.2 f h1)
  · split at h1
    · cases h1
    · exact h1
end
section
variable {F : Type} {S : Sig F} {P : Program} {C : Cfg F} {eqF : F → F → Bool}
def isOw : Sl F → Bool
  | .ow _ => true
  | _ => false
theorem owns_kind : ∀ {ds es : List (Sl F)} {vs : List Value}, ds.map isOw = es.map isOw → owns ds vs = owns es vs
  | [], [], _, _ => rfl
  | [], _ :: _, _, h => by simp at h
  | _ :: _, [], _, h => by simp at h
  | _ :: _, _ :: _, [], _ => rfl
  | d :: ds, e :: es, v :: vs, h => by
    simp only [List.map_cons, List.cons.injEq] at h
    simp only [owns]
    rw [owns_kind h.2]
    congr 1
    cases d <;> cases e <;> first | rfl | (simp [isOw] at h; done)
theorem Frm.refl (O : List Nat) (w : World) : Frm O w w := ⟨fun _ _ h _ => h, Nat.le_refl _, rfl, rfl, rfl, .refl w⟩
theorem Marks.nameless {B0 : Nat} : ∀ {ds : List Deferred} {r : Ren} {w : World}, Marks S B0 ds r w → ∀ e ∈ ds, ∀ D, e.target = .collected D → ∀ k, r.blk k ≠ some D
  | [], _, _, _, e, he => by simp at he
  | d :: ds, r, w, ⟨h, D0, h1, h2, h3, h4⟩, e, he => fun D ht k => by
    rcases List.mem_cons.1 he with rfl | he
    · rw [h1] at ht
      injection ht with ht
      subst ht
      exact h3 k
    · exact Marks.nameless h e he D ht k
theorem junks_ok : ∀ (N : Nat) {ts ts' : Tr Value} {h h' : Tr (Blk F)} {nx nx' : Nat} {R W : List Nat}, (junks N ts : M F (Tr Value)) h nx = .ok ts' h' nx' R W →
    W = [] ∧ nx' = nx + N ∧ (∀ k, h'.get k = if nx ≤ k ∧ k < nx + N then some .opq else h.get k) ∧ ∀ t, ts'.get t = if t < N then some (.map (some (nx + (N - 1 - t)))) else ts.get t
  | 0, ts, ts', h, h', nx, nx', R, W, e => by
    obtain ⟨rfl, rfl, rfl, rfl⟩ := ret_ok (show (ret ts : M F (Tr Value)) h nx = _ from e)
    exact ⟨rfl, rfl, fun k => by rw [if_neg (by omega)], fun t => by rw [if_neg (by omega)]⟩
  | N + 1, ts, ts', h, h', nx, nx', R, W, e => by
    obtain ⟨m, h1, nx1, R1, W1, R2, W2, e1, e2, rfl, rfl⟩ := bind_ok (show bind (fresh .opq) (fun m => junks N (ts.set N (.map (some m)))) h nx = _ from e)
    unfold fresh at e1
    cases e1
    obtain ⟨rfl, h2, h3, h4⟩ := junks_ok N e2
    have hs : Nat.succ nx = nx + 1 := rfl
    rw [hs] at h2 h3 h4
    refine ⟨rfl, by omega, fun k => ?_, fun t => ?_⟩
    · rw [h3, Tr.get_set]
      by_cases e0 : k = nx
      · rw [if_neg (by omega), if_pos e0, if_pos (by omega)]
      · rw [if_neg e0]
        by_cases e1 : nx + 1 ≤ k ∧ k < nx + 1 + N
        · rw [if_pos e1, if_pos (by omega)]
        · rw [if_neg e1, if_neg (by omega)]
    · rw [h4, Tr.get_set]
      by_cases e0 : t < N
      · rw [if_pos e0, if_pos (by omega), show nx + 1 + (N - 1 - t) = nx + (N + 1 - 1 - t) by omega]
      · rw [if_neg e0]
        by_cases e1 : t = N
        · rw [if_pos e1, if_pos (by omega), show N + 1 - 1 - t = 0 by omega]; rfl
        · rw [if_neg e1, if_neg (by omega)]
theorem mod_more {r r' : Ren} {g g' : Nat → Option (Blk F)} {w : World} (hM : Mod S r g w) (hle : r.le r') (hb : r'.blk = r.blk) (hg : ∀ n, g' n = some .opq ∨ g' n = g n) : Mod S r' g' w := by
  have hgo : ∀ k, Gone g k → Gone g' k := fun k q => by
    rcases hg k with e | e
    · exact ⟨fun c t => by simp [e], fun c t q => by simp [e] at q, ⟨fun s => by simp [e], fun f => by simp [e]⟩⟩
    · exact ⟨fun c t => by rw [e]; exact q.1 c t, fun c t => by rw [e]; exact q.2.1 c t, ⟨fun s => by rw [e]; exact q.2.2.1 s, fun f => by rw [e]; exact q.2.2.2 f⟩⟩
  refine ⟨fun n m b h1 h2 => ?_, fun n b h1 => ?_, fun n c t h1 => ?_, fun n f h1 => ?_, hM.base, fun n hn => by rw [hb]; exact hM.glob n hn, fun n b h1 => ?_, fun n c t h1 => ?_, hM.sz, hM.lp.mono hle (fun n s h1 => ?_) (fun _ _ q => q), hM.ow.all hle (fun n f h1 => ?_) (fun _ _ q => q), hM.ad.mono hle fun n m y h1 => ?_⟩
  · rw [hb] at h1 h2
    exact (hM.inj n m b h1 h2).imp id (Or.imp (hgo n) (hgo m))
  · rw [hb] at h1; exact hM.lt n b h1
  · rcases hg n with e | e <;> rw [e] at h1
    · cases h1
    · obtain ⟨b, c', q1, q2, q3, q4⟩ := hM.cells n c t h1
      exact ⟨b, c', hle.blk _ _ q1, q2, q3.mono hle, q4⟩
  · rcases hg n with e | e <;> rw [e] at h1
    · cases h1
    · obtain ⟨v, q1, q2, q3⟩ := hM.fact n f h1
      exact ⟨v, hle.val _ _ q1, q2, q3⟩
  · rw [hb] at h1; exact hM.own n b h1
  · rcases hg n with e | e <;> rw [e] at h1
    · cases h1
    · obtain ⟨b, c', q1, q2, q3, q4, q5⟩ := hM.room n c t h1
      exact ⟨b, c', hle.blk _ _ q1, q2, q3.mono hle, q4, by rw [hle.len _ _ q1]; exact q5⟩
  · rcases hg n with e | e <;> rw [e] at h1
    · cases h1
    · exact h1
  · rcases hg n with e | e <;> rw [e] at h1
    · cases h1
    · exact h1
  · rcases hg n with e | e <;> rw [e] at h1
    · cases h1
    · exact h1
set_option maxHeartbeats 1000000 in
theorem jmp_ok' (heq : ∀ x y, eqF x y = true → x = y) {N : Nat} {x : Code} {tms : List Nat} {pre cs cs' post : List (Sl F)} (K : Nat) (Ss : Nat → Sig F)
    (hl : ∀ k, (Ss k).G = S.G ∧ (Ss k).lo = S.lo ∧ (Ss k).base = S.base) (k1 : ∀ w vs, AtV S w pre vs → owns cs vs = owns pre vs) (k2 : cs'.map isOw = cs.map isOw) (k3 : post.map isOw = cs.map isOw) (hpp : plainSls post = true)
    (h0 : ∀ w vs, AtV S w pre vs → AtV (Ss 0) w cs vs) (hs : ∀ k, k < K → ∀ w vs, AtV (Ss k) w cs' vs → AtV (Ss (k + 1)) w cs vs) (hK : ∀ w vs, AtV (Ss K) w cs vs → AtV S w post vs)
    (hr : ∀ k, k < K → ∀ {ro : Option Nat} {d B0 : Nat} {D0 : Df} {a : Act} {w : World}, AtL (Ss k) N tms cs B0 D0 ro a w → x.wpIn (RF ro) d P (Exit.then (RPost (Ss k) N tms cs cs' B0 D0 ro a w) (fun _ _ _ => False)) a w) :
    JmpOK S P N x (jumpM eqF N tms pre post) := by
  intro ys ts ts1 h h1 nx nx1 R W e r w a ro d B0 D0 hM hN hS
  obtain ⟨_, hA, nxA, R1, W1, R2, W2, eT, e2, rfl, rfl⟩ := bind_ok e.ok
  obtain ⟨us, hB, nxB, R3, W3, R4, W4, eP, e4, rfl, rfl⟩ := bind_ok e2
  obtain ⟨js, hC, nxC, R5, W5, R6, W6, eJ, e6, rfl, rfl⟩ := bind_ok e4
  obtain ⟨rfl, rfl, rfl, rfl⟩ := ret_ok e6
  obtain ⟨rfl, t1, t2, t3, t4, t5⟩ := takeSls_ok heq hS.T eT hM
  obtain ⟨rfl, hnC, c1, c2⟩ := junks_ok N eJ
  have hG := hM.fits
  refine ⟨K, fun j a' w' => ∃ k, k + j = K ∧ a'.tmps.size = N ∧ AtV (Ss k) w' cs (valsOf tms a') ∧ (owns cs (valsOf tms a')).Nodup ∧ (∀ b ∈ owns cs (valsOf tms a'), b ∈ owns pre (valsOf tms a) ∨ w.heap.size ≤ b) ∧ Frm (owns pre (valsOf tms a)) w w' ∧ MarksV S B0 a'.defers w' ∧ InRound ro w' ∧ DfOK ⟨a.defers, w.heap.size⟩ a'.defers w',
    ⟨0, by omega, hS.size, h0 w _ t1, by rw [k1 _ _ t1]; exact t2, fun b hb => .inl (by rw [← k1 _ _ t1]; exact hb), .refl _ _, hS.marks.drop, hS.round, ⟨Nat.le_refl _, [], rfl, fun _ h => by simp at h⟩⟩, ?_, ?_⟩
  · rintro j a' w' ⟨k, hk, q1, q2, q3, q4, q5, q6, q7, q8⟩
    have hkK : k < K := by omega
    obtain ⟨l1, l2, l4⟩ := hl k
    have hb : S.base w' := S.baseS w w' hM.base fun b o hbG ho => q5.keep b o ho fun q => by
      have := (owns_cells t1 q).1; omega
    have hAt : AtL (Ss k) N tms cs B0 ⟨a.defers, w.heap.size⟩ ro a' w' := ⟨q1, q2, q3, q6.sig l1, q7, q8, by rw [l1]; exact Nat.le_trans hG q5.size, by rw [l4]; exact hb, by rw [l2]; exact Nat.le_trans hM.sz q5.size⟩
    refine wpIn_mono (hr k hkK hAt) fun ex a2 w2 hp => ?_
    cases ex with
    | normal =>
      have R : RPost (Ss k) N tms cs cs' B0 ⟨a.defers, w.heap.size⟩ ro a' w' a2 w2 := hp
      refine ⟨k + 1, by omega, R.size, hs k hkK _ _ R.at_, by rw [← owns_kind k2]; exact R.nd, fun b hb => ?_, ⟨fun b o hb hn => R.frm.keep b o (q5.keep b o hb hn) fun q => ?_, Nat.le_trans q5.size R.frm.size, R.frm.os.trans q5.os, R.frm.tape.trans q5.tape, R.frm.output.trans q5.output, q5.loops.trans R.frm.loops⟩, R.marks.sig l1.symm, R.round, R.dfs⟩
      · rw [← owns_kind k2] at hb
        rcases R.new b hb with q | q
        · exact q4 b q
        · exact .inr (Nat.le_trans q5.size q)
      · rcases q4 b q with q | q
        · exact hn q
        · have := (Array.getElem?_eq_some_iff.1 hb).1; omega
    | _ => exact hp
  · rintro a' w' ⟨k, hk, q1, q2, q3, q4, q5, q6, q7, q8⟩
    obtain rfl : k = K := by omega
    have hpost := hK w' _ q2
    have ho : owns post (valsOf tms a') = owns cs (valsOf tms a') := owns_kind k3
    have hM1 : Mod S r hA.get w' := (mod_frame hM t4 t5 (fun b hb => owns_cells t1 hb) q5).congr fun n => .inr (t3 n)
    obtain ⟨rfl, j1, r2, j2, j3, j4, j5, j6, j7⟩ := newSls_ok post eP hpp hM1 hN (by omega) hpost (by rw [ho]; exact q3) fun b hb k hk => by
      rw [ho] at hb
      rcases q4 b hb with q | q
      · obtain ⟨i, g1, g2⟩ := t5 b q
        obtain ⟨y, g3⟩ := t4 i g1
        rcases hM.inj k i b hk g2 with q | q | q
        · subst q
          have e0 : hA.get k = some .opq := by rw [t3, if_pos g1]
          exact ⟨fun c t => by simp [e0], fun c t q => by simp [e0] at q, ⟨fun s => by simp [e0], fun f => by simp [e0]⟩⟩
        · by_cases e0 : k ∈ W1
          · have e1 : hA.get k = some .opq := by rw [t3, if_pos e0]
            exact ⟨fun c t => by simp [e1], fun c t q => by simp [e1] at q, ⟨fun s => by simp [e1], fun f => by simp [e1]⟩⟩
          · have e1 : hA.get k = h.get k := by rw [t3, if_neg e0]
            exact ⟨fun c t => by rw [e1]; exact q.1 c t, fun c t => by rw [e1]; exact q.2.1 c t, ⟨fun s => by rw [e1]; exact q.2.2.1 s, fun f => by rw [e1]; exact q.2.2.2 f⟩⟩
        · exact absurd g3 (q.2.2.2 y)
      · have := hM.lt k b hk; omega
    have hle3 : r2.le ⟨r2.blk, fun n => if nxB ≤ n ∧ n < nxB + N then some (a'.eval (.tmp (nxB + N - 1 - n))) else r2.val n, r2.len⟩ := by
      refine ⟨fun _ _ q => q, fun n v q => ?_, fun _ _ _ => rfl⟩
      by_cases e0 : nxB ≤ n ∧ n < nxB + N
      · rw [(j7 n e0.1 (by omega)).2] at q; cases q
      · simp only [if_neg e0]; exact q
    have hM3 : Mod S ⟨r2.blk, fun n => if nxB ≤ n ∧ n < nxB + N then some (a'.eval (.tmp (nxB + N - 1 - n))) else r2.val n, r2.len⟩ h1.get w' := mod_more j3 hle3 rfl fun n => by
      rw [c1]
      by_cases e0 : nxB ≤ n ∧ n < nxB + N
      · rw [if_pos e0]; exact .inl rfl
      · rw [if_neg e0]; exact .inr rfl
    have hX : Ext S r w nxA nx1 (W1 ++ ([] ++ ([] ++ []))) h1.get ⟨r2.blk, fun n => if nxB ≤ n ∧ n < nxB + N then some (a'.eval (.tmp (nxB + N - 1 - n))) else r2.val n, r2.len⟩ w' := by
      refine ⟨j2.trans hle3, hM3, fun n q => ?_, fun n b q => ?_, fun b o hb hw => q5.keep b o hb fun q => ?_, q5.size, q5.os, q5.tape, q5.output, q5.loops⟩
      · by_cases e0 : nxB ≤ n ∧ n < nxB + N
        · exact .inr ⟨by omega, by omega⟩
        · simp only [if_neg e0] at q
          rcases j6 n q with q | ⟨g1, g2⟩
          · exact .inl q
          · exact .inr ⟨g1, by omega⟩
      · rcases j5 n b q with q | ⟨_, _, q⟩
        · exact .inl q
        · rw [ho] at q
          rcases q4 b q with q | q
          · obtain ⟨i, g1, g2⟩ := t5 b q
            exact .inr (.inr ⟨i, List.mem_append_left _ g1, g2⟩)
          · exact .inr (.inl q)
      · obtain ⟨i, g1, g2⟩ := t5 b q
        exact hw i (List.mem_append_left _ g1) g2
    refine ⟨_, ⟨tr_sets tms (fun (t : Nat) => ?_) (j4.mono hle3), q1, q6.name fun e he D hD hd hGD k hk => ?_, q7, hS.ys.mono hX.going, ?_⟩, hX⟩
    · show VR _ ((js.get t).getD undef) (a'.tmps.getD t undef)
      have := c2 t
      rw [this]
      by_cases e0 : t < N
      · rw [if_pos e0]
        refine .any ?_
        show (if nxB ≤ nxB + (N - 1 - t) ∧ nxB + (N - 1 - t) < nxB + N then some (a'.eval (.tmp (nxB + N - 1 - (nxB + (N - 1 - t))))) else _) = _
        rw [if_pos ⟨by omega, by omega⟩, show nxB + N - 1 - (nxB + (N - 1 - t)) = t by omega]
        rfl
      · rw [if_neg e0, Array.getD_eq_getD_getElem?, Array.getElem?_eq_none (by omega), Tr.get_nil]
        exact vr_undef
    · rcases j5 k D hk with q | ⟨_, _, q⟩
      · obtain ⟨_, p, g1, g2⟩ := q8
        rw [g1] at he
        rcases List.mem_append.1 he with he | he
        · obtain ⟨D', g3, g4⟩ := g2 e he
          rw [hD] at g3
          injection g3 with g3
          subst g3
          have := hM.lt k D q
          have g5 : w.heap.size ≤ D := g4
          omega
        · exact hS.marks.nameless e he D hD k q
      · obtain ⟨_, c, t, z, g, _⟩ := owns_cells hpost q
        rw [hd] at g; cases g
    · obtain ⟨g1, p0, g2, g3⟩ := hS.dfs
      obtain ⟨_, p, g4, g5⟩ := q8
      refine ⟨Nat.le_trans g1 q5.size, p ++ p0, by rw [g4, g2, List.append_assoc], fun e he => ?_⟩
      rcases List.mem_append.1 he with he | he
      · obtain ⟨D, g6, g7⟩ := g5 e he
        exact ⟨D, g6, Nat.le_trans g1 g7⟩
      · exact g3 e he
theorem jmp_ok (heq : ∀ x y, eqF x y = true → x = y) {N : Nat} {x : Code} {tms : List Nat} {pre cs cs' post : List (Sl F)} (K : Nat) (Ss : Nat → Sig F)
    (hl : ∀ k, (Ss k).G = S.G ∧ (Ss k).lo = S.lo ∧ (Ss k).base = S.base) (k1 : pre.map isOw = cs.map isOw) (k2 : cs'.map isOw = cs.map isOw) (k3 : post.map isOw = cs.map isOw) (hpp : plainSls post = true)
    (h0 : ∀ w vs, AtV S w pre vs → AtV (Ss 0) w cs vs) (hs : ∀ k, k < K → ∀ w vs, AtV (Ss k) w cs' vs → AtV (Ss (k + 1)) w cs vs) (hK : ∀ w vs, AtV (Ss K) w cs vs → AtV S w post vs)
    (hr : ∀ k, k < K → ∀ {ro : Option Nat} {d B0 : Nat} {D0 : Df} {a : Act} {w : World}, AtL (Ss k) N tms cs B0 D0 ro a w → x.wpIn (RF ro) d P (Exit.then (RPost (Ss k) N tms cs cs' B0 D0 ro a w) (fun _ _ _ => False)) a w) :
    JmpOK S P N x (jumpM eqF N tms pre post) :=
  @jmp_ok' F S P eqF heq N x tms pre cs cs' post K Ss hl (fun _ _ _ => (owns_kind k1).symm) k2 k3 hpp h0 hs hK hr
end
set_option maxRecDepth 100000
inductive Ix where
  | lt (a : Nat) (s : Int) (b : Nat) (t : Int) (r : Bool)
  | ln (c a : Nat)
  | el (c a : Nat) (s : Int) (e : Qe)
  | bd (a : Nat)
  | df (a : Nat) (s : Int) (b : Nat) (t : Int) (c : Nat)
  | rm (e : Qe) (z : Int)
  | bi (k a : Nat) (s : Int) (b : Nat) (t : Int) (c : Nat) (z : Int)
  | tl (c d : Nat)
def atIx (ρ : Env) (a : Nat) (s : Int) : Int := ρ.nat a + s
def biF (k : Nat) (x y : Int) : Int := match k with
  | 0 => x + y
  | 1 => x - y
  | 2 => if y < x then y else x
  | _ => if y > x then y else x
def Ix.holds (ρ : Env) : Ix → Prop
  | .tl c d => ρ.lst c ≠ [] ∧ ρ.lst d = (ρ.lst c).tail
  | .bi k a s b t c z => biF k (atIx ρ a s) (atIx ρ b t) = atIx ρ c z ∧ ρ.nat c ≤ 10000
  | .lt a s b t r => r = true ↔ atIx ρ a s < atIx ρ b t
  | .ln c a => (ρ.lst c).length = ρ.nat a
  | .el c a s e => ∃ i : Nat, (i : Int) = atIx ρ a s ∧ (ρ.lst c)[i]? = some (e.ev ρ.q)
  | .bd a => ρ.nat a ≤ 10000
  | .rm e z => (e.ev ρ.q).num.tmod 20 = z
  | .df a s b t c => atIx ρ a s - atIx ρ b t = ρ.nat c ∧ ρ.nat c ≤ 10000
def AllX (ρ : Env) (B : List Ix) : Prop := ∀ x ∈ B, x.holds ρ
noncomputable def eqI (s t : Int) : Bool := decide (s = t)
theorem eqI_ok {s t : Int} (h : eqI s t = true) : s = t := of_decide_eq_true h
noncomputable def ltB (B : List Ix) (a : Nat) (s : Int) (b : Nat) (t : Int) : Option Bool := cond (Nat.beq a b) (some (decide (s < t)))
  (List.rec (motive := fun _ => Option Bool) none (fun x _ ih => match x with
    | .lt a' s' b' t' r => cond (Nat.beq a a' && (eqI s s' && (Nat.beq b b' && eqI t t'))) (some r) ih
    | _ => ih) B)
noncomputable def lnB (B : List Ix) (c : Nat) : Option Nat := List.rec (motive := fun _ => Option Nat) none (fun x _ ih => match x with
    | .ln c' a => cond (Nat.beq c c') (some a) ih
    | _ => ih) B
noncomputable def elB (B : List Ix) (c a : Nat) (s : Int) : Option Qe := List.rec (motive := fun _ => Option Qe) none (fun x _ ih => match x with
    | .el c' a' s' e => cond (Nat.beq c c' && (Nat.beq a a' && eqI s s')) (some e) ih
    | _ => ih) B
noncomputable def rmB (B : List Ix) (e : Qe) : Option Int := List.rec (motive := fun _ => Option Int) none (fun x _ ih => match x with
    | .rm f z => cond (e.beq f) (some z) ih
    | _ => ih) B
theorem rmB_ok {ρ : Env} {e : Qe} {z : Int} : ∀ {B : List Ix}, AllX ρ B → rmB B e = some z → (e.ev ρ.q).num.tmod 20 = z
  | [], _, h => by cases h
  | x :: B, hB, h => by
    have tl : AllX ρ B := fun y hy => hB y (List.mem_cons_of_mem _ hy)
    cases x with
    | rm f z' =>
      have h' : cond (e.beq f) (some z') (rmB B e) = some z := h
      cases hc : e.beq f with
      | true =>
        rw [hc] at h'
        cases h'
        rw [Qe.beq_ok _ _ hc]
        exact hB _ List.mem_cons_self
      | false => rw [hc] at h'; exact rmB_ok tl h'
    | _ => exact rmB_ok tl h
noncomputable def dfB (B : List Ix) (a : Nat) (s : Int) (b : Nat) (t : Int) : Option Nat := List.rec (motive := fun _ => Option Nat) none (fun x _ ih => match x with
    | .df a' s' b' t' c => cond (Nat.beq a a' && (eqI s s' && (Nat.beq b b' && eqI t t'))) (some c) ih
    | _ => ih) B
noncomputable def tlB (B : List Ix) (c : Nat) : Option Nat := List.rec (motive := fun _ => Option Nat) none (fun x _ ih => match x with
    | .tl c' d => cond (Nat.beq c c') (some d) ih
    | _ => ih) B
theorem tlB_ok {ρ : Env} {c d : Nat} : ∀ {B : List Ix}, AllX ρ B → tlB B c = some d → ρ.lst c ≠ [] ∧ ρ.lst d = (ρ.lst c).tail
  | [], _, h => by cases h
  | x :: B, hB, h => by
    have tl : AllX ρ B := fun y hy => hB y (List.mem_cons_of_mem _ hy)
    cases x with
    | tl c' d' =>
      have h' : cond (Nat.beq c c') (some d') (tlB B c) = some d := h
      cases hc : Nat.beq c c' with
      | true =>
        rw [hc] at h'
        cases h'
        rw [Nat.eq_of_beq_eq_true hc]
        exact hB _ List.mem_cons_self
      | false => rw [hc] at h'; exact tlB_ok tl h'
    | _ => exact tlB_ok tl h
noncomputable def biB (B : List Ix) (k a : Nat) (s : Int) (b : Nat) (t : Int) : Option (Nat × Int) := List.rec (motive := fun _ => Option (Nat × Int)) none (fun x _ ih => match x with
    | .bi k' a' s' b' t' c z => cond (Nat.beq k k' && (Nat.beq a a' && (eqI s s' && (Nat.beq b b' && eqI t t')))) (some (c, z)) ih
    | _ => ih) B
noncomputable def bdB (B : List Ix) (a : Nat) : Bool := List.rec (motive := fun _ => Bool) (Nat.beq a 0) (fun x _ ih => match x with
    | .bd a' => Nat.beq a a' || ih
    | _ => ih) B
section
variable {ρ : Env} {A : List As} {B : List Ix}
theorem AllX.tail {x : Ix} (h : AllX ρ (x :: B)) : AllX ρ B := fun y hy => h y (List.mem_cons_of_mem _ hy)
theorem ltS_ok {a b : Nat} {s t : Int} {r : Bool} : ∀ {B : List Ix}, AllX ρ B → (List.rec (motive := fun _ => Option Bool) none (fun x _ ih => match x with
    | .lt a' s' b' t' r => cond (Nat.beq a a' && (eqI s s' && (Nat.beq b b' && eqI t t'))) (some r) ih
    | _ => ih) B : Option Bool) = some r → (r = true ↔ atIx ρ a s < atIx ρ b t)
  | [], _, h => by cases h
  | x :: B, hB, h => by
    cases x with
    | lt a' s' b' t' r' =>
      have h' : cond (Nat.beq a a' && (eqI s s' && (Nat.beq b b' && eqI t t'))) (some r') (List.rec (motive := fun _ => Option Bool) none (fun x _ ih => match x with
        | .lt a' s' b' t' r => cond (Nat.beq a a' && (eqI s s' && (Nat.beq b b' && eqI t t'))) (some r) ih
        | _ => ih) B : Option Bool) = some r := h
      cases hc : (Nat.beq a a' && (eqI s s' && (Nat.beq b b' && eqI t t'))) with
      | true =>
        rw [hc] at h'
        cases h'
        simp only [Bool.and_eq_true] at hc
        rw [Nat.eq_of_beq_eq_true hc.1, eqI_ok hc.2.1, Nat.eq_of_beq_eq_true hc.2.2.1, eqI_ok hc.2.2.2]
        exact hB _ List.mem_cons_self
      | false => rw [hc] at h'; exact ltS_ok hB.tail h'
    | _ => exact ltS_ok hB.tail h
theorem ltB_ok (hB : AllX ρ B) {a b : Nat} {s t : Int} {r : Bool} (h : ltB B a s b t = some r) : r = true ↔ atIx ρ a s < atIx ρ b t := by
  unfold ltB at h
  cases hc : Nat.beq a b with
  | true =>
    rw [hc] at h
    simp only [cond_true, Option.some.injEq] at h
    obtain rfl := Nat.eq_of_beq_eq_true hc
    subst h
    unfold atIx
    rw [decide_eq_true_iff]
    omega
  | false => rw [hc] at h; exact ltS_ok hB h
theorem lnB_ok {c a : Nat} : ∀ {B : List Ix}, AllX ρ B → lnB B c = some a → (ρ.lst c).length = ρ.nat a
  | [], _, h => by cases h
  | x :: B, hB, h => by
    cases x with
    | ln c' a' =>
      have h' : cond (Nat.beq c c') (some a') (lnB B c) = some a := h
      cases hc : Nat.beq c c' with
      | true =>
        rw [hc] at h'
        cases h'
        rw [Nat.eq_of_beq_eq_true hc]
        exact hB _ List.mem_cons_self
      | false => rw [hc] at h'; exact lnB_ok hB.tail h'
    | _ => exact lnB_ok hB.tail h
theorem elB_ok {c a : Nat} {s : Int} {e : Qe} : ∀ {B : List Ix}, AllX ρ B → elB B c a s = some e → ∃ i : Nat, (i : Int) = atIx ρ a s ∧ (ρ.lst c)[i]? = some (e.ev ρ.q)
  | [], _, h => by cases h
  | x :: B, hB, h => by
    cases x with
    | el c' a' s' e' =>
      have h' : cond (Nat.beq c c' && (Nat.beq a a' && eqI s s')) (some e') (elB B c a s) = some e := h
      cases hc : (Nat.beq c c' && (Nat.beq a a' && eqI s s')) with
      | true =>
        rw [hc] at h'
        cases h'
        simp only [Bool.and_eq_true] at hc
        rw [Nat.eq_of_beq_eq_true hc.1, Nat.eq_of_beq_eq_true hc.2.1, eqI_ok hc.2.2]
        exact hB _ List.mem_cons_self
      | false => rw [hc] at h'; exact elB_ok hB.tail h'
    | _ => exact elB_ok hB.tail h
theorem dfB_ok {a b c : Nat} {s t : Int} : ∀ {B : List Ix}, AllX ρ B → dfB B a s b t = some c → atIx ρ a s - atIx ρ b t = ρ.nat c ∧ ρ.nat c ≤ 10000
  | [], _, h => by cases h
  | x :: B, hB, h => by
    cases x with
    | df a' s' b' t' c' =>
      have h' : cond (Nat.beq a a' && (eqI s s' && (Nat.beq b b' && eqI t t'))) (some c') (dfB B a s b t) = some c := h
      cases hc : (Nat.beq a a' && (eqI s s' && (Nat.beq b b' && eqI t t'))) with
      | true =>
        rw [hc] at h'
        cases h'
        simp only [Bool.and_eq_true] at hc
        rw [Nat.eq_of_beq_eq_true hc.1, eqI_ok hc.2.1, Nat.eq_of_beq_eq_true hc.2.2.1, eqI_ok hc.2.2.2]
        exact hB _ List.mem_cons_self
      | false => rw [hc] at h'; exact dfB_ok hB.tail h'
    | _ => exact dfB_ok hB.tail h
theorem biB_ok {k a b : Nat} {s t : Int} {c : Nat × Int} : ∀ {B : List Ix}, AllX ρ B → biB B k a s b t = some c → biF k (atIx ρ a s) (atIx ρ b t) = atIx ρ c.1 c.2 ∧ ρ.nat c.1 ≤ 10000
  | [], _, h => by cases h
  | x :: B, hB, h => by
    cases x with
    | bi k' a' s' b' t' c' z' =>
      have h' : cond (Nat.beq k k' && (Nat.beq a a' && (eqI s s' && (Nat.beq b b' && eqI t t')))) (some (c', z')) (biB B k a s b t) = some c := h
      cases hc : (Nat.beq k k' && (Nat.beq a a' && (eqI s s' && (Nat.beq b b' && eqI t t')))) with
      | true =>
        rw [hc] at h'
        cases h'
        simp only [Bool.and_eq_true] at hc
        rw [Nat.eq_of_beq_eq_true hc.1, Nat.eq_of_beq_eq_true hc.2.1, eqI_ok hc.2.2.1, Nat.eq_of_beq_eq_true hc.2.2.2.1, eqI_ok hc.2.2.2.2]
        exact hB _ List.mem_cons_self
      | false => rw [hc] at h'; exact biB_ok hB.tail h'
    | _ => exact biB_ok hB.tail h
theorem bdB_ok {a : Nat} : ∀ {B : List Ix}, AllX ρ B → bdB B a = true → ρ.nat a ≤ 10000
  | [], _, h => by
    rw [Nat.eq_of_beq_eq_true (show Nat.beq a 0 = true from h), ρ.nat0]; omega
  | x :: B, hB, h => by
    cases x with
    | bd a' =>
      have h' : (Nat.beq a a' || bdB B a) = true := h
      rcases Bool.or_eq_true_iff.1 h' with q | q
      · rw [Nat.eq_of_beq_eq_true q]; exact hB _ List.mem_cons_self
      · exact bdB_ok hB.tail q
    | _ => exact bdB_ok hB.tail h
end
noncomputable def ixV (v : Value) : M Sy (Nat × Int) := match v with
  | .int k z => match k with
    | .i64 => ret (0, z)
    | _ => fail
  | v => bind (fact v) fun x => match x with
    | .ix a s => ret (a, s)
    | _ => fail
theorem loc_ixV (v : Value) : Loc (ixV v) := by
  unfold ixV
  split
  · split
    · exact loc_ret _
    · exact loc_fail
  · refine loc_bind (loc_fact _) fun x => ?_
    split
    · exact loc_ret _
    · exact loc_fail
noncomputable def lVal (f : Sy) : M Sy Nxt := bind (newFact f) fun v => val v
theorem loc_lVal (f : Sy) : Loc (lVal f) := loc_bind (loc_newFact _) fun _ => loc_val _
noncomputable def cmpX (B : List Ix) (op : BinOp) (a : Nat) (s : Int) (b : Nat) (t : Int) : Option Bool := match op with
  | .lss => ltB B a s b t
  | .gtr => ltB B b t a s
  | .leq => (ltB B b t a s).map not
  | .geq => (ltB B a s b t).map not
  | .eql => match ltB B a s b t with
    | some p => match ltB B b t a s with
      | some q => some (!p && !q)
      | none => none
    | none => none
  | .neq => match ltB B a s b t with
    | some p => match ltB B b t a s with
      | some q => some (p || q)
      | none => none
    | none => none
  | _ => none
noncomputable def smallI (z : Int) : Bool := decide (-1000000 ≤ z) && decide (z ≤ 1000000)
noncomputable def biH (B : List Ix) (k : Nat) (x y : Nat × Int) : M Sy Nxt := match biB B k x.1 x.2 y.1 y.2 with
  | some c => cond (smallI c.2) (lVal (.ix c.1 c.2)) fail
  | none => fail
theorem loc_biH (B : List Ix) (k : Nat) (x y : Nat × Int) : Loc (biH B k x y) := by
  unfold biH
  split
  · exact loc_cond (loc_lVal _) loc_fail
  · exact loc_fail
noncomputable def iBin (B : List Ix) (op : BinOp) (x y : Nat × Int) : M Sy Nxt := match op with
  | .add => cond (Nat.beq y.1 0 && (bdB B x.1 && smallI (x.2 + y.2))) (lVal (.ix x.1 (x.2 + y.2))) (biH B 0 x y)
  | .sub => match dfB B x.1 x.2 y.1 y.2 with
    | some c => lVal (.ix c 0)
    | none => cond (Nat.beq y.1 0 && (bdB B x.1 && smallI (x.2 - y.2))) (lVal (.ix x.1 (x.2 - y.2))) (biH B 1 x y)
  | op => match cmpX B op x.1 x.2 y.1 y.2 with
    | some r => val (.bool r)
    | none => fail
theorem loc_iBin (B : List Ix) (op : BinOp) (x y : Nat × Int) : Loc (iBin B op x y) := by
  unfold iBin
  split
  · exact loc_cond (loc_lVal _) (loc_biH _ _ _ _)
  · split
    · exact loc_lVal _
    · exact loc_cond (loc_lVal _) (loc_biH _ _ _ _)
  · split
    · exact loc_val _
    · exact loc_fail
section
variable {ρ : Env} {A : List As} {B : List Ix} {h h' : Tr (Blk Sy)} {nx nx' : Nat} {R W : List Nat} {r : Ren} {w : World}
theorem lVal_ok {f : Sy} {x : Nxt} {v' : Value} (e : lVal f h nx = .ok x h' nx' R W) (hM : Mod (symSig ρ) r h.get w) (hN : New r nx nx') (hv : f.holds ρ w v') :
    nx ≤ nx' ∧ ∃ v r', x = .val v ∧ VR r' v v' ∧ Ext (symSig ρ) r w nx nx' W h'.get r' w := by
  obtain ⟨v, h0, nx0, R0, W0, R1, W1, e0, e1, rfl, rfl⟩ := bind_ok e
  obtain ⟨rfl, rfl, rfl, rfl⟩ := val_ok e1
  obtain ⟨i, h2, nx2, R2, W2, R3, W3, e2, e3, rfl, rfl⟩ := bind_ok e0
  obtain ⟨rfl, rfl, rfl, rfl⟩ := ret_ok e3
  unfold fresh at e2
  cases e2
  obtain ⟨r', hX, hr⟩ := ext_fact (S := symSig ρ) (f := f) hM (Below.refl _ w) hN hv (Sy.one hv)
  exact ⟨Nat.le_succ _, _, r', rfl, .opq hr (Sy.one hv), by simpa using hX.congr fun n => .inr (Tr.get_set _ _ _ _)⟩
theorem ixV_ok {v v' : Value} {p : Nat × Int} (e : ixV v h nx = .ok p h' nx' R W) (hv : VR r v v') (hM : Mod (symSig ρ) r h.get w) : h' = h ∧ nx' = nx ∧ W = [] ∧ v' = .int .i64 (atIx ρ p.1 p.2) := by
  unfold ixV at e
  split at e
  · split at e
    · obtain ⟨rfl, rfl, rfl, rfl⟩ := ret_ok e
      refine ⟨rfl, rfl, rfl, ?_⟩
      rw [hv.int]
      unfold atIx
      rw [ρ.nat0]; simp
    · cases (show (fail : M Sy (Nat × Int)) h nx = _ from e)
  · obtain ⟨x, h1, nx1, R1, W1, R2, W2, e1, e2, rfl, rfl⟩ := bind_ok e
    obtain ⟨rfl, rfl, rfl, hf⟩ := fact_ok e1 hv hM
    split at e2
    · obtain ⟨rfl, rfl, rfl, rfl⟩ := ret_ok e2
      exact ⟨rfl, rfl, rfl, hf⟩
    · cases (show (fail : M Sy (Nat × Int)) _ _ = _ from e2)
theorem cmpX_ok (hB : AllX ρ B) {op : BinOp} {a b : Nat} {s t : Int} {r : Bool} (e : cmpX B op a s b t = some r) (ty : TypeId) (p q : Operand) (w : World) :
    (do eqGuard op ty p q (.int .i64 (atIx ρ a s)) (.int .i64 (atIx ρ b t)); binOp op ty (.int .i64 (atIx ρ a s)) (.int .i64 (atIx ρ b t)) : Sem Value).run Tryz.prog w = .ok (.bool r) w := by
  have two : ∀ {x y : Bool}, ltB B a s b t = some x → ltB B b t a s = some y → (x = true ↔ atIx ρ a s < atIx ρ b t) ∧ (y = true ↔ atIx ρ b t < atIx ρ a s) := fun h1 h2 => ⟨ltB_ok hB h1, ltB_ok hB h2⟩
  generalize hX : atIx ρ a s = X at *
  generalize hY : atIx ρ b t = Y at *
  cases op <;> simp only [cmpX] at e <;> first | (cases e; done) | skip
  · -- eql
    cases h1 : ltB B a s b t with
    | none => rw [h1] at e; cases e
    | some x =>
      rw [h1] at e
      cases h2 : ltB B b t a s with
      | none => rw [h2] at e; cases e
      | some y =>
        rw [h2] at e
        cases e
        obtain ⟨q1, q2⟩ := two h1 h2
        have : (X == Y) = (!x && !y) := by
          by_cases hxy : X = Y
          · have a1 : x = false := Bool.eq_false_iff.2 fun q => by have := q1.1 q; omega
            have a2 : y = false := Bool.eq_false_iff.2 fun q => by have := q2.1 q; omega
            rw [a1, a2, hxy]; simp
          · rw [beq_eq_false_iff_ne.2 hxy]
            rcases Int.lt_or_lt_of_ne hxy with q | q
            · rw [q1.2 q]; rfl
            · rw [q2.2 q]; simp
        simp [eqGuard, binOp, Op.intCmp, this]
  · cases h1 : ltB B a s b t with
    | none => rw [h1] at e; cases e
    | some x =>
      rw [h1] at e
      cases h2 : ltB B b t a s with
      | none => rw [h2] at e; cases e
      | some y =>
        rw [h2] at e
        cases e
        obtain ⟨q1, q2⟩ := two h1 h2
        have : (X != Y) = (x || y) := by
          by_cases hxy : X = Y
          · have a1 : x = false := Bool.eq_false_iff.2 fun q => by have := q1.1 q; omega
            have a2 : y = false := Bool.eq_false_iff.2 fun q => by have := q2.1 q; omega
            rw [a1, a2, hxy]; simp
          · rw [bne_iff_ne.2 hxy]
            rcases Int.lt_or_lt_of_ne hxy with q | q
            · rw [q1.2 q]; rfl
            · rw [q2.2 q]; simp
        simp [eqGuard, binOp, Op.intCmp, this]
  · have q := ltB_ok hB e
    rw [hX, hY] at q
    have : decide (X < Y) = r := by rw [Bool.eq_iff_iff, decide_eq_true_iff]; exact q.symm
    simp [eqGuard, binOp, Op.intCmp, this]
  · obtain ⟨y, h2, rfl⟩ := Option.map_eq_some_iff.1 e
    have q := ltB_ok hB h2
    rw [hX, hY] at q
    have : decide (X ≤ Y) = !y := by
      rw [Bool.eq_iff_iff, decide_eq_true_iff, Bool.not_eq_true']
      constructor
      · intro q2; exact Bool.eq_false_iff.2 fun q3 => by have := q.1 q3; omega
      · intro q2; by_cases q3 : Y < X
        · rw [q.2 q3] at q2; cases q2
        · omega
    simp [eqGuard, binOp, Op.intCmp, this]
  · have q := ltB_ok hB e
    rw [hX, hY] at q
    have : decide (Y < X) = r := by rw [Bool.eq_iff_iff, decide_eq_true_iff]; exact q.symm
    simp [eqGuard, binOp, Op.intCmp, this]
  · obtain ⟨y, h2, rfl⟩ := Option.map_eq_some_iff.1 e
    have q := ltB_ok hB h2
    rw [hX, hY] at q
    have : decide (Y ≤ X) = !y := by
      rw [Bool.eq_iff_iff, decide_eq_true_iff, Bool.not_eq_true']
      constructor
      · intro q2; exact Bool.eq_false_iff.2 fun q3 => by have := q.1 q3; omega
      · intro q2; by_cases q3 : X < Y
        · rw [q.2 q3] at q2; cases q2
        · omega
    simp [eqGuard, binOp, Op.intCmp, this]
theorem smallI_ok {z : Int} (h : smallI z = true) : -1000000 ≤ z ∧ z ≤ 1000000 := by
  simp only [smallI, Bool.and_eq_true, decide_eq_true_eq] at h
  exact h
theorem condB {F α : Type} {b : Bool} {m n : M F α} {g g' : Tr (Blk F)} {k k' : Nat} {x : α} {R W : List Nat} (e : cond b m n g k = .ok x g' k' R W) : (b = true ∧ m g k = .ok x g' k' R W) ∨ (b = false ∧ n g k = .ok x g' k' R W) := by
  cases b with
  | true => exact .inl ⟨rfl, e⟩
  | false => exact .inr ⟨rfl, e⟩
theorem biH_ok (hB : AllX ρ B) {k : Nat} {x y : Nat × Int} {z : Nxt} (e : biH B k x y h nx = .ok z h' nx' R W) (hM : Mod (symSig ρ) r h.get w) (hN : New r nx nx') :
    ∃ t : Int, biF k (atIx ρ x.1 x.2) (atIx ρ y.1 y.2) = t ∧ IntKind.i64.wrap t = t ∧ nx ≤ nx' ∧ ∃ v r', z = .val v ∧ VR r' v (.int .i64 t) ∧ Ext (symSig ρ) r w nx nx' W h'.get r' w := by
  unfold biH at e
  cases hc : biB B k x.1 x.2 y.1 y.2 with
  | none => rw [hc] at e; cases (show (fail : M Sy Nxt) h nx = _ from e)
  | some c =>
    rw [hc] at e
    obtain ⟨hk, e1⟩ := cond_ok e
    obtain ⟨g1, g2⟩ := biB_ok hB hc
    obtain ⟨hle, v, r', rfl, hv, hX⟩ := lVal_ok (v' := .int .i64 (atIx ρ c.1 c.2)) e1 hM hN rfl
    have hs := smallI_ok hk
    refine ⟨_, g1, ?_, hle, v, r', rfl, hv, hX⟩
    rw [IntKind.wrap_i64]
    unfold atIx
    omega
theorem iBin_ok (hB : AllX ρ B) {op : BinOp} {x y : Nat × Int} {z : Nxt} (e : iBin B op x y h nx = .ok z h' nx' R W) (hM : Mod (symSig ρ) r h.get w) (hN : New r nx nx') (ty : TypeId) (p q : Operand) :
    nx ≤ nx' ∧ ∃ v u r', z = .val v ∧ (do eqGuard op ty p q (.int .i64 (atIx ρ x.1 x.2)) (.int .i64 (atIx ρ y.1 y.2)); binOp op ty (.int .i64 (atIx ρ x.1 x.2)) (.int .i64 (atIx ρ y.1 y.2)) : Sem Value).run Tryz.prog w = .ok u w ∧ VR r' v u ∧ Ext (symSig ρ) r w nx nx' W h'.get r' w := by
  have cmp : ∀ {op : BinOp}, (match cmpX B op x.1 x.2 y.1 y.2 with
      | some r => val (.bool r)
      | none => fail : M Sy Nxt) h nx = .ok z h' nx' R W → nx ≤ nx' ∧ ∃ v u r', z = .val v ∧ (do eqGuard op ty p q (.int .i64 (atIx ρ x.1 x.2)) (.int .i64 (atIx ρ y.1 y.2)); binOp op ty (.int .i64 (atIx ρ x.1 x.2)) (.int .i64 (atIx ρ y.1 y.2)) : Sem Value).run Tryz.prog w = .ok u w ∧ VR r' v u ∧ Ext (symSig ρ) r w nx nx' W h'.get r' w := fun {op} e => by
    cases hc : cmpX B op x.1 x.2 y.1 y.2 with
    | none => rw [hc] at e; cases (show (fail : M Sy Nxt) h nx = _ from e)
    | some b =>
      rw [hc] at e
      obtain ⟨rfl, rfl, rfl, rfl⟩ := val_ok e
      exact ⟨Nat.le_refl _, _, .bool b, r, rfl, cmpX_ok hB hc ty p q w, .same rfl, Ext.refl _ _ hM⟩
  have add : ∀ {s : Int}, bdB B x.1 = true → smallI s = true → IntKind.i64.wrap (atIx ρ x.1 s) = atIx ρ x.1 s := fun {s} h1 h2 => by
    have := bdB_ok hB h1
    have := smallI_ok h2
    rw [IntKind.wrap_i64]
    unfold atIx
    omega
  obtain ⟨b, t⟩ := y
  cases op
  case add =>
    rcases condB (show cond (Nat.beq b 0 && (bdB B x.1 && smallI (x.2 + t))) (lVal (.ix x.1 (x.2 + t))) (biH B 0 x (b, t)) h nx = _ from e) with ⟨hk, e1⟩ | ⟨_, e1⟩
    case inr =>
      obtain ⟨q, h1, h2, hle, v, r', rfl, hv, hX⟩ := biH_ok hB e1 hM hN
      have h1' : atIx ρ x.1 x.2 + atIx ρ b t = q := h1
      refine ⟨hle, v, _, r', rfl, ?_, hv, hX⟩
      simp [eqGuard, binOp, Op.intArith, h1', h2]
    simp only [Bool.and_eq_true] at hk
    obtain rfl := Nat.eq_of_beq_eq_true hk.1
    obtain ⟨hle, v, r', rfl, hv, hX⟩ := lVal_ok (v' := .int .i64 (atIx ρ x.1 (x.2 + t))) e1 hM hN rfl
    refine ⟨hle, v, _, r', rfl, ?_, hv, hX⟩
    have h1 := add hk.2.1 hk.2.2
    have h2 : atIx ρ x.1 x.2 + atIx ρ 0 t = atIx ρ x.1 (x.2 + t) := by unfold atIx; rw [ρ.nat0]; simp; omega
    simp [eqGuard, binOp, Op.intArith, h2, h1]
  case sub =>
    have e0 : (match dfB B x.1 x.2 b t with
      | some c => lVal (.ix c 0)
      | none => cond (Nat.beq b 0 && (bdB B x.1 && smallI (x.2 - t))) (lVal (.ix x.1 (x.2 - t))) (biH B 1 x (b, t)) : M Sy Nxt) h nx = .ok z h' nx' R W := e
    cases hd : dfB B x.1 x.2 b t with
    | some c =>
      rw [hd] at e0
      obtain ⟨g1, g2⟩ := dfB_ok hB hd
      obtain ⟨hle, v, r', rfl, hv, hX⟩ := lVal_ok (v' := .int .i64 (atIx ρ c 0)) e0 hM hN rfl
      refine ⟨hle, v, _, r', rfl, ?_, hv, hX⟩
      have h1 : atIx ρ x.1 x.2 - atIx ρ b t = atIx ρ c 0 := by rw [g1]; unfold atIx; simp
      have h3 : IntKind.i64.wrap (atIx ρ c 0) = atIx ρ c 0 := by
        rw [IntKind.wrap_i64]
        unfold atIx
        omega
      simp [eqGuard, binOp, Op.intArith, h1, h3]
    | none =>
    rw [hd] at e0
    have e := e0
    rcases condB (show cond (Nat.beq b 0 && (bdB B x.1 && smallI (x.2 - t))) (lVal (.ix x.1 (x.2 - t))) (biH B 1 x (b, t)) h nx = _ from e) with ⟨hk, e1⟩ | ⟨_, e1⟩
    case inr =>
      obtain ⟨q, h1, h2, hle, v, r', rfl, hv, hX⟩ := biH_ok hB e1 hM hN
      have h1' : atIx ρ x.1 x.2 - atIx ρ b t = q := h1
      refine ⟨hle, v, _, r', rfl, ?_, hv, hX⟩
      simp [eqGuard, binOp, Op.intArith, h1', h2]
    simp only [Bool.and_eq_true] at hk
    obtain rfl := Nat.eq_of_beq_eq_true hk.1
    obtain ⟨hle, v, r', rfl, hv, hX⟩ := lVal_ok (v' := .int .i64 (atIx ρ x.1 (x.2 - t))) e1 hM hN rfl
    refine ⟨hle, v, _, r', rfl, ?_, hv, hX⟩
    have h1 := add hk.2.1 hk.2.2
    have h2 : atIx ρ x.1 x.2 - atIx ρ 0 t = atIx ρ x.1 (x.2 - t) := by unfold atIx; rw [ρ.nat0]; simp; omega
    simp [eqGuard, binOp, Op.intArith, h2, h1]
  all_goals exact cmp e
end
end Ev
end Go.Proofs.YtdlhpleabfnogaaGreatDoor
