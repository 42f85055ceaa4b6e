/- Contracts. -/
import Derived.Test.YtnlhjcfpfapafaaEBq21
namespace Go.Proofs.Ytnlhjcfpfapafaa
open Go Go.RowKit
namespace Ev
section
variable {F : Type} {S : Sig F} {P : Program} {C : Cfg F}
def ren00 : Ren := ⟨fun _ => none, fun _ => none, fun _ => 0⟩
def MarksV (S : Sig F) (B0 : Nat) (ds : List Deferred) (w : World) : Prop := Marks S B0 ds ren00 w
theorem Marks.drop {B0 : Nat} : ∀ {ds : List Deferred} {r : Ren} {w : World}, Marks S B0 ds r w → MarksV S B0 ds w
 | [], _, _, h => h
 | _ :: _, _, _, ⟨h, D, h1, h2, _, h4⟩ => ⟨Marks.drop h, D, h1, h2, fun _ q => (by cases q), h4⟩
theorem MarksV.name {B0 : Nat} {r : Ren} {w : World} : ∀ {ds : List Deferred}, MarksV S B0 ds w → (∀ e ∈ ds, ∀ D, e.target = .collected D → w.heap[D]? = some (.deferred (some [])) → S.G ≤ D → ∀ k, r.blk k ≠ some D) → Marks S B0 ds r w
 | [], h, _ => h
 | _ :: _, ⟨h, D, h1, h2, _, h4, h5, h6⟩, hr => ⟨MarksV.name h fun e he => hr e (List.mem_cons_of_mem _ he), D, h1, h2, hr _ List.mem_cons_self D (by rw [h1]) h2 h4, h4, h5, h6⟩
theorem MarksV.sig {T : Sig F} (hG : T.G = S.G) {B0 : Nat} {w : World} : ∀ {ds : List Deferred}, MarksV S B0 ds w → MarksV T B0 ds w
 | [], h => h
 | _ :: _, ⟨h, D, h1, h2, h3, h4, h5⟩ => ⟨MarksV.sig hG h, D, h1, h2, h3, by rw [hG]; exact h4, h5⟩
noncomputable def chanOf : Value → Option Nat
 | .chan i => i
 | _ => none
theorem chanOf_of {v : Value} {i : Nat} (e : chanOf v = some i) : v = .chan (some i) := by
 cases v <;> simp [chanOf] at e
 subst e; rfl
theorem vr_chan {r : Ren} {i : Nat} {v' v : Value} (hv : VR r (.chan (some i)) v') (h : r.val i = some v) : v' = v := by
 cases hv with
 | same p => simp [plain] at p
 | opq p _ => rw [h] at p; cases p; rfl
noncomputable def nil0 (v : Value) : Bool := match v with
 | .slice a n c => match a with
  | none => Nat.beq n 0 && Nat.beq c 0
  | some _ => false
 | _ => false
theorem nil0_ok {v : Value} (h : nil0 v = true) : v = .slice none 0 0 := by
 cases v <;> first | (cases h; done) | skip
 rename_i a n c
 cases a with
 | some _ => cases h
 | none =>
  have h' := Bool.and_eq_true_iff.1 (show (Nat.beq n 0 && Nat.beq c 0) = true from h)
  rw [Nat.eq_of_beq_eq_true h'.1, Nat.eq_of_beq_eq_true h'.2]
noncomputable def fn0 (v : Value) : Option Nat := match v with
 | .func fn a b => match fn with
  | .func f => cond (a.toList.isEmpty && b.toList.isEmpty) (some f) none
  | _ => none
 | _ => none
theorem fn0_ok {v : Value} {f : Nat} (h : fn0 v = some f) : v = .func (.func f) #[] #[] := by
 unfold fn0 at h
 split at h <;> first | (cases h; done) | skip
 rename_i fn a b
 split at h <;> first | (cases h; done) | skip
 rename_i g
 cases hc : (a.toList.isEmpty && b.toList.isEmpty) with
 | false => rw [hc] at h; cases h
 | true =>
  rw [hc] at h
  cases h
  simp only [Bool.and_eq_true, List.isEmpty_iff] at hc
  obtain ⟨a⟩ := a
  obtain ⟨b⟩ := b
  have h1 : a = [] := hc.1
  have h2 : b = [] := hc.2
  rw [h1, h2]
noncomputable def eqFn (v w : Value) : Bool := match fn0 v with
 | some f => match fn0 w with
  | some g => Nat.beq f g
  | none => false
 | none => false
theorem eqFn_ok {v w : Value} (h : eqFn v w = true) : v = w := by
 unfold eqFn at h
 cases h1 : fn0 v with
 | none => rw [h1] at h; cases h
 | some f =>
  rw [h1] at h
  cases h2 : fn0 w with
  | none => rw [h2] at h; cases h
  | some g =>
   rw [h2] at h
   rw [fn0_ok h1, fn0_ok h2, Nat.eq_of_beq_eq_true h]
noncomputable def eq0 (v w : Value) : Bool := eqFn v w || ((nil0 v && nil0 w) || eqV v w)
theorem eq0_ok (v w : Value) (h : eq0 v w = true) : v = w := by
 rcases Bool.or_eq_true_iff.1 (show (eqFn v w || ((nil0 v && nil0 w) || eqV v w)) = true from h) with q | q
 ·exact eqFn_ok q
 rcases Bool.or_eq_true_iff.1 q with q | q
 ·have q' := Bool.and_eq_true_iff.1 q
  rw [nil0_ok q'.1, nil0_ok q'.2]
 ·exact eqV_ok _ _ q
noncomputable def isSl (eqF : F → F → Bool) (h : Tr (Blk F)) (v : Value) (d : Sl F) : Bool := match d with
 | .p u => plain2 u && eq0 v u
 | .f x => match chanOf v with
  | some i => match h.get i with
   | some b => match b with
    | .fact y => eqF x y
    | _ => false
   | none => false
  | none => false
 | .ow x => match chanOf v with
  | some i => match h.get i with
   | some b => match b with
    | .ow y => eqF x y
    | _ => false
   | none => false
  | none => false
variable {eqF : F → F → Bool}
theorem isSl_ok (heq : ∀ x y, eqF x y = true → x = y) {h : Tr (Blk F)} {v v' : Value} {d : Sl F} {r : Ren} {w : World} (e : isSl eqF h v d = true) (hM : Mod S r h.get w) (hv : VR r v v') :
  d.is S w v' ∧ ∀ b ∈ ownOf d v', ∃ i y, chanOf v = some i ∧ r.blk i = some b ∧ h.get i = some (.ow y) := by
 cases d with
 | p u =>
  simp only [isSl, Bool.and_eq_true] at e
  obtain rfl := eq0_ok _ _ e.2
  exact ⟨hv.eq_of_plain2 e.1, fun b hb => by simp [ownOf] at hb⟩
 | f x =>
  unfold isSl at e
  simp only at e
  cases hc : chanOf v with
  | none => rw [hc] at e; cases e
  | some i =>
   rw [hc] at e
   obtain rfl := chanOf_of hc
   simp only at e
   cases hg : h.get i with
   | none => rw [hg] at e; cases e
   | some b =>
    rw [hg] at e
    cases b <;> first | (cases e; done) | skip
    rename_i y
    obtain rfl := heq _ _ e
    obtain ⟨u, q1, q2, q3⟩ := hM.fact i _ hg
    obtain rfl := vr_chan hv q1
    exact ⟨⟨q2, q3⟩, fun b hb => by simp [ownOf] at hb⟩
 | ow x =>
  unfold isSl at e
  simp only at e
  cases hc : chanOf v with
  | none => rw [hc] at e; cases e
  | some i =>
   rw [hc] at e
   obtain rfl := chanOf_of hc
   simp only at e
   cases hg : h.get i with
   | none => rw [hg] at e; cases e
   | some b =>
    rw [hg] at e
    cases b <;> first | (cases e; done) | skip
    rename_i y
    obtain rfl := heq _ _ e
    obtain ⟨u, q1, q2, q3, q4⟩ := hM.ow i _ hg
    obtain rfl := vr_chan hv q1
    exact ⟨⟨q2, q3, fun b hb => (q4 b hb).2⟩, fun b hb => ⟨i, x, rfl, (q4 b (by simpa [ownOf] using hb)).1, hg⟩⟩
noncomputable def ownNm (ts : Tr Value) : List Nat → List (Sl F) → List Nat
 | [], _ => []
 | _, [] => []
 | t :: tms, d :: ds => (match d with
  | .ow _ => (chanOf (opd ts (.tmp t))).toList
  | _ => []) ++ ownNm ts tms ds
noncomputable def seeSls (eqF : F → F → Bool) (h : Tr (Blk F)) (ts : Tr Value) : List Nat → List (Sl F) → Bool
 | [], [] => true
 | t :: tms, d :: ds => isSl eqF h (opd ts (.tmp t)) d && seeSls eqF h ts tms ds
 | _, _ => false
noncomputable def distinct : List Nat → Bool
 | [] => true
 | n :: l => !elem n l && distinct l
theorem distinct_ok : ∀ {l : List Nat}, distinct l = true → l.Nodup
 | [], _ => List.nodup_nil
 | n :: l, h => by
  simp only [distinct, Bool.and_eq_true, Bool.not_eq_true'] at h
  refine List.nodup_cons.2 ⟨fun q => ?_, distinct_ok h.2⟩
  rw [elem_iff.2 q] at h
  cases h.1
theorem seeSls_ok (heq : ∀ x y, eqF x y = true → x = y) {h : Tr (Blk F)} {ts : Tr Value} {r : Ren} {w : World} {a : Act} (hM : Mod S r h.get w) (hT : TR r ts a) : ∀ {tms : List Nat} {ds : List (Sl F)}, seeSls eqF h ts tms ds = true → (ownNm ts tms ds).Nodup →
  AtV S w ds (valsOf tms a) ∧ (owns ds (valsOf tms a)).Nodup ∧ ∀ b ∈ owns ds (valsOf tms a), ∃ i y, i ∈ ownNm ts tms ds ∧ r.blk i = some b ∧ h.get i = some (.ow y)
 | [], [], _, _ => ⟨rfl, List.nodup_nil, fun b hb => by simp [owns] at hb⟩
 | [], _ :: _, e, _ => by cases (show false = true from e)
 | _ :: _, [], e, _ => by cases (show false = true from e)
 | t :: tms, d :: ds, e, hn => by
  have e' : (isSl eqF h (opd ts (.tmp t)) d && seeSls eqF h ts tms ds) = true := e
  simp only [Bool.and_eq_true] at e'
  obtain ⟨h1, h2⟩ := isSl_ok heq e'.1 hM (hT t)
  simp only [ownNm] at hn
  obtain ⟨n1, n2, n3⟩ := List.nodup_append.1 hn
  obtain ⟨k1, k2, k3⟩ := seeSls_ok heq hM hT e'.2 n2
  have hin : ∀ b ∈ ownOf d (a.eval (.tmp t)), ∃ i y, i ∈ (match d with
    | .ow _ => (chanOf (opd ts (.tmp t))).toList
    | _ => []) ∧ r.blk i = some b ∧ h.get i = some (.ow y) := fun b hb => by
   obtain ⟨i, y, q1, q2, q3⟩ := h2 b hb
   cases d with
   | ow x => exact ⟨i, y, by simp [q1], q2, q3⟩
   | _ => simp [ownOf] at hb
  refine ⟨⟨_, _, rfl, h1, k1⟩, ?_, fun b hb => ?_⟩
  ·show (ownOf d (a.eval (.tmp t)) ++ owns ds (valsOf tms a)).Nodup
   refine List.nodup_append.2 ⟨?_, k2, fun b hb b' hb' q => ?_⟩
   ·cases d with
    | ow x => show ((blkV _).toList).Nodup; cases blkV (a.eval (.tmp t)) <;> simp
    | _ => exact List.nodup_nil
   ·subst q
    obtain ⟨i, y, q1, q2, q3⟩ := hin b hb
    obtain ⟨j, z, q4, q5, q6⟩ := k3 b hb'
    rcases hM.inj i j b q2 q5 with q | q | q
    ·exact n3 i q1 j q4 q
    ·exact q.2.2.2 y q3
    ·exact q.2.2.2 z q6
  ·have hb' : b ∈ ownOf d (a.eval (.tmp t)) ++ owns ds (valsOf tms a) := hb
   rcases List.mem_append.1 hb' with hb' | hb'
   ·obtain ⟨i, y, q1, q2, q3⟩ := hin b hb'
    exact ⟨i, y, by simp only [ownNm]; exact List.mem_append_left _ q1, q2, q3⟩
   ·obtain ⟨i, y, q1, q2, q3⟩ := k3 b hb'
    exact ⟨i, y, by simp only [ownNm]; exact List.mem_append_right _ q1, q2, q3⟩
structure Frm (O : List Nat) (w w' : World) : Prop where
 keep : ∀ (b : Nat) (o : Obj), w.heap[b]? = some o → b ∉ O → w'.heap[b]? = some o
 size : w.heap.size ≤ w'.heap.size
 os : w'.os = w.os
 tape : w'.tape = w.tape
 output : w'.output = w.output
 loops : Loops w w'
structure AtL (S : Sig F) (N : Nat) (tms : List Nat) (cs : List (Sl F)) (B0 : Nat) (D0 : Df) (ro : Option Nat) (a : Act) (w : World) : Prop where
 size : a.tmps.size = N
 at_ : AtV S w cs (valsOf tms a)
 nd : (owns cs (valsOf tms a)).Nodup
 marks : MarksV S B0 a.defers w
 round : InRound ro w
 dfs : DfOK D0 a.defers w
 G : S.G ≤ w.heap.size
 base : S.base w
 lo : S.lo ≤ w.heap.size
structure RPost (S : Sig F) (N : Nat) (tms : List Nat) (cs cs' : List (Sl F)) (B0 : Nat) (D0 : Df) (ro : Option Nat) (a : Act) (w : World) (a' : Act) (w' : World) : Prop where
 size : a'.tmps.size = N
 at_ : AtV S w' cs' (valsOf tms a')
 nd : (owns cs' (valsOf tms a')).Nodup
 new : ∀ b ∈ owns cs' (valsOf tms a'), b ∈ owns cs (valsOf tms a) ∨ w.heap.size ≤ b
 frm : Frm (owns cs (valsOf tms a)) w w'
 marks : MarksV S B0 a'.defers w'
 round : InRound ro w'
 dfs : DfOK D0 a'.defers w'
noncomputable def roundT (P : Program) (C : Cfg F) (call : Cl F) (N fuel : Nat) (eqF : F → F → Bool) (tms : List Nat) (cs cs' : List (Sl F)) (x : Code) : Bool := match newSls cs .nil 100000 with
 | .no => false
 | .ok us h nx _ _ => match code P C call N fuel x (putAll (junkT N) tms us) h nx with
  | .no => false
  | .ok e h' _ _ W => match e.1 with
   | .normal => geAll 100000 W && (seeSls eqF h' e.2 tms cs' && (distinct (ownNm e.2 tms cs') && (plainSls cs && Nat.ble N 50000)))
   | .exit _ => false
   | .ret => false
theorem round_run [HardLoc C] {call : Cl F} {N fuel : Nat} {x : Code} {tms : List Nat} {cs cs' : List (Sl F)} (hF : Fits S P C) (hc : ClOK S P call) (hys : call.ys = []) (hJ : ∀ y ∈ loopsIn x, ∀ m, call.jmp y = some m → JmpOK S P N y m) (heq : ∀ x y, eqF x y = true → x = y)
  (e : roundT P C call N fuel eqF tms cs cs' x = true) (hG5 : S.G ≤ 50000) {ro : Option Nat} {d B0 : Nat} {D0 : Df} {a : Act} {w : World} (h : AtL S N tms cs B0 D0 ro a w) :
  x.wpIn (RF ro) d P (Exit.then (RPost S N tms cs cs' B0 D0 ro a w) (fun _ _ _ => False)) a w := by
 unfold roundT at e
 cases h1 : newSls cs .nil 100000 with
 | no => rw [h1] at e; cases e
 | ok us hh nx1 R1 W1 =>
  rw [h1] at e
  simp only at e
  cases h2 : code P C call N fuel x (putAll (junkT N) tms us) hh nx1 with
  | no => rw [h2] at e; cases e
  | ok ee h3 nx2 R W =>
   rw [h2] at e
   simp only at e
   obtain ⟨ex, ts'⟩ := ee
   cases ex with
   | exit j => cases e
   | ret => cases e
   | normal =>
    simp only [Bool.and_eq_true] at e
    obtain ⟨e1, e2, e3, e4, e5⟩ := e
    have hW := geAll_ok e1
    have hN5 := Nat.le_of_ble_eq_true e5
    have hg : (Tr.get (.nil : Tr (Blk F))) = fun _ => none := funext fun k => Tr.get_nil k
    have hN0 : ∀ hi, New (ren1 S.G N a) 100000 hi := fun hi k q1 q2 => ⟨if_neg (by omega), if_neg (by omega)⟩
    obtain ⟨-, hle, r1, q1, q2, q3, q4, q5, q6⟩ := newSls_ok cs h1 e4 (by rw [hg]; exact mod1 N a h.G h.base h.lo) (hN0 (max nx1 nx2)) (Nat.le_max_left _ _) h.at_ h.nd (fun b _ k _ => by
     refine ⟨fun c t => ?_, fun c t => ?_, fun s => ?_, fun f => ?_⟩ <;> rw [hg] <;> simp)
    have hnm : ∀ n b, r1.blk n = some b → (n < S.G ∧ b = n) ∨ b ∈ owns cs (valsOf tms a) := fun n b q => by
     rcases q4 n b q with q | ⟨_, _, q⟩
     ·left
      have q' : (if n < S.G then some n else none) = some b := q
      split at q'
      ·cases q'; exact ⟨by assumption, rfl⟩
      ·cases q'
     ·exact .inr q
    have hfr : Fr hh nx1 := ((loc_newSls cs).2 _ _ _ _ _ _ _ h1 (fun k _ => Tr.get_nil k)).fr
    have hrun := Run.self (loc_code P C N fuel hc.loc x _) h2 hfr
    have hSt : St S P call.ys N ro B0 D0 (putAll (junkT N) tms us) r1 w a := by
     refine ⟨tr_sets tms ((tr_junk h.size).mono q1) q3, h.size, h.marks.name fun e _ D _ hD hGD k hk => ?_, h.round, by rw [hys]; trivial, h.dfs⟩
     rcases hnm k D hk with ⟨_, q⟩ | q
     ·omega
     ·obtain ⟨_, c, t, z, q, _⟩ := owns_cells h.at_ q
      rw [hD] at q; cases q
    refine code_ok hF hc x hJ hrun q2 (q6.sub (Nat.le_refl _) (Nat.le_max_right _ _)) hSt _ fun a' r' w' hS' hX => ?_
    obtain ⟨k1, k2, k3⟩ := seeSls_ok heq hX.mod hS'.T e2 (distinct_ok e3)
    refine ⟨hS'.size, k1, k2, fun b hb => ?_, ⟨fun b o hb hn => hX.keep b o hb fun n hn2 q => ?_, hX.size, hX.os, hX.tape, hX.output, hX.loops⟩, hS'.marks.drop, hS'.round, hS'.dfs⟩
    ·obtain ⟨i, y, _, q8, _⟩ := k3 b hb
     have hGb := (owns_cells k1 hb).1
     rcases hX.new i b q8 with q | q | ⟨k, hk, q⟩
     ·rcases hnm i b q with ⟨_, q⟩ | q
      ·omega
      ·exact .inl q
     ·exact .inr q
     ·rcases hnm k b q with ⟨_, q⟩ | q
      ·omega
      ·exact .inl q
    ·have := hW n hn2
     rcases hnm n b q with ⟨q, _⟩ | q
     ·omega
     ·exact hn q
end
section
variable {F : Type} {S : Sig F} {P : Program} {C : Cfg F} {eqF : F → F → Bool}
noncomputable def takeSl (eqF : F → F → Bool) (v : Value) (d : Sl F) : M F Unit := match d with
 | .p u => guard (plain2 u && eq0 v u)
 | .f x => bind (fact v) fun y => guard (eqF x y)
 | .ow x => match chanOf v with
  | some i => bind (rd i) fun b => match b with
   | .ow y => cond (eqF x y) (wr i .opq) fail
   | _ => fail
  | none => fail
noncomputable def takeSls (eqF : F → F → Bool) (ts : Tr Value) : List Nat → List (Sl F) → M F Unit
 | [], [] => ret ()
 | t :: tms, d :: ds => bind (takeSl eqF (opd ts (.tmp t)) d) fun _ => takeSls eqF ts tms ds
 | _, _ => fail
noncomputable def junks (N : Nat) : Tr Value → M F (Tr Value) := Nat.rec (motive := fun _ => Tr Value → M F (Tr Value)) (fun ts => ret ts) (fun t ih ts => bind (fresh .opq) fun m => ih (ts.set t (.map (some m)))) N
noncomputable def jumpM (eqF : F → F → Bool) (N : Nat) (tms : List Nat) (pre post : List (Sl F)) (ts : Tr Value) : M F (Tr Value) :=
 bind (takeSls eqF ts tms pre) fun _ => bind (newSls post) fun us => bind (junks N .nil) fun js => ret (putAll js tms us)
theorem loc_guard (b : Bool) : Loc (guard b : M F Unit) := loc_cond (loc_ret _) loc_fail
theorem loc_takeSl (v : Value) (d : Sl F) : Loc (takeSl eqF v d) := by
 cases d with
 | p u => exact loc_guard _
 | f x => exact loc_bind (loc_fact _) fun _ => loc_guard _
 | ow x =>
  unfold takeSl
  simp only
  split
  ·refine loc_bind (loc_rd _) fun b => ?_
   split
   ·exact loc_cond (loc_wr _ _) loc_fail
   ·exact loc_fail
  ·exact loc_fail
theorem loc_takeSls (ts : Tr Value) : ∀ (tms : List Nat) (ds : List (Sl F)), Loc (takeSls eqF ts tms ds)
 | [], [] => loc_ret _
 | [], _ :: _ => loc_fail
 | _ :: _, [] => loc_fail
 | _ :: tms, _ :: ds => loc_bind (loc_takeSl _ _) fun _ => loc_takeSls ts tms ds
theorem loc_junks : ∀ (N : Nat) (ts : Tr Value), Loc (junks N ts : M F (Tr Value))
 | 0, _ => loc_ret _
 | N + 1, _ => loc_bind (loc_fresh _) fun _ => loc_junks N _
theorem loc_jumpM (N : Nat) (tms : List Nat) (pre post : List (Sl F)) (ts : Tr Value) : Loc (jumpM eqF N tms pre post ts) :=
 loc_bind (loc_takeSls _ _ _) fun _ => loc_bind (loc_newSls _) fun _ => loc_bind (loc_junks _ _) fun _ => loc_ret _
theorem Mod.opqd {r : Ren} {g : Nat → Option (Blk F)} {w : World} (hM : Mod S r g w) (i : Nat) : Mod S r (fun n => if n = i then some .opq else g n) w := by
 have hgo : ∀ k, Gone g k → Gone (fun n => if n = i then some .opq else g n) k := fun k q => by
  by_cases e : k = i
  ·exact ⟨fun c t => by simp [e], fun c t q => by simp [e] at q, ⟨fun s => by simp [e], fun f => by simp [e]⟩⟩
  ·exact ⟨fun c t => by simpa only [if_neg e] using q.1 c t, fun c t => by simpa only [if_neg e] using q.2.1 c t, ⟨fun s => by simpa only [if_neg e] using q.2.2.1 s, fun f => by simpa only [if_neg e] using q.2.2.2 f⟩⟩
 refine ⟨fun n m b h1 h2 => (hM.inj n m b h1 h2).imp id (Or.imp (hgo n) (hgo m)), hM.lt, fun n c t h1 => ?_, fun n f h1 => ?_, hM.base, hM.glob, hM.own, fun n c t h1 => ?_, hM.sz, hM.lp.mono (.refl r) (fun n s h1 => ?_) (fun _ _ q => q), hM.ow.all (.refl r) (fun n f h1 => ?_) (fun _ _ q => q), hM.ad.mono (.refl r) fun n m y h1 => ?_⟩ <;> (split at h1; cases h1)
 ·exact hM.cells n c t h1
 ·exact hM.fact n f h1
 ·exact hM.room n c t h1
 ·exact h1
 ·exact h1
 ·exact h1
theorem takeSls_ok (heq : ∀ x y, eqF x y = true → x = y) {ts : Tr Value} {r : Ren} {w : World} {a : Act} (hT : TR r ts a) : ∀ {tms : List Nat} {ds : List (Sl F)} {h h' : Tr (Blk F)} {nx nx' : Nat} {R W : List Nat} {u : Unit}, takeSls eqF ts tms ds h nx = .ok u h' nx' R W → Mod S r h.get w →
  nx' = nx ∧ AtV S w ds (valsOf tms a) ∧ (owns ds (valsOf tms a)).Nodup ∧ (∀ n, h'.get n = if n ∈ W then some .opq else h.get n) ∧ (∀ i ∈ W, ∃ y, h.get i = some (.ow y)) ∧ ∀ b ∈ owns ds (valsOf tms a), ∃ i ∈ W, r.blk i = some b
 | [], [], h, h', nx, nx', R, W, u, e, hM => by
  obtain ⟨_, rfl, rfl, rfl⟩ := ret_ok (show (ret () : M F Unit) h nx = _ from e)
  exact ⟨rfl, rfl, List.nodup_nil, fun n => by simp, fun i hi => by simp at hi, fun b hb => by simp [owns] at hb⟩
 | [], _ :: _, h, h', nx, nx', R, W, u, e, _ => by cases (show (fail : M F Unit) h nx = _ from e)
 | _ :: _, [], h, h', nx, nx', R, W, u, e, _ => by cases (show (fail : M F Unit) h nx = _ from e)
 | t :: tms, d :: ds, h, h', nx, nx', R, W, u, e, hM => by
  obtain ⟨_, h1, nx1, R1, W1, R2, W2, e1, e2, rfl, rfl⟩ := bind_ok (show bind (takeSl eqF (opd ts (.tmp t)) d) (fun _ => takeSls eqF ts tms ds) h nx = _ from e)
  have hv := hT t
  have key : nx1 = nx ∧ d.is S w (a.eval (.tmp t)) ∧ (∀ n, h1.get n = if n ∈ W1 then some .opq else h.get n) ∧ (∀ i ∈ W1, ∃ y, h.get i = some (.ow y)) ∧ (∀ b ∈ ownOf d (a.eval (.tmp t)), ∃ i ∈ W1, r.blk i = some b) ∧ Mod S r h1.get w := by
   cases d with
   | p v =>
    unfold takeSl guard at e1
    obtain ⟨hp, e1⟩ := cond_ok e1
    obtain ⟨_, rfl, rfl, rfl⟩ := ret_ok e1
    simp only [Bool.and_eq_true] at hp
    have := eq0_ok _ _ hp.2
    rw [this] at hv
    exact ⟨rfl, hv.eq_of_plain2 hp.1, fun n => by simp, fun i hi => by simp at hi, fun b hb => by simp [ownOf] at hb, hM⟩
   | f x =>
    obtain ⟨y, h5, nx5, R5, W5, R6, W6, e5, e6, rfl, rfl⟩ := bind_ok (show bind (fact (opd ts (.tmp t))) (fun y => guard (eqF x y)) h nx = _ from e1)
    unfold guard at e6
    obtain ⟨hq, e6⟩ := cond_ok e6
    obtain ⟨_, rfl, rfl, rfl⟩ := ret_ok e6
    obtain rfl := heq _ _ hq
    obtain ⟨rfl, rfl, rfl, hh⟩ := fact_ok e5 hv hM
    have ho : isOne (a.eval (.tmp t)) = true := by
     unfold fact at e5
     cases ho : opd ts (.tmp t) with
     | chan i =>
      cases i with
      | none => rw [ho] at e5; simp [fail] at e5
      | some i =>
       rw [ho] at hv
       generalize a.eval (.tmp t) = z at hv
       cases hv with
       | same p => simp [plain] at p
       | opq _ q => exact q
     | _ => rw [ho] at e5; simp [fail] at e5
    exact ⟨rfl, ⟨hh, ho⟩, fun n => by simp, fun i hi => by simp at hi, fun b hb => by simp [ownOf] at hb, hM⟩
   | ow x =>
    unfold takeSl at e1
    simp only at e1
    cases hc : chanOf (opd ts (.tmp t)) with
    | none => rw [hc] at e1; simp [fail] at e1
    | some i =>
     rw [hc] at e1
     simp only at e1
     have hc' := chanOf_of hc
     obtain ⟨y, h5, nx5, R5, W5, R6, W6, e5, e6, rfl, rfl⟩ := bind_ok e1
     unfold rd at e5
     cases hg : h.get i with
     | none => rw [hg] at e5; cases e5
     | some bb =>
      rw [hg] at e5
      cases e5
      cases y <;> first | (cases (show (fail : M F Unit) _ _ = _ from e6); done) | skip
      rename_i y
      simp only at e6
      obtain ⟨hq, e7⟩ := cond_ok e6
      clear e6
      obtain rfl := heq _ _ hq
      unfold wr at e7
      rw [hg] at e7
      cases e7
      obtain ⟨v, q1, q2, q3, q4⟩ := hM.ow i _ hg
      rw [hc'] at hv
      obtain rfl := vr_chan hv q1
      refine ⟨rfl, ⟨q2, q3, fun b hb => (q4 b hb).2⟩, fun n => ?_, fun j hj => ?_, fun b hb => ⟨i, by simp, (q4 b (by simpa [ownOf] using hb)).1⟩, (hM.opqd i).congr fun n => .inr (Tr.get_set _ _ _ _)⟩
      ·rw [Tr.get_set]; simp
      ·have : j = i := by simpa using hj
       subst this; exact ⟨_, hg⟩
  obtain ⟨rfl, k1, k2, k3, k4, k5⟩ := key
  obtain ⟨rfl, j1, j2, j3, j4, j5⟩ := takeSls_ok heq hT e2 k5
  have hout : ∀ i ∈ W2, i ∉ W1 ∧ ∃ y, h.get i = some (.ow y) := fun i hi => by
   obtain ⟨y, q⟩ := j4 i hi
   rw [k2] at q
   split at q
   ·cases q
   ·exact ⟨by assumption, y, q⟩
  refine ⟨rfl, ⟨_, _, rfl, k1, j1⟩, ?_, fun n => ?_, fun i hi => ?_, fun b hb => ?_⟩
  ·show (ownOf d (a.eval (.tmp t)) ++ owns ds (valsOf tms a)).Nodup
   refine List.nodup_append.2 ⟨?_, j2, fun b hb b' hb' q => ?_⟩
   ·cases d with
    | ow x => show ((blkV _).toList).Nodup; cases blkV (a.eval (.tmp t)) <;> simp
    | _ => exact List.nodup_nil
   ·subst q
    obtain ⟨i, q1, q2⟩ := k4 b hb
    obtain ⟨j, q3, q4⟩ := j5 b hb'
    obtain ⟨y, q5⟩ := k3 i q1
    obtain ⟨q6, z, q7⟩ := hout j q3
    rcases hM.inj i j b q2 q4 with q | q | q
    ·exact q6 (q ▸ q1)
    ·exact q.2.2.2 y q5
    ·exact q.2.2.2 z q7
  ·rw [j3, k2]
   by_cases h2 : n ∈ W2
   ·rw [if_pos h2, if_pos (List.mem_append_right _ h2)]
   ·rw [if_neg h2]
    by_cases h1 : n ∈ W1
    ·rw [if_pos h1, if_pos (List.mem_append_left _ h1)]
    ·rw [if_neg h1, if_neg (fun q => (List.mem_append.1 q).elim h1 h2)]
  ·rcases List.mem_append.1 hi with hi | hi
   ·exact k3 i hi
   ·exact (hout i hi).2
  ·have hb' : b ∈ ownOf d (a.eval (.tmp t)) ++ owns ds (valsOf tms a) := hb
   rcases List.mem_append.1 hb' with hb' | hb'
   ·obtain ⟨i, q1, q2⟩ := k4 b hb'
    exact ⟨i, List.mem_append_left _ q1, q2⟩
   ·obtain ⟨i, q1, q2⟩ := j5 b hb'
    exact ⟨i, List.mem_append_right _ q1, q2⟩
theorem mod_frame {r : Ren} {g : Nat → Option (Blk F)} {w w' : World} {I O : List Nat} (hM : Mod S r g w) (hI : ∀ i ∈ I, ∃ y, g i = some (.ow y)) (hO : ∀ b ∈ O, ∃ i ∈ I, r.blk i = some b) (hOc : ∀ b ∈ O, S.G ≤ b ∧ ∃ c t z, w.heap[b]? = some (.cells c t z) ∧ S.hid b t = false) (hf : Frm O w w') :
  Mod S r (fun n => if n ∈ I then some .opq else g n) w' := by
 have hgo : ∀ k, Gone g k → Gone (fun n => if n ∈ I then some .opq else g n) k := fun k q => by
  by_cases e : k ∈ I
  ·exact ⟨fun c t => by simp [e], fun c t q => by simp [e] at q, ⟨fun s => by simp [e], fun f => by simp [e]⟩⟩
  ·exact ⟨fun c t => by simpa only [if_neg e] using q.1 c t, fun c t => by simpa only [if_neg e] using q.2.1 c t, ⟨fun s => by simpa only [if_neg e] using q.2.2.1 s, fun f => by simpa only [if_neg e] using q.2.2.2 f⟩⟩
 have hnot : ∀ n b, n ∉ I → r.blk n = some b → ¬ Gone g n → b ∉ O := fun n b hn hb hg hq => by
  obtain ⟨i, h1, h2⟩ := hO b hq
  obtain ⟨y, h3⟩ := hI i h1
  rcases hM.inj n i b hb h2 with q | q | q
  ·exact hn (q ▸ h1)
  ·exact hg q
  ·exact q.2.2.2 y h3
 have hloop : ∀ (b : Nat) (L : Loop), w.heap[b]? = some (.loop L) → w'.heap[b]? = some (.loop L) := fun b L hb => hf.keep b _ hb fun q => by
  obtain ⟨_, c, t, z, h, _⟩ := hOc b q
  rw [hb] at h; cases h
 have hhid : ∀ (b : Nat) (c : Array Value) (t : TypeId) (z : Nat × Nat), w.heap[b]? = some (.cells c t z) → S.hid b t = true → w'.heap[b]? = some (.cells c t z) := fun b c t z hb hh => hf.keep b _ hb fun q => by
  obtain ⟨_, c2, t2, z2, h, h2⟩ := hOc b q
  rw [hb] at h
  cases h
  rw [hh] at h2; cases h2
 refine ⟨fun n m b h1 h2 => (hM.inj n m b h1 h2).imp id (Or.imp (hgo n) (hgo m)), fun n b h1 => Nat.lt_of_lt_of_le (hM.lt n b h1) hf.size, fun n c t h1 => ?_, fun n f h1 => ?_, S.baseS w w' hM.base fun b o hb ho => hf.keep b o ho fun q => ?_, hM.glob, hM.own, fun n c t h1 => ?_, Nat.le_trans hM.sz hf.size, hM.lp.mono (.refl r) (fun n s h1 => ?_) hloop,
  hM.ow.mono (.refl r) (fun n f h1 => ?_) (fun b c t z hb hq => ?_), hM.ad.mono (.refl r) fun n m y h1 => ?_⟩
 ·split at h1
  ·cases h1
  ·rename_i hn
   obtain ⟨b, c', q1, q2, q3, q4⟩ := hM.cells n c t h1
   exact ⟨b, c', q1, hf.keep b _ q2 (hnot n b hn q1 fun q => q.1 c t h1), q3, q4⟩
 ·split at h1
  ·cases h1
  ·obtain ⟨v, q1, q2, q3⟩ := hM.fact n f h1
   exact ⟨v, q1, S.stable f w w' v q2 hhid, q3⟩
 ·have := (hOc b q).1; omega
 ·split at h1
  ·cases h1
  ·rename_i hn
   obtain ⟨b, c', q1, q2, q3, q4, q5⟩ := hM.room n c t h1
   cases c with
   | nil =>
    obtain ⟨⟨c2⟩, h2, h3⟩ := hf.loops.sh b _ _ _ q2
    exact ⟨b, c2, q1, h2, by simpa using VsR.nil, q4, by
     have : c2.length = c'.length := h3
     omega⟩
   | cons v c => exact ⟨b, c', q1, hf.keep b _ q2 (hnot n b hn q1 fun q => by cases q.2.1 _ _ h1), q3, q4, q5⟩
 ·split at h1
  ·cases h1
  ·exact h1
 ·split at h1
  ·cases h1
  ·exact h1
 ·rcases hq with hh | ⟨n, f, h1, hb2⟩
  ·exact hhid b c t z hb hh
  ·split at h1
   ·cases h1
   ·rename_i hn
    exact hf.keep b _ hb (hnot n b hn hb2 fun q => q.2.2.2 f h1)
 ·split at h1
  ·cases h1
  ·exact h1
end
section
variable {F : Type} {S : Sig F} {P : Program} {C : Cfg F} {eqF : F → F → Bool}
def isOw : Sl F → Bool
 | .ow _ => true
 | _ => false
theorem owns_kind : ∀ {ds es : List (Sl F)} {vs : List Value}, ds.map isOw = es.map isOw → owns ds vs = owns es vs
 | [], [], _, _ => rfl
 | [], _ :: _, _, h => by simp at h
 | _ :: _, [], _, h => by simp at h
 | _ :: _, _ :: _, [], _ => rfl
 | d :: ds, e :: es, v :: vs, h => by
  simp only [List.map_cons, List.cons.injEq] at h
  simp only [owns]
  rw [owns_kind h.2]
  congr 1
  cases d <;> cases e <;> first | rfl | (simp [isOw] at h; done)
theorem Frm.refl (O : List Nat) (w : World) : Frm O w w := ⟨fun _ _ h _ => h, Nat.le_refl _, rfl, rfl, rfl, .refl w⟩
theorem Marks.nameless {B0 : Nat} : ∀ {ds : List Deferred} {r : Ren} {w : World}, Marks S B0 ds r w → ∀ e ∈ ds, ∀ D, e.target = .collected D → ∀ k, r.blk k ≠ some D
 | [], _, _, _, e, he => by simp at he
 | d :: ds, r, w, ⟨h, D0, h1, h2, h3, h4⟩, e, he => fun D ht k => by
  rcases List.mem_cons.1 he with rfl | he
  ·rw [h1] at ht
   injection ht with ht
   subst ht
   exact h3 k
  ·exact Marks.nameless h e he D ht k
theorem junks_ok : ∀ (N : Nat) {ts ts' : Tr Value} {h h' : Tr (Blk F)} {nx nx' : Nat} {R W : List Nat}, (junks N ts : M F (Tr Value)) h nx = .ok ts' h' nx' R W →
  W = [] ∧ nx' = nx + N ∧ (∀ k, h'.get k = if nx ≤ k ∧ k < nx + N then some .opq else h.get k) ∧ ∀ t, ts'.get t = if t < N then some (.map (some (nx + (N - 1 - t)))) else ts.get t
 | 0, ts, ts', h, h', nx, nx', R, W, e => by
  obtain ⟨rfl, rfl, rfl, rfl⟩ := ret_ok (show (ret ts : M F (Tr Value)) h nx = _ from e)
  exact ⟨rfl, rfl, fun k => by rw [if_neg (by omega)], fun t => by rw [if_neg (by omega)]⟩
 | N + 1, ts, ts', h, h', nx, nx', R, W, e => by
  obtain ⟨m, h1, nx1, R1, W1, R2, W2, e1, e2, rfl, rfl⟩ := bind_ok (show bind (fresh .opq) (fun m => junks N (ts.set N (.map (some m)))) h nx = _ from e)
  unfold fresh at e1
  cases e1
  obtain ⟨rfl, h2, h3, h4⟩ := junks_ok N e2
  have hs : Nat.succ nx = nx + 1 := rfl
  rw [hs] at h2 h3 h4
  refine ⟨rfl, by omega, fun k => ?_, fun t => ?_⟩
  ·rw [h3, Tr.get_set]
   by_cases e0 : k = nx
   ·rw [if_neg (by omega), if_pos e0, if_pos (by omega)]
   ·rw [if_neg e0]
    by_cases e1 : nx + 1 ≤ k ∧ k < nx + 1 + N
    ·rw [if_pos e1, if_pos (by omega)]
    ·rw [if_neg e1, if_neg (by omega)]
  ·rw [h4, Tr.get_set]
   by_cases e0 : t < N
   ·rw [if_pos e0, if_pos (by omega), show nx + 1 + (N - 1 - t) = nx + (N + 1 - 1 - t) by omega]
   ·rw [if_neg e0]
    by_cases e1 : t = N
    ·rw [if_pos e1, if_pos (by omega), show N + 1 - 1 - t = 0 by omega]; rfl
    ·rw [if_neg e1, if_neg (by omega)]
theorem mod_more {r r' : Ren} {g g' : Nat → Option (Blk F)} {w : World} (hM : Mod S r g w) (hle : r.le r') (hb : r'.blk = r.blk) (hg : ∀ n, g' n = some .opq ∨ g' n = g n) : Mod S r' g' w := by
 have hgo : ∀ k, Gone g k → Gone g' k := fun k q => by
  rcases hg k with e | e
  ·exact ⟨fun c t => by simp [e], fun c t q => by simp [e] at q, ⟨fun s => by simp [e], fun f => by simp [e]⟩⟩
  ·exact ⟨fun c t => by rw [e]; exact q.1 c t, fun c t => by rw [e]; exact q.2.1 c t, ⟨fun s => by rw [e]; exact q.2.2.1 s, fun f => by rw [e]; exact q.2.2.2 f⟩⟩
 refine ⟨fun n m b h1 h2 => ?_, fun n b h1 => ?_, fun n c t h1 => ?_, fun n f h1 => ?_, hM.base, fun n hn => by rw [hb]; exact hM.glob n hn, fun n b h1 => ?_, fun n c t h1 => ?_, hM.sz, hM.lp.mono hle (fun n s h1 => ?_) (fun _ _ q => q), hM.ow.all hle (fun n f h1 => ?_) (fun _ _ q => q), hM.ad.mono hle fun n m y h1 => ?_⟩
 ·rw [hb] at h1 h2
  exact (hM.inj n m b h1 h2).imp id (Or.imp (hgo n) (hgo m))
 ·rw [hb] at h1; exact hM.lt n b h1
 ·rcases hg n with e | e <;> rw [e] at h1
  ·cases h1
  ·obtain ⟨b, c', q1, q2, q3, q4⟩ := hM.cells n c t h1
   exact ⟨b, c', hle.blk _ _ q1, q2, q3.mono hle, q4⟩
 ·rcases hg n with e | e <;> rw [e] at h1
  ·cases h1
  ·obtain ⟨v, q1, q2, q3⟩ := hM.fact n f h1
   exact ⟨v, hle.val _ _ q1, q2, q3⟩
 ·rw [hb] at h1; exact hM.own n b h1
 ·rcases hg n with e | e <;> rw [e] at h1
  ·cases h1
  ·obtain ⟨b, c', q1, q2, q3, q4, q5⟩ := hM.room n c t h1
   exact ⟨b, c', hle.blk _ _ q1, q2, q3.mono hle, q4, by rw [hle.len _ _ q1]; exact q5⟩
 ·rcases hg n with e | e <;> rw [e] at h1
  ·cases h1
  ·exact h1
 ·rcases hg n with e | e <;> rw [e] at h1
  ·cases h1
  ·exact h1
 ·rcases hg n with e | e <;> rw [e] at h1
  ·cases h1
  ·exact h1
set_option maxHeartbeats 1000000 in
theorem jmp_ok' (heq : ∀ x y, eqF x y = true → x = y) {N : Nat} {x : Code} {tms : List Nat} {pre cs cs' post : List (Sl F)} (K : Nat) (Ss : Nat → Sig F)
  (hl : ∀ k, (Ss k).G = S.G ∧ (Ss k).lo = S.lo ∧ (Ss k).base = S.base) (k1 : ∀ w vs, AtV S w pre vs → owns cs vs = owns pre vs) (k2 : cs'.map isOw = cs.map isOw) (k3 : post.map isOw = cs.map isOw) (hpp : plainSls post = true)
  (h0 : ∀ w vs, AtV S w pre vs → AtV (Ss 0) w cs vs) (hs : ∀ k, k < K → ∀ w vs, AtV (Ss k) w cs' vs → AtV (Ss (k + 1)) w cs vs) (hK : ∀ w vs, AtV (Ss K) w cs vs → AtV S w post vs)
  (hr : ∀ k, k < K → ∀ {ro : Option Nat} {d B0 : Nat} {D0 : Df} {a : Act} {w : World}, AtL (Ss k) N tms cs B0 D0 ro a w → x.wpIn (RF ro) d P (Exit.then (RPost (Ss k) N tms cs cs' B0 D0 ro a w) (fun _ _ _ => False)) a w) :
  JmpOK S P N x (jumpM eqF N tms pre post) := by
 intro ys ts ts1 h h1 nx nx1 R W e r w a ro d B0 D0 hM hN hS
 obtain ⟨_, hA, nxA, R1, W1, R2, W2, eT, e2, rfl, rfl⟩ := bind_ok e.ok
 obtain ⟨us, hB, nxB, R3, W3, R4, W4, eP, e4, rfl, rfl⟩ := bind_ok e2
 obtain ⟨js, hC, nxC, R5, W5, R6, W6, eJ, e6, rfl, rfl⟩ := bind_ok e4
 obtain ⟨rfl, rfl, rfl, rfl⟩ := ret_ok e6
 obtain ⟨rfl, t1, t2, t3, t4, t5⟩ := takeSls_ok heq hS.T eT hM
 obtain ⟨rfl, hnC, c1, c2⟩ := junks_ok N eJ
 have hG := hM.fits
 refine ⟨K, fun j a' w' => ∃ k, k + j = K ∧ a'.tmps.size = N ∧ AtV (Ss k) w' cs (valsOf tms a') ∧ (owns cs (valsOf tms a')).Nodup ∧ (∀ b ∈ owns cs (valsOf tms a'), b ∈ owns pre (valsOf tms a) ∨ w.heap.size ≤ b) ∧ Frm (owns pre (valsOf tms a)) w w' ∧ MarksV S B0 a'.defers w' ∧ InRound ro w' ∧ DfOK ⟨a.defers, w.heap.size⟩ a'.defers w',
  ⟨0, by omega, hS.size, h0 w _ t1, by rw [k1 _ _ t1]; exact t2, fun b hb => .inl (by rw [← k1 _ _ t1]; exact hb), .refl _ _, hS.marks.drop, hS.round, ⟨Nat.le_refl _, [], rfl, fun _ h => by simp at h⟩⟩, ?_, ?_⟩
 ·rintro j a' w' ⟨k, hk, q1, q2, q3, q4, q5, q6, q7, q8⟩
  have hkK : k < K := by omega
  obtain ⟨l1, l2, l4⟩ := hl k
  have hb : S.base w' := S.baseS w w' hM.base fun b o hbG ho => q5.keep b o ho fun q => by
   have := (owns_cells t1 q).1; omega
  have hAt : AtL (Ss k) N tms cs B0 ⟨a.defers, w.heap.size⟩ ro a' w' := ⟨q1, q2, q3, q6.sig l1, q7, q8, by rw [l1]; exact Nat.le_trans hG q5.size, by rw [l4]; exact hb, by rw [l2]; exact Nat.le_trans hM.sz q5.size⟩
  refine wpIn_mono (hr k hkK hAt) fun ex a2 w2 hp => ?_
  cases ex with
  | normal =>
   have R : RPost (Ss k) N tms cs cs' B0 ⟨a.defers, w.heap.size⟩ ro a' w' a2 w2 := hp
   refine ⟨k + 1, by omega, R.size, hs k hkK _ _ R.at_, by rw [← owns_kind k2]; exact R.nd, fun b hb => ?_, ⟨fun b o hb hn => R.frm.keep b o (q5.keep b o hb hn) fun q => ?_, Nat.le_trans q5.size R.frm.size, R.frm.os.trans q5.os, R.frm.tape.trans q5.tape, R.frm.output.trans q5.output, q5.loops.trans R.frm.loops⟩, R.marks.sig l1.symm, R.round, R.dfs⟩
   ·rw [← owns_kind k2] at hb
    rcases R.new b hb with q | q
    ·exact q4 b q
    ·exact .inr (Nat.le_trans q5.size q)
   ·rcases q4 b q with q | q
    ·exact hn q
    ·have := (Array.getElem?_eq_some_iff.1 hb).1; omega
  | _ => exact hp
 ·rintro a' w' ⟨k, hk, q1, q2, q3, q4, q5, q6, q7, q8⟩
  obtain rfl : k = K := by omega
  have hpost := hK w' _ q2
  have ho : owns post (valsOf tms a') = owns cs (valsOf tms a') := owns_kind k3
  have hM1 : Mod S r hA.get w' := (mod_frame hM t4 t5 (fun b hb => owns_cells t1 hb) q5).congr fun n => .inr (t3 n)
  obtain ⟨rfl, j1, r2, j2, j3, j4, j5, j6, j7⟩ := newSls_ok post eP hpp hM1 hN (by omega) hpost (by rw [ho]; exact q3) fun b hb k hk => by
   rw [ho] at hb
   rcases q4 b hb with q | q
   ·obtain ⟨i, g1, g2⟩ := t5 b q
    obtain ⟨y, g3⟩ := t4 i g1
    rcases hM.inj k i b hk g2 with q | q | q
    ·subst q
     have e0 : hA.get k = some .opq := by rw [t3, if_pos g1]
     exact ⟨fun c t => by simp [e0], fun c t q => by simp [e0] at q, ⟨fun s => by simp [e0], fun f => by simp [e0]⟩⟩
    ·by_cases e0 : k ∈ W1
     ·have e1 : hA.get k = some .opq := by rw [t3, if_pos e0]
      exact ⟨fun c t => by simp [e1], fun c t q => by simp [e1] at q, ⟨fun s => by simp [e1], fun f => by simp [e1]⟩⟩
     ·have e1 : hA.get k = h.get k := by rw [t3, if_neg e0]
      exact ⟨fun c t => by rw [e1]; exact q.1 c t, fun c t => by rw [e1]; exact q.2.1 c t, ⟨fun s => by rw [e1]; exact q.2.2.1 s, fun f => by rw [e1]; exact q.2.2.2 f⟩⟩
    ·exact absurd g3 (q.2.2.2 y)
   ·have := hM.lt k b hk; omega
  have hle3 : r2.le ⟨r2.blk, fun n => if nxB ≤ n ∧ n < nxB + N then some (a'.eval (.tmp (nxB + N - 1 - n))) else r2.val n, r2.len⟩ := by
   refine ⟨fun _ _ q => q, fun n v q => ?_, fun _ _ _ => rfl⟩
   by_cases e0 : nxB ≤ n ∧ n < nxB + N
   ·rw [(j7 n e0.1 (by omega)).2] at q; cases q
   ·simp only [if_neg e0]; exact q
  have hM3 : Mod S ⟨r2.blk, fun n => if nxB ≤ n ∧ n < nxB + N then some (a'.eval (.tmp (nxB + N - 1 - n))) else r2.val n, r2.len⟩ h1.get w' := mod_more j3 hle3 rfl fun n => by
   rw [c1]
   by_cases e0 : nxB ≤ n ∧ n < nxB + N
   ·rw [if_pos e0]; exact .inl rfl
   ·rw [if_neg e0]; exact .inr rfl
  have hX : Ext S r w nxA nx1 (W1 ++ ([] ++ ([] ++ []))) h1.get ⟨r2.blk, fun n => if nxB ≤ n ∧ n < nxB + N then some (a'.eval (.tmp (nxB + N - 1 - n))) else r2.val n, r2.len⟩ w' := by
   refine ⟨j2.trans hle3, hM3, fun n q => ?_, fun n b q => ?_, fun b o hb hw => q5.keep b o hb fun q => ?_, q5.size, q5.os, q5.tape, q5.output, q5.loops⟩
   ·by_cases e0 : nxB ≤ n ∧ n < nxB + N
    ·exact .inr ⟨by omega, by omega⟩
    ·simp only [if_neg e0] at q
     rcases j6 n q with q | ⟨g1, g2⟩
     ·exact .inl q
     ·exact .inr ⟨g1, by omega⟩
   ·rcases j5 n b q with q | ⟨_, _, q⟩
    ·exact .inl q
    ·rw [ho] at q
     rcases q4 b q with q | q
     ·obtain ⟨i, g1, g2⟩ := t5 b q
      exact .inr (.inr ⟨i, List.mem_append_left _ g1, g2⟩)
     ·exact .inr (.inl q)
   ·obtain ⟨i, g1, g2⟩ := t5 b q
    exact hw i (List.mem_append_left _ g1) g2
  refine ⟨_, ⟨tr_sets tms (fun (t : Nat) => ?_) (j4.mono hle3), q1, q6.name fun e he D hD hd hGD k hk => ?_, q7, hS.ys.mono hX.going, ?_⟩, hX⟩
  ·show VR _ ((js.get t).getD undef) (a'.tmps.getD t undef)
   have := c2 t
   rw [this]
   by_cases e0 : t < N
   ·rw [if_pos e0]
    refine .any ?_
    show (if nxB ≤ nxB + (N - 1 - t) ∧ nxB + (N - 1 - t) < nxB + N then some (a'.eval (.tmp (nxB + N - 1 - (nxB + (N - 1 - t))))) else _) = _
    rw [if_pos ⟨by omega, by omega⟩, show nxB + N - 1 - (nxB + (N - 1 - t)) = t by omega]
    rfl
   ·rw [if_neg e0, Array.getD_eq_getD_getElem?, Array.getElem?_eq_none (by omega), Tr.get_nil]
    exact vr_undef
  ·rcases j5 k D hk with q | ⟨_, _, q⟩
   ·obtain ⟨_, p, g1, g2⟩ := q8
    rw [g1] at he
    rcases List.mem_append.1 he with he | he
    ·obtain ⟨D', g3, g4⟩ := g2 e he
     rw [hD] at g3
     injection g3 with g3
     subst g3
     have := hM.lt k D q
     have g5 : w.heap.size ≤ D := g4
     omega
    ·exact hS.marks.nameless e he D hD k q
   ·obtain ⟨_, c, t, z, g, _⟩ := owns_cells hpost q
    rw [hd] at g; cases g
  ·obtain ⟨g1, p0, g2, g3⟩ := hS.dfs
   obtain ⟨_, p, g4, g5⟩ := q8
   refine ⟨Nat.le_trans g1 q5.size, p ++ p0, by rw [g4, g2, List.append_assoc], fun e he => ?_⟩
   rcases List.mem_append.1 he with he | he
   ·obtain ⟨D, g6, g7⟩ := g5 e he
    exact ⟨D, g6, Nat.le_trans g1 g7⟩
   ·exact g3 e he
theorem jmp_ok (heq : ∀ x y, eqF x y = true → x = y) {N : Nat} {x : Code} {tms : List Nat} {pre cs cs' post : List (Sl F)} (K : Nat) (Ss : Nat → Sig F)
  (hl : ∀ k, (Ss k).G = S.G ∧ (Ss k).lo = S.lo ∧ (Ss k).base = S.base) (k1 : pre.map isOw = cs.map isOw) (k2 : cs'.map isOw = cs.map isOw) (k3 : post.map isOw = cs.map isOw) (hpp : plainSls post = true)
  (h0 : ∀ w vs, AtV S w pre vs → AtV (Ss 0) w cs vs) (hs : ∀ k, k < K → ∀ w vs, AtV (Ss k) w cs' vs → AtV (Ss (k + 1)) w cs vs) (hK : ∀ w vs, AtV (Ss K) w cs vs → AtV S w post vs)
  (hr : ∀ k, k < K → ∀ {ro : Option Nat} {d B0 : Nat} {D0 : Df} {a : Act} {w : World}, AtL (Ss k) N tms cs B0 D0 ro a w → x.wpIn (RF ro) d P (Exit.then (RPost (Ss k) N tms cs cs' B0 D0 ro a w) (fun _ _ _ => False)) a w) :
  JmpOK S P N x (jumpM eqF N tms pre post) :=
 @jmp_ok' F S P eqF heq N x tms pre cs cs' post K Ss hl (fun _ _ _ => (owns_kind k1).symm) k2 k3 hpp h0 hs hK hr
end
end Ev
end Go.Proofs.Ytnlhjcfpfapafaa
