/- Contracts. -/
import Derived.Test.YtnlhjcfpfapafaaESq23
namespace Go.Proofs.Ytnlhjcfpfapafaa
open Go Go.RowKit
namespace Ev
section
variable {F : Type} {S : Sig F} {P : Program} {C : Cfg F} {eqF : F → F → Bool}
def isOw : Sl F → Bool
 | .ow _ => true
 | _ => false
theorem owns_kind : ∀ {ds es : List (Sl F)} {vs : List Value}, ds.map isOw = es.map isOw → owns ds vs = owns es vs
 | [], [], _, _ => rfl
 | [], _ :: _, _, h => by simp at h
 | _ :: _, [], _, h => by simp at h
 | _ :: _, _ :: _, [], _ => rfl
 | d :: ds, e :: es, v :: vs, h => by
  simp only [List.map_cons, List.cons.injEq] at h
  simp only [owns]
  rw [owns_kind h.2]
  congr 1
  cases d <;> cases e <;> first | rfl | (simp [isOw] at h; done)
theorem Frm.refl (O : List Nat) (w : World) : Frm O w w := ⟨fun _ _ h _ => h, Nat.le_refl _, rfl, rfl, rfl, .refl w⟩
theorem Marks.nameless {B0 : Nat} : ∀ {ds : List Deferred} {r : Ren} {w : World}, Marks S B0 ds r w → ∀ e ∈ ds, ∀ D, e.target = .collected D → ∀ k, r.blk k ≠ some D
 | [], _, _, _, e, he => by simp at he
 | d :: ds, r, w, ⟨h, D0, h1, h2, h3, h4⟩, e, he => fun D ht k => by
  rcases List.mem_cons.1 he with rfl | he
  ·rw [h1] at ht
   injection ht with ht
   subst ht
   exact h3 k
  ·exact Marks.nameless h e he D ht k
theorem junks_ok : ∀ (N : Nat) {ts ts' : Tr Value} {h h' : Tr (Blk F)} {nx nx' : Nat} {R W : List Nat}, (junks N ts : M F (Tr Value)) h nx = .ok ts' h' nx' R W →
  W = [] ∧ nx' = nx + N ∧ (∀ k, h'.get k = if nx ≤ k ∧ k < nx + N then some .opq else h.get k) ∧ ∀ t, ts'.get t = if t < N then some (.map (some (nx + (N - 1 - t)))) else ts.get t
 | 0, ts, ts', h, h', nx, nx', R, W, e => by
  obtain ⟨rfl, rfl, rfl, rfl⟩ := ret_ok (show (ret ts : M F (Tr Value)) h nx = _ from e)
  exact ⟨rfl, rfl, fun k => by rw [if_neg (by omega)], fun t => by rw [if_neg (by omega)]⟩
 | N + 1, ts, ts', h, h', nx, nx', R, W, e => by
  obtain ⟨m, h1, nx1, R1, W1, R2, W2, e1, e2, rfl, rfl⟩ := bind_ok (show bind (fresh .opq) (fun m => junks N (ts.set N (.map (some m)))) h nx = _ from e)
  unfold fresh at e1
  cases e1
  obtain ⟨rfl, h2, h3, h4⟩ := junks_ok N e2
  have hs : Nat.succ nx = nx + 1 := rfl
  rw [hs] at h2 h3 h4
  refine ⟨rfl, by omega, fun k => ?_, fun t => ?_⟩
  ·rw [h3, Tr.get_set]
   by_cases e0 : k = nx
   ·rw [if_neg (by omega), if_pos e0, if_pos (by omega)]
   ·rw [if_neg e0]
    by_cases e1 : nx + 1 ≤ k ∧ k < nx + 1 + N
    ·rw [if_pos e1, if_pos (by omega)]
    ·rw [if_neg e1, if_neg (by omega)]
  ·rw [h4, Tr.get_set]
   by_cases e0 : t < N
   ·rw [if_pos e0, if_pos (by omega), show nx + 1 + (N - 1 - t) = nx + (N + 1 - 1 - t) by omega]
   ·rw [if_neg e0]
    by_cases e1 : t = N
    ·rw [if_pos e1, if_pos (by omega), show N + 1 - 1 - t = 0 by omega]; rfl
    ·rw [if_neg e1, if_neg (by omega)]
theorem mod_more {r r' : Ren} {g g' : Nat → Option (Blk F)} {w : World} (hM : Mod S r g w) (hle : r.le r') (hb : r'.blk = r.blk) (hg : ∀ n, g' n = some .opq ∨ g' n = g n) : Mod S r' g' w := by
 have hgo : ∀ k, Gone g k → Gone g' k := fun k q => by
  rcases hg k with e | e
  ·exact ⟨fun c t => by simp [e], fun c t q => by simp [e] at q, ⟨fun s => by simp [e], fun f => by simp [e]⟩⟩
  ·exact ⟨fun c t => by rw [e]; exact q.1 c t, fun c t => by rw [e]; exact q.2.1 c t, ⟨fun s => by rw [e]; exact q.2.2.1 s, fun f => by rw [e]; exact q.2.2.2 f⟩⟩
 refine ⟨fun n m b h1 h2 => ?_, fun n b h1 => ?_, fun n c t h1 => ?_, fun n f h1 => ?_, hM.base, fun n hn => by rw [hb]; exact hM.glob n hn, fun n b h1 => ?_, fun n c t h1 => ?_, hM.sz, hM.lp.mono hle (fun n s h1 => ?_) (fun _ _ q => q), hM.ow.all hle (fun n f h1 => ?_) (fun _ _ q => q), hM.ad.mono hle fun n m y h1 => ?_⟩
 ·rw [hb] at h1 h2
  exact (hM.inj n m b h1 h2).imp id (Or.imp (hgo n) (hgo m))
 ·rw [hb] at h1; exact hM.lt n b h1
 ·rcases hg n with e | e <;> rw [e] at h1
  ·cases h1
  ·obtain ⟨b, c', q1, q2, q3, q4⟩ := hM.cells n c t h1
   exact ⟨b, c', hle.blk _ _ q1, q2, q3.mono hle, q4⟩
 ·rcases hg n with e | e <;> rw [e] at h1
  ·cases h1
  ·obtain ⟨v, q1, q2, q3⟩ := hM.fact n f h1
   exact ⟨v, hle.val _ _ q1, q2, q3⟩
 ·rw [hb] at h1; exact hM.own n b h1
 ·rcases hg n with e | e <;> rw [e] at h1
  ·cases h1
  ·obtain ⟨b, c', q1, q2, q3, q4, q5⟩ := hM.room n c t h1
   exact ⟨b, c', hle.blk _ _ q1, q2, q3.mono hle, q4, by rw [hle.len _ _ q1]; exact q5⟩
 ·rcases hg n with e | e <;> rw [e] at h1
  ·cases h1
  ·exact h1
 ·rcases hg n with e | e <;> rw [e] at h1
  ·cases h1
  ·exact h1
 ·rcases hg n with e | e <;> rw [e] at h1
  ·cases h1
  ·exact h1
set_option maxHeartbeats 1000000 in
theorem jmp_ok' (heq : ∀ x y, eqF x y = true → x = y) {N : Nat} {x : Code} {tms : List Nat} {pre cs cs' post : List (Sl F)} (K : Nat) (Ss : Nat → Sig F)
  (hl : ∀ k, (Ss k).G = S.G ∧ (Ss k).lo = S.lo ∧ (Ss k).base = S.base) (k1 : ∀ w vs, AtV S w pre vs → owns cs vs = owns pre vs) (k2 : cs'.map isOw = cs.map isOw) (k3 : post.map isOw = cs.map isOw) (hpp : plainSls post = true)
  (h0 : ∀ w vs, AtV S w pre vs → AtV (Ss 0) w cs vs) (hs : ∀ k, k < K → ∀ w vs, AtV (Ss k) w cs' vs → AtV (Ss (k + 1)) w cs vs) (hK : ∀ w vs, AtV (Ss K) w cs vs → AtV S w post vs)
  (hr : ∀ k, k < K → ∀ {ro : Option Nat} {d B0 : Nat} {D0 : Df} {a : Act} {w : World}, AtL (Ss k) N tms cs B0 D0 ro a w → x.wpIn (RF ro) d P (Exit.then (RPost (Ss k) N tms cs cs' B0 D0 ro a w) (fun _ _ _ => False)) a w) :
  JmpOK S P N x (jumpM eqF N tms pre post) := by
 intro ys ts ts1 h h1 nx nx1 R W e r w a ro d B0 D0 hM hN hS
 obtain ⟨_, hA, nxA, R1, W1, R2, W2, eT, e2, rfl, rfl⟩ := bind_ok e.ok
 obtain ⟨us, hB, nxB, R3, W3, R4, W4, eP, e4, rfl, rfl⟩ := bind_ok e2
 obtain ⟨js, hC, nxC, R5, W5, R6, W6, eJ, e6, rfl, rfl⟩ := bind_ok e4
 obtain ⟨rfl, rfl, rfl, rfl⟩ := ret_ok e6
 obtain ⟨rfl, t1, t2, t3, t4, t5⟩ := takeSls_ok heq hS.T eT hM
 obtain ⟨rfl, hnC, c1, c2⟩ := junks_ok N eJ
 have hG := hM.fits
 refine ⟨K, fun j a' w' => ∃ k, k + j = K ∧ a'.tmps.size = N ∧ AtV (Ss k) w' cs (valsOf tms a') ∧ (owns cs (valsOf tms a')).Nodup ∧ (∀ b ∈ owns cs (valsOf tms a'), b ∈ owns pre (valsOf tms a) ∨ w.heap.size ≤ b) ∧ Frm (owns pre (valsOf tms a)) w w' ∧ MarksV S B0 a'.defers w' ∧ InRound ro w' ∧ DfOK ⟨a.defers, w.heap.size⟩ a'.defers w',
  ⟨0, by omega, hS.size, h0 w _ t1, by rw [k1 _ _ t1]; exact t2, fun b hb => .inl (by rw [← k1 _ _ t1]; exact hb), .refl _ _, hS.marks.drop, hS.round, ⟨Nat.le_refl _, [], rfl, fun _ h => by simp at h⟩⟩, ?_, ?_⟩
 ·rintro j a' w' ⟨k, hk, q1, q2, q3, q4, q5, q6, q7, q8⟩
  have hkK : k < K := by omega
  obtain ⟨l1, l2, l4⟩ := hl k
  have hb : S.base w' := S.baseS w w' hM.base fun b o hbG ho => q5.keep b o ho fun q => by
   have := (owns_cells t1 q).1; omega
  have hAt : AtL (Ss k) N tms cs B0 ⟨a.defers, w.heap.size⟩ ro a' w' := ⟨q1, q2, q3, q6.sig l1, q7, q8, by rw [l1]; exact Nat.le_trans hG q5.size, by rw [l4]; exact hb, by rw [l2]; exact Nat.le_trans hM.sz q5.size⟩
  refine wpIn_mono (hr k hkK hAt) fun ex a2 w2 hp => ?_
  cases ex with
  | normal =>
   have R : RPost (Ss k) N tms cs cs' B0 ⟨a.defers, w.heap.size⟩ ro a' w' a2 w2 := hp
   refine ⟨k + 1, by omega, R.size, hs k hkK _ _ R.at_, by rw [← owns_kind k2]; exact R.nd, fun b hb => ?_, ⟨fun b o hb hn => R.frm.keep b o (q5.keep b o hb hn) fun q => ?_, Nat.le_trans q5.size R.frm.size, R.frm.os.trans q5.os, R.frm.tape.trans q5.tape, R.frm.output.trans q5.output, q5.loops.trans R.frm.loops⟩, R.marks.sig l1.symm, R.round, R.dfs⟩
   ·rw [← owns_kind k2] at hb
    rcases R.new b hb with q | q
    ·exact q4 b q
    ·exact .inr (Nat.le_trans q5.size q)
   ·rcases q4 b q with q | q
    ·exact hn q
    ·have := (Array.getElem?_eq_some_iff.1 hb).1; omega
  | _ => exact hp
 ·rintro a' w' ⟨k, hk, q1, q2, q3, q4, q5, q6, q7, q8⟩
  obtain rfl : k = K := by omega
  have hpost := hK w' _ q2
  have ho : owns post (valsOf tms a') = owns cs (valsOf tms a') := owns_kind k3
  have hM1 : Mod S r hA.get w' := (mod_frame hM t4 t5 (fun b hb => owns_cells t1 hb) q5).congr fun n => .inr (t3 n)
  obtain ⟨rfl, j1, r2, j2, j3, j4, j5, j6, j7⟩ := newSls_ok post eP hpp hM1 hN (by omega) hpost (by rw [ho]; exact q3) fun b hb k hk => by
   rw [ho] at hb
   rcases q4 b hb with q | q
   ·obtain ⟨i, g1, g2⟩ := t5 b q
    obtain ⟨y, g3⟩ := t4 i g1
    rcases hM.inj k i b hk g2 with q | q | q
    ·subst q
     have e0 : hA.get k = some .opq := by rw [t3, if_pos g1]
     exact ⟨fun c t => by simp [e0], fun c t q => by simp [e0] at q, ⟨fun s => by simp [e0], fun f => by simp [e0]⟩⟩
    ·by_cases e0 : k ∈ W1
     ·have e1 : hA.get k = some .opq := by rw [t3, if_pos e0]
      exact ⟨fun c t => by simp [e1], fun c t q => by simp [e1] at q, ⟨fun s => by simp [e1], fun f => by simp [e1]⟩⟩
     ·have e1 : hA.get k = h.get k := by rw [t3, if_neg e0]
      exact ⟨fun c t => by rw [e1]; exact q.1 c t, fun c t => by rw [e1]; exact q.2.1 c t, ⟨fun s => by rw [e1]; exact q.2.2.1 s, fun f => by rw [e1]; exact q.2.2.2 f⟩⟩
    ·exact absurd g3 (q.2.2.2 y)
   ·have := hM.lt k b hk; omega
  have hle3 : r2.le ⟨r2.blk, fun n => if nxB ≤ n ∧ n < nxB + N then some (a'.eval (.tmp (nxB + N - 1 - n))) else r2.val n, r2.len⟩ := by
   refine ⟨fun _ _ q => q, fun n v q => ?_, fun _ _ _ => rfl⟩
   by_cases e0 : nxB ≤ n ∧ n < nxB + N
   ·rw [(j7 n e0.1 (by omega)).2] at q; cases q
   ·simp only [if_neg e0]; exact q
  have hM3 : Mod S ⟨r2.blk, fun n => if nxB ≤ n ∧ n < nxB + N then some (a'.eval (.tmp (nxB + N - 1 - n))) else r2.val n, r2.len⟩ h1.get w' := mod_more j3 hle3 rfl fun n => by
   rw [c1]
   by_cases e0 : nxB ≤ n ∧ n < nxB + N
   ·rw [if_pos e0]; exact .inl rfl
   ·rw [if_neg e0]; exact .inr rfl
  have hX : Ext S r w nxA nx1 (W1 ++ ([] ++ ([] ++ []))) h1.get ⟨r2.blk, fun n => if nxB ≤ n ∧ n < nxB + N then some (a'.eval (.tmp (nxB + N - 1 - n))) else r2.val n, r2.len⟩ w' := by
   refine ⟨j2.trans hle3, hM3, fun n q => ?_, fun n b q => ?_, fun b o hb hw => q5.keep b o hb fun q => ?_, q5.size, q5.os, q5.tape, q5.output, q5.loops⟩
   ·by_cases e0 : nxB ≤ n ∧ n < nxB + N
    ·exact .inr ⟨by omega, by omega⟩
    ·simp only [if_neg e0] at q
     rcases j6 n q with q | ⟨g1, g2⟩
     ·exact .inl q
     ·exact .inr ⟨g1, by omega⟩
   ·rcases j5 n b q with q | ⟨_, _, q⟩
    ·exact .inl q
    ·rw [ho] at q
     rcases q4 b q with q | q
     ·obtain ⟨i, g1, g2⟩ := t5 b q
      exact .inr (.inr ⟨i, List.mem_append_left _ g1, g2⟩)
     ·exact .inr (.inl q)
   ·obtain ⟨i, g1, g2⟩ := t5 b q
    exact hw i (List.mem_append_left _ g1) g2
  refine ⟨_, ⟨tr_sets tms (fun (t : Nat) => ?_) (j4.mono hle3), q1, q6.name fun e he D hD hd hGD k hk => ?_, q7, hS.ys.mono hX.going, ?_⟩, hX⟩
  ·show VR _ ((js.get t).getD undef) (a'.tmps.getD t undef)
   have := c2 t
   rw [this]
   by_cases e0 : t < N
   ·rw [if_pos e0]
    refine .any ?_
    show (if nxB ≤ nxB + (N - 1 - t) ∧ nxB + (N - 1 - t) < nxB + N then some (a'.eval (.tmp (nxB + N - 1 - (nxB + (N - 1 - t))))) else _) = _
    rw [if_pos ⟨by omega, by omega⟩, show nxB + N - 1 - (nxB + (N - 1 - t)) = t by omega]
    rfl
   ·rw [if_neg e0, Array.getD_eq_getD_getElem?, Array.getElem?_eq_none (by omega), Tr.get_nil]
    exact vr_undef
  ·rcases j5 k D hk with q | ⟨_, _, q⟩
   ·obtain ⟨_, p, g1, g2⟩ := q8
    rw [g1] at he
    rcases List.mem_append.1 he with he | he
    ·obtain ⟨D', g3, g4⟩ := g2 e he
     rw [hD] at g3
     injection g3 with g3
     subst g3
     have := hM.lt k D q
     have g5 : w.heap.size ≤ D := g4
     omega
    ·exact hS.marks.nameless e he D hD k q
   ·obtain ⟨_, c, t, z, g, _⟩ := owns_cells hpost q
    rw [hd] at g; cases g
  ·obtain ⟨g1, p0, g2, g3⟩ := hS.dfs
   obtain ⟨_, p, g4, g5⟩ := q8
   refine ⟨Nat.le_trans g1 q5.size, p ++ p0, by rw [g4, g2, List.append_assoc], fun e he => ?_⟩
   rcases List.mem_append.1 he with he | he
   ·obtain ⟨D, g6, g7⟩ := g5 e he
    exact ⟨D, g6, Nat.le_trans g1 g7⟩
   ·exact g3 e he
theorem jmp_ok (heq : ∀ x y, eqF x y = true → x = y) {N : Nat} {x : Code} {tms : List Nat} {pre cs cs' post : List (Sl F)} (K : Nat) (Ss : Nat → Sig F)
  (hl : ∀ k, (Ss k).G = S.G ∧ (Ss k).lo = S.lo ∧ (Ss k).base = S.base) (k1 : pre.map isOw = cs.map isOw) (k2 : cs'.map isOw = cs.map isOw) (k3 : post.map isOw = cs.map isOw) (hpp : plainSls post = true)
  (h0 : ∀ w vs, AtV S w pre vs → AtV (Ss 0) w cs vs) (hs : ∀ k, k < K → ∀ w vs, AtV (Ss k) w cs' vs → AtV (Ss (k + 1)) w cs vs) (hK : ∀ w vs, AtV (Ss K) w cs vs → AtV S w post vs)
  (hr : ∀ k, k < K → ∀ {ro : Option Nat} {d B0 : Nat} {D0 : Df} {a : Act} {w : World}, AtL (Ss k) N tms cs B0 D0 ro a w → x.wpIn (RF ro) d P (Exit.then (RPost (Ss k) N tms cs cs' B0 D0 ro a w) (fun _ _ _ => False)) a w) :
  JmpOK S P N x (jumpM eqF N tms pre post) :=
 @jmp_ok' F S P eqF heq N x tms pre cs cs' post K Ss hl (fun _ _ _ => (owns_kind k1).symm) k2 k3 hpp h0 hs hK hr
end
set_option maxRecDepth 100000
inductive Ix where
 | lt (a : Nat) (s : Int) (b : Nat) (t : Int) (r : Bool)
 | ln (c a : Nat)
 | el (c a : Nat) (s : Int) (e : Qe)
 | bd (a : Nat)
 | df (a : Nat) (s : Int) (b : Nat) (t : Int) (c : Nat)
 | rm (e : Qe) (z : Int)
 | bi (k a : Nat) (s : Int) (b : Nat) (t : Int) (c : Nat) (z : Int)
 | tl (c d : Nat)
 | hd (c a : Nat) (s : Int) (d : Nat)
 | lc (c n : Nat)
def atIx (ρ : Env) (a : Nat) (s : Int) : Int := ρ.nat a + s
def biF (k : Nat) (x y : Int) : Int := match k with
 | 0 => x + y
 | 1 => x - y
 | 2 => if y < x then y else x
 | _ => if y > x then y else x
def Ix.holds (ρ : Env) : Ix → Prop
 | .lc c n => (ρ.lst c).length = n
 | .hd c a s d => 0 ≤ atIx ρ a s ∧ atIx ρ a s ≤ ((ρ.lst c).length : Int) ∧ ρ.lst d = (ρ.lst c).take (atIx ρ a s).toNat
 | .tl c d => ρ.lst c ≠ [] ∧ ρ.lst d = (ρ.lst c).tail
 | .bi k a s b t c z => biF k (atIx ρ a s) (atIx ρ b t) = atIx ρ c z ∧ ρ.nat c ≤ 10000
 | .lt a s b t r => r = true ↔ atIx ρ a s < atIx ρ b t
 | .ln c a => (ρ.lst c).length = ρ.nat a
 | .el c a s e => ∃ i : Nat, (i : Int) = atIx ρ a s ∧ (ρ.lst c)[i]? = some (e.ev ρ.q)
 | .bd a => ρ.nat a ≤ 10000
 | .rm e z => (e.ev ρ.q).num.tmod 20 = z
 | .df a s b t c => atIx ρ a s - atIx ρ b t = ρ.nat c ∧ ρ.nat c ≤ 10000
def AllX (ρ : Env) (B : List Ix) : Prop := ∀ x ∈ B, x.holds ρ
noncomputable def eqI (s t : Int) : Bool := decide (s = t)
theorem eqI_ok {s t : Int} (h : eqI s t = true) : s = t := of_decide_eq_true h
noncomputable def ltB (B : List Ix) (a : Nat) (s : Int) (b : Nat) (t : Int) : Option Bool := cond (Nat.beq a b) (some (decide (s < t)))
 (List.rec (motive := fun _ => Option Bool) none (fun x _ ih => match x with
  | .lt a' s' b' t' r => cond (Nat.beq a a' && (eqI s s' && (Nat.beq b b' && eqI t t'))) (some r) ih
  | _ => ih) B)
noncomputable def lnB (B : List Ix) (c : Nat) : Option Nat := List.rec (motive := fun _ => Option Nat) none (fun x _ ih => match x with
  | .ln c' a => cond (Nat.beq c c') (some a) ih
  | _ => ih) B
noncomputable def lcB (B : List Ix) (c : Nat) : Option Nat := List.rec (motive := fun _ => Option Nat) none (fun x _ ih => match x with
  | .lc c' n => cond (Nat.beq c c') (some n) ih
  | _ => ih) B
noncomputable def lnP (B : List Ix) (c : Nat) : Option (Nat × Int) := match lnB B c with
 | some n => some (n, 0)
 | none => match lcB B c with
  | some n => some (0, (n : Int))
  | none => none
noncomputable def elB (B : List Ix) (c a : Nat) (s : Int) : Option Qe := List.rec (motive := fun _ => Option Qe) none (fun x _ ih => match x with
  | .el c' a' s' e => cond (Nat.beq c c' && (Nat.beq a a' && eqI s s')) (some e) ih
  | _ => ih) B
noncomputable def rmB (B : List Ix) (e : Qe) : Option Int := List.rec (motive := fun _ => Option Int) none (fun x _ ih => match x with
  | .rm f z => cond (e.beq f) (some z) ih
  | _ => ih) B
theorem rmB_ok {ρ : Env} {e : Qe} {z : Int} : ∀ {B : List Ix}, AllX ρ B → rmB B e = some z → (e.ev ρ.q).num.tmod 20 = z
 | [], _, h => by cases h
 | x :: B, hB, h => by
  have tl : AllX ρ B := fun y hy => hB y (List.mem_cons_of_mem _ hy)
  cases x with
  | rm f z' =>
   have h' : cond (e.beq f) (some z') (rmB B e) = some z := h
   cases hc : e.beq f with
   | true =>
    rw [hc] at h'
    cases h'
    rw [Qe.beq_ok _ _ hc]
    exact hB _ List.mem_cons_self
   | false => rw [hc] at h'; exact rmB_ok tl h'
  | _ => exact rmB_ok tl h
noncomputable def dfB (B : List Ix) (a : Nat) (s : Int) (b : Nat) (t : Int) : Option Nat := List.rec (motive := fun _ => Option Nat) none (fun x _ ih => match x with
  | .df a' s' b' t' c => cond (Nat.beq a a' && (eqI s s' && (Nat.beq b b' && eqI t t'))) (some c) ih
  | _ => ih) B
noncomputable def hdB (B : List Ix) (c a : Nat) (s : Int) : Option Nat := List.rec (motive := fun _ => Option Nat) none (fun x _ ih => match x with
  | .hd c' a' s' d => cond (Nat.beq c c' && (Nat.beq a a' && eqI s s')) (some d) ih
  | _ => ih) B
theorem hdB_ok {ρ : Env} {c a d : Nat} {s : Int} : ∀ {B : List Ix}, AllX ρ B → hdB B c a s = some d → 0 ≤ atIx ρ a s ∧ atIx ρ a s ≤ ((ρ.lst c).length : Int) ∧ ρ.lst d = (ρ.lst c).take (atIx ρ a s).toNat
 | [], _, h => by cases h
 | x :: B, hB, h => by
  have tl : AllX ρ B := fun y hy => hB y (List.mem_cons_of_mem _ hy)
  cases x with
  | hd c' a' s' d' =>
   have h' : cond (Nat.beq c c' && (Nat.beq a a' && eqI s s')) (some d') (hdB B c a s) = some d := h
   cases hc : (Nat.beq c c' && (Nat.beq a a' && eqI s s')) with
   | true =>
    rw [hc] at h'
    cases h'
    simp only [Bool.and_eq_true] at hc
    rw [Nat.eq_of_beq_eq_true hc.1, Nat.eq_of_beq_eq_true hc.2.1, eqI_ok hc.2.2]
    exact hB _ List.mem_cons_self
   | false => rw [hc] at h'; exact hdB_ok tl h'
  | _ => exact hdB_ok tl h
noncomputable def tlB (B : List Ix) (c : Nat) : Option Nat := List.rec (motive := fun _ => Option Nat) none (fun x _ ih => match x with
  | .tl c' d => cond (Nat.beq c c') (some d) ih
  | _ => ih) B
theorem tlB_ok {ρ : Env} {c d : Nat} : ∀ {B : List Ix}, AllX ρ B → tlB B c = some d → ρ.lst c ≠ [] ∧ ρ.lst d = (ρ.lst c).tail
 | [], _, h => by cases h
 | x :: B, hB, h => by
  have tl : AllX ρ B := fun y hy => hB y (List.mem_cons_of_mem _ hy)
  cases x with
  | tl c' d' =>
   have h' : cond (Nat.beq c c') (some d') (tlB B c) = some d := h
   cases hc : Nat.beq c c' with
   | true =>
    rw [hc] at h'
    cases h'
    rw [Nat.eq_of_beq_eq_true hc]
    exact hB _ List.mem_cons_self
   | false => rw [hc] at h'; exact tlB_ok tl h'
  | _ => exact tlB_ok tl h
noncomputable def biB (B : List Ix) (k a : Nat) (s : Int) (b : Nat) (t : Int) : Option (Nat × Int) := List.rec (motive := fun _ => Option (Nat × Int)) none (fun x _ ih => match x with
  | .bi k' a' s' b' t' c z => cond (Nat.beq k k' && (Nat.beq a a' && (eqI s s' && (Nat.beq b b' && eqI t t')))) (some (c, z)) ih
  | _ => ih) B
noncomputable def bdB (B : List Ix) (a : Nat) : Bool := List.rec (motive := fun _ => Bool) (Nat.beq a 0) (fun x _ ih => match x with
  | .bd a' => Nat.beq a a' || ih
  | _ => ih) B
section
variable {ρ : Env} {A : List As} {B : List Ix}
theorem AllX.tail {x : Ix} (h : AllX ρ (x :: B)) : AllX ρ B := fun y hy => h y (List.mem_cons_of_mem _ hy)
theorem ltS_ok {a b : Nat} {s t : Int} {r : Bool} : ∀ {B : List Ix}, AllX ρ B → (List.rec (motive := fun _ => Option Bool) none (fun x _ ih => match x with
  | .lt a' s' b' t' r => cond (Nat.beq a a' && (eqI s s' && (Nat.beq b b' && eqI t t'))) (some r) ih
  | _ => ih) B : Option Bool) = some r → (r = true ↔ atIx ρ a s < atIx ρ b t)
 | [], _, h => by cases h
 | x :: B, hB, h => by
  cases x with
  | lt a' s' b' t' r' =>
   have h' : cond (Nat.beq a a' && (eqI s s' && (Nat.beq b b' && eqI t t'))) (some r') (List.rec (motive := fun _ => Option Bool) none (fun x _ ih => match x with
    | .lt a' s' b' t' r => cond (Nat.beq a a' && (eqI s s' && (Nat.beq b b' && eqI t t'))) (some r) ih
    | _ => ih) B : Option Bool) = some r := h
   cases hc : (Nat.beq a a' && (eqI s s' && (Nat.beq b b' && eqI t t'))) with
   | true =>
    rw [hc] at h'
    cases h'
    simp only [Bool.and_eq_true] at hc
    rw [Nat.eq_of_beq_eq_true hc.1, eqI_ok hc.2.1, Nat.eq_of_beq_eq_true hc.2.2.1, eqI_ok hc.2.2.2]
    exact hB _ List.mem_cons_self
   | false => rw [hc] at h'; exact ltS_ok hB.tail h'
  | _ => exact ltS_ok hB.tail h
theorem ltB_ok (hB : AllX ρ B) {a b : Nat} {s t : Int} {r : Bool} (h : ltB B a s b t = some r) : r = true ↔ atIx ρ a s < atIx ρ b t := by
 unfold ltB at h
 cases hc : Nat.beq a b with
 | true =>
  rw [hc] at h
  simp only [cond_true, Option.some.injEq] at h
  obtain rfl := Nat.eq_of_beq_eq_true hc
  subst h
  unfold atIx
  rw [decide_eq_true_iff]
  omega
 | false => rw [hc] at h; exact ltS_ok hB h
theorem lnB_ok {c a : Nat} : ∀ {B : List Ix}, AllX ρ B → lnB B c = some a → (ρ.lst c).length = ρ.nat a
 | [], _, h => by cases h
 | x :: B, hB, h => by
  cases x with
  | ln c' a' =>
   have h' : cond (Nat.beq c c') (some a') (lnB B c) = some a := h
   cases hc : Nat.beq c c' with
   | true =>
    rw [hc] at h'
    cases h'
    rw [Nat.eq_of_beq_eq_true hc]
    exact hB _ List.mem_cons_self
   | false => rw [hc] at h'; exact lnB_ok hB.tail h'
  | _ => exact lnB_ok hB.tail h
theorem lcB_ok {c n : Nat} : ∀ {B : List Ix}, AllX ρ B → lcB B c = some n → (ρ.lst c).length = n
 | [], _, h => by cases h
 | x :: B, hB, h => by
  cases x with
  | lc c' n' =>
   have h' : cond (Nat.beq c c') (some n') (lcB B c) = some n := h
   cases hc : Nat.beq c c' with
   | true =>
    rw [hc] at h'
    cases h'
    rw [Nat.eq_of_beq_eq_true hc]
    exact hB _ List.mem_cons_self
   | false => rw [hc] at h'; exact lcB_ok hB.tail h'
  | _ => exact lcB_ok hB.tail h
theorem lnP_ok {c : Nat} {p : Nat × Int} {B : List Ix} (hB : AllX ρ B) (h : lnP B c = some p) : (((ρ.lst c).length : Nat) : Int) = atIx ρ p.1 p.2 := by
 unfold lnP at h
 cases hn : lnB B c with
 | some a =>
  rw [hn] at h
  cases h
  rw [lnB_ok hB hn]
  unfold atIx; simp
 | none =>
  rw [hn] at h
  simp only at h
  cases hc : lcB B c with
  | none => rw [hc] at h; cases h
  | some n =>
   rw [hc] at h
   cases h
   rw [lcB_ok hB hc]
   unfold atIx
   rw [ρ.nat0]; simp
theorem elB_ok {c a : Nat} {s : Int} {e : Qe} : ∀ {B : List Ix}, AllX ρ B → elB B c a s = some e → ∃ i : Nat, (i : Int) = atIx ρ a s ∧ (ρ.lst c)[i]? = some (e.ev ρ.q)
 | [], _, h => by cases h
 | x :: B, hB, h => by
  cases x with
  | el c' a' s' e' =>
   have h' : cond (Nat.beq c c' && (Nat.beq a a' && eqI s s')) (some e') (elB B c a s) = some e := h
   cases hc : (Nat.beq c c' && (Nat.beq a a' && eqI s s')) with
   | true =>
    rw [hc] at h'
    cases h'
    simp only [Bool.and_eq_true] at hc
    rw [Nat.eq_of_beq_eq_true hc.1, Nat.eq_of_beq_eq_true hc.2.1, eqI_ok hc.2.2]
    exact hB _ List.mem_cons_self
   | false => rw [hc] at h'; exact elB_ok hB.tail h'
  | _ => exact elB_ok hB.tail h
theorem dfB_ok {a b c : Nat} {s t : Int} : ∀ {B : List Ix}, AllX ρ B → dfB B a s b t = some c → atIx ρ a s - atIx ρ b t = ρ.nat c ∧ ρ.nat c ≤ 10000
 | [], _, h => by cases h
 | x :: B, hB, h => by
  cases x with
  | df a' s' b' t' c' =>
   have h' : cond (Nat.beq a a' && (eqI s s' && (Nat.beq b b' && eqI t t'))) (some c') (dfB B a s b t) = some c := h
   cases hc : (Nat.beq a a' && (eqI s s' && (Nat.beq b b' && eqI t t'))) with
   | true =>
    rw [hc] at h'
    cases h'
    simp only [Bool.and_eq_true] at hc
    rw [Nat.eq_of_beq_eq_true hc.1, eqI_ok hc.2.1, Nat.eq_of_beq_eq_true hc.2.2.1, eqI_ok hc.2.2.2]
    exact hB _ List.mem_cons_self
   | false => rw [hc] at h'; exact dfB_ok hB.tail h'
  | _ => exact dfB_ok hB.tail h
theorem biB_ok {k a b : Nat} {s t : Int} {c : Nat × Int} : ∀ {B : List Ix}, AllX ρ B → biB B k a s b t = some c → biF k (atIx ρ a s) (atIx ρ b t) = atIx ρ c.1 c.2 ∧ ρ.nat c.1 ≤ 10000
 | [], _, h => by cases h
 | x :: B, hB, h => by
  cases x with
  | bi k' a' s' b' t' c' z' =>
   have h' : cond (Nat.beq k k' && (Nat.beq a a' && (eqI s s' && (Nat.beq b b' && eqI t t')))) (some (c', z')) (biB B k a s b t) = some c := h
   cases hc : (Nat.beq k k' && (Nat.beq a a' && (eqI s s' && (Nat.beq b b' && eqI t t')))) with
   | true =>
    rw [hc] at h'
    cases h'
    simp only [Bool.and_eq_true] at hc
    rw [Nat.eq_of_beq_eq_true hc.1, Nat.eq_of_beq_eq_true hc.2.1, eqI_ok hc.2.2.1, Nat.eq_of_beq_eq_true hc.2.2.2.1, eqI_ok hc.2.2.2.2]
    exact hB _ List.mem_cons_self
   | false => rw [hc] at h'; exact biB_ok hB.tail h'
  | _ => exact biB_ok hB.tail h
theorem bdB_ok {a : Nat} : ∀ {B : List Ix}, AllX ρ B → bdB B a = true → ρ.nat a ≤ 10000
 | [], _, h => by
  rw [Nat.eq_of_beq_eq_true (show Nat.beq a 0 = true from h), ρ.nat0]; omega
 | x :: B, hB, h => by
  cases x with
  | bd a' =>
   have h' : (Nat.beq a a' || bdB B a) = true := h
   rcases Bool.or_eq_true_iff.1 h' with q | q
   ·rw [Nat.eq_of_beq_eq_true q]; exact hB _ List.mem_cons_self
   ·exact bdB_ok hB.tail q
  | _ => exact bdB_ok hB.tail h
end
noncomputable def ixV (v : Value) : M Sy (Nat × Int) := match v with
 | .int k z => match k with
  | .i64 => ret (0, z)
  | _ => fail
 | v => bind (fact v) fun x => match x with
  | .ix a s => ret (a, s)
  | _ => fail
theorem loc_ixV (v : Value) : Loc (ixV v) := by
 unfold ixV
 split
 ·split
  ·exact loc_ret _
  ·exact loc_fail
 ·refine loc_bind (loc_fact _) fun x => ?_
  split
  ·exact loc_ret _
  ·exact loc_fail
noncomputable def lVal (f : Sy) : M Sy Nxt := bind (newFact f) fun v => val v
theorem loc_lVal (f : Sy) : Loc (lVal f) := loc_bind (loc_newFact _) fun _ => loc_val _
noncomputable def cmpX (B : List Ix) (op : BinOp) (a : Nat) (s : Int) (b : Nat) (t : Int) : Option Bool := match op with
 | .lss => ltB B a s b t
 | .gtr => ltB B b t a s
 | .leq => (ltB B b t a s).map not
 | .geq => (ltB B a s b t).map not
 | .eql => match ltB B a s b t with
  | some p => match ltB B b t a s with
   | some q => some (!p && !q)
   | none => none
  | none => none
 | .neq => match ltB B a s b t with
  | some p => match ltB B b t a s with
   | some q => some (p || q)
   | none => none
  | none => none
 | _ => none
noncomputable def smallI (z : Int) : Bool := decide (-1000000 ≤ z) && decide (z ≤ 1000000)
noncomputable def biH (B : List Ix) (k : Nat) (x y : Nat × Int) : M Sy Nxt := match biB B k x.1 x.2 y.1 y.2 with
 | some c => cond (smallI c.2) (lVal (.ix c.1 c.2)) fail
 | none => fail
theorem loc_biH (B : List Ix) (k : Nat) (x y : Nat × Int) : Loc (biH B k x y) := by
 unfold biH
 split
 ·exact loc_cond (loc_lVal _) loc_fail
 ·exact loc_fail
noncomputable def iBin (B : List Ix) (op : BinOp) (x y : Nat × Int) : M Sy Nxt := match op with
 | .add => cond (Nat.beq y.1 0 && (bdB B x.1 && smallI (x.2 + y.2))) (lVal (.ix x.1 (x.2 + y.2))) (biH B 0 x y)
 | .sub => match dfB B x.1 x.2 y.1 y.2 with
  | some c => lVal (.ix c 0)
  | none => cond (Nat.beq y.1 0 && (bdB B x.1 && smallI (x.2 - y.2))) (lVal (.ix x.1 (x.2 - y.2))) (biH B 1 x y)
 | op => match cmpX B op x.1 x.2 y.1 y.2 with
  | some r => val (.bool r)
  | none => fail
theorem loc_iBin (B : List Ix) (op : BinOp) (x y : Nat × Int) : Loc (iBin B op x y) := by
 unfold iBin
 split
 ·exact loc_cond (loc_lVal _) (loc_biH _ _ _ _)
 ·split
  ·exact loc_lVal _
  ·exact loc_cond (loc_lVal _) (loc_biH _ _ _ _)
 ·split
  ·exact loc_val _
  ·exact loc_fail
section
variable {ρ : Env} {A : List As} {B : List Ix} {h h' : Tr (Blk Sy)} {nx nx' : Nat} {R W : List Nat} {r : Ren} {w : World}
theorem lVal_ok {f : Sy} {x : Nxt} {v' : Value} (e : lVal f h nx = .ok x h' nx' R W) (hM : Mod (symSig ρ) r h.get w) (hN : New r nx nx') (hv : f.holds ρ w v') :
  nx ≤ nx' ∧ ∃ v r', x = .val v ∧ VR r' v v' ∧ Ext (symSig ρ) r w nx nx' W h'.get r' w := by
 obtain ⟨v, h0, nx0, R0, W0, R1, W1, e0, e1, rfl, rfl⟩ := bind_ok e
 obtain ⟨rfl, rfl, rfl, rfl⟩ := val_ok e1
 obtain ⟨i, h2, nx2, R2, W2, R3, W3, e2, e3, rfl, rfl⟩ := bind_ok e0
 obtain ⟨rfl, rfl, rfl, rfl⟩ := ret_ok e3
 unfold fresh at e2
 cases e2
 obtain ⟨r', hX, hr⟩ := ext_fact (S := symSig ρ) (f := f) hM (Below.refl _ w) hN hv (Sy.one hv)
 exact ⟨Nat.le_succ _, _, r', rfl, .opq hr (Sy.one hv), by simpa using hX.congr fun n => .inr (Tr.get_set _ _ _ _)⟩
theorem ixV_ok {v v' : Value} {p : Nat × Int} (e : ixV v h nx = .ok p h' nx' R W) (hv : VR r v v') (hM : Mod (symSig ρ) r h.get w) : h' = h ∧ nx' = nx ∧ W = [] ∧ v' = .int .i64 (atIx ρ p.1 p.2) := by
 unfold ixV at e
 split at e
 ·split at e
  ·obtain ⟨rfl, rfl, rfl, rfl⟩ := ret_ok e
   refine ⟨rfl, rfl, rfl, ?_⟩
   rw [hv.int]
   unfold atIx
   rw [ρ.nat0]; simp
  ·cases (show (fail : M Sy (Nat × Int)) h nx = _ from e)
 ·obtain ⟨x, h1, nx1, R1, W1, R2, W2, e1, e2, rfl, rfl⟩ := bind_ok e
  obtain ⟨rfl, rfl, rfl, hf⟩ := fact_ok e1 hv hM
  split at e2
  ·obtain ⟨rfl, rfl, rfl, rfl⟩ := ret_ok e2
   exact ⟨rfl, rfl, rfl, hf⟩
  ·cases (show (fail : M Sy (Nat × Int)) _ _ = _ from e2)
theorem cmpX_ok (hB : AllX ρ B) {op : BinOp} {a b : Nat} {s t : Int} {r : Bool} (e : cmpX B op a s b t = some r) (ty : TypeId) (p q : Operand) (w : World) :
  (do eqGuard op ty p q (.int .i64 (atIx ρ a s)) (.int .i64 (atIx ρ b t)); binOp op ty (.int .i64 (atIx ρ a s)) (.int .i64 (atIx ρ b t)) : Sem Value).run Try.prog w = .ok (.bool r) w := by
 have two : ∀ {x y : Bool}, ltB B a s b t = some x → ltB B b t a s = some y → (x = true ↔ atIx ρ a s < atIx ρ b t) ∧ (y = true ↔ atIx ρ b t < atIx ρ a s) := fun h1 h2 => ⟨ltB_ok hB h1, ltB_ok hB h2⟩
 generalize hX : atIx ρ a s = X at *
 generalize hY : atIx ρ b t = Y at *
 cases op <;> simp only [cmpX] at e <;> first | (cases e; done) | skip
 ·-- eql
  cases h1 : ltB B a s b t with
  | none => rw [h1] at e; cases e
  | some x =>
   rw [h1] at e
   cases h2 : ltB B b t a s with
   | none => rw [h2] at e; cases e
   | some y =>
    rw [h2] at e
    cases e
    obtain ⟨q1, q2⟩ := two h1 h2
    have : (X == Y) = (!x && !y) := by
     by_cases hxy : X = Y
     ·have a1 : x = false := Bool.eq_false_iff.2 fun q => by have := q1.1 q; omega
      have a2 : y = false := Bool.eq_false_iff.2 fun q => by have := q2.1 q; omega
      rw [a1, a2, hxy]; simp
     ·rw [beq_eq_false_iff_ne.2 hxy]
      rcases Int.lt_or_lt_of_ne hxy with q | q
      ·rw [q1.2 q]; rfl
      ·rw [q2.2 q]; simp
    simp [eqGuard, binOp, Op.intCmp, this]
 ·cases h1 : ltB B a s b t with
  | none => rw [h1] at e; cases e
  | some x =>
   rw [h1] at e
   cases h2 : ltB B b t a s with
   | none => rw [h2] at e; cases e
   | some y =>
    rw [h2] at e
    cases e
    obtain ⟨q1, q2⟩ := two h1 h2
    have : (X != Y) = (x || y) := by
     by_cases hxy : X = Y
     ·have a1 : x = false := Bool.eq_false_iff.2 fun q => by have := q1.1 q; omega
      have a2 : y = false := Bool.eq_false_iff.2 fun q => by have := q2.1 q; omega
      rw [a1, a2, hxy]; simp
     ·rw [bne_iff_ne.2 hxy]
      rcases Int.lt_or_lt_of_ne hxy with q | q
      ·rw [q1.2 q]; rfl
      ·rw [q2.2 q]; simp
    simp [eqGuard, binOp, Op.intCmp, this]
 ·have q := ltB_ok hB e
  rw [hX, hY] at q
  have : decide (X < Y) = r := by rw [Bool.eq_iff_iff, decide_eq_true_iff]; exact q.symm
  simp [eqGuard, binOp, Op.intCmp, this]
 ·obtain ⟨y, h2, rfl⟩ := Option.map_eq_some_iff.1 e
  have q := ltB_ok hB h2
  rw [hX, hY] at q
  have : decide (X ≤ Y) = !y := by
   rw [Bool.eq_iff_iff, decide_eq_true_iff, Bool.not_eq_true']
   constructor
   ·intro q2; exact Bool.eq_false_iff.2 fun q3 => by have := q.1 q3; omega
   ·intro q2; by_cases q3 : Y < X
    ·rw [q.2 q3] at q2; cases q2
    ·omega
  simp [eqGuard, binOp, Op.intCmp, this]
 ·have q := ltB_ok hB e
  rw [hX, hY] at q
  have : decide (Y < X) = r := by rw [Bool.eq_iff_iff, decide_eq_true_iff]; exact q.symm
  simp [eqGuard, binOp, Op.intCmp, this]
 ·obtain ⟨y, h2, rfl⟩ := Option.map_eq_some_iff.1 e
  have q := ltB_ok hB h2
  rw [hX, hY] at q
  have : decide (Y ≤ X) = !y := by
   rw [Bool.eq_iff_iff, decide_eq_true_iff, Bool.not_eq_true']
   constructor
   ·intro q2; exact Bool.eq_false_iff.2 fun q3 => by have := q.1 q3; omega
   ·intro q2; by_cases q3 : X < Y
    ·rw [q.2 q3] at q2; cases q2
    ·omega
  simp [eqGuard, binOp, Op.intCmp, this]
theorem smallI_ok {z : Int} (h : smallI z = true) : -1000000 ≤ z ∧ z ≤ 1000000 := by
 simp only [smallI, Bool.and_eq_true, decide_eq_true_eq] at h
 exact h
theorem condB {F α : Type} {b : Bool} {m n : M F α} {g g' : Tr (Blk F)} {k k' : Nat} {x : α} {R W : List Nat} (e : cond b m n g k = .ok x g' k' R W) : (b = true ∧ m g k = .ok x g' k' R W) ∨ (b = false ∧ n g k = .ok x g' k' R W) := by
 cases b with
 | true => exact .inl ⟨rfl, e⟩
 | false => exact .inr ⟨rfl, e⟩
theorem biH_ok (hB : AllX ρ B) {k : Nat} {x y : Nat × Int} {z : Nxt} (e : biH B k x y h nx = .ok z h' nx' R W) (hM : Mod (symSig ρ) r h.get w) (hN : New r nx nx') :
  ∃ t : Int, biF k (atIx ρ x.1 x.2) (atIx ρ y.1 y.2) = t ∧ IntKind.i64.wrap t = t ∧ nx ≤ nx' ∧ ∃ v r', z = .val v ∧ VR r' v (.int .i64 t) ∧ Ext (symSig ρ) r w nx nx' W h'.get r' w := by
 unfold biH at e
 cases hc : biB B k x.1 x.2 y.1 y.2 with
 | none => rw [hc] at e; cases (show (fail : M Sy Nxt) h nx = _ from e)
 | some c =>
  rw [hc] at e
  obtain ⟨hk, e1⟩ := cond_ok e
  obtain ⟨g1, g2⟩ := biB_ok hB hc
  obtain ⟨hle, v, r', rfl, hv, hX⟩ := lVal_ok (v' := .int .i64 (atIx ρ c.1 c.2)) e1 hM hN rfl
  have hs := smallI_ok hk
  refine ⟨_, g1, ?_, hle, v, r', rfl, hv, hX⟩
  rw [IntKind.wrap_i64]
  unfold atIx
  omega
theorem iBin_ok (hB : AllX ρ B) {op : BinOp} {x y : Nat × Int} {z : Nxt} (e : iBin B op x y h nx = .ok z h' nx' R W) (hM : Mod (symSig ρ) r h.get w) (hN : New r nx nx') (ty : TypeId) (p q : Operand) :
  nx ≤ nx' ∧ ∃ v u r', z = .val v ∧ (do eqGuard op ty p q (.int .i64 (atIx ρ x.1 x.2)) (.int .i64 (atIx ρ y.1 y.2)); binOp op ty (.int .i64 (atIx ρ x.1 x.2)) (.int .i64 (atIx ρ y.1 y.2)) : Sem Value).run Try.prog w = .ok u w ∧ VR r' v u ∧ Ext (symSig ρ) r w nx nx' W h'.get r' w := by
 have cmp : ∀ {op : BinOp}, (match cmpX B op x.1 x.2 y.1 y.2 with
   | some r => val (.bool r)
   | none => fail : M Sy Nxt) h nx = .ok z h' nx' R W → nx ≤ nx' ∧ ∃ v u r', z = .val v ∧ (do eqGuard op ty p q (.int .i64 (atIx ρ x.1 x.2)) (.int .i64 (atIx ρ y.1 y.2)); binOp op ty (.int .i64 (atIx ρ x.1 x.2)) (.int .i64 (atIx ρ y.1 y.2)) : Sem Value).run Try.prog w = .ok u w ∧ VR r' v u ∧ Ext (symSig ρ) r w nx nx' W h'.get r' w := fun {op} e => by
  cases hc : cmpX B op x.1 x.2 y.1 y.2 with
  | none => rw [hc] at e; cases (show (fail : M Sy Nxt) h nx = _ from e)
  | some b =>
   rw [hc] at e
   obtain ⟨rfl, rfl, rfl, rfl⟩ := val_ok e
   exact ⟨Nat.le_refl _, _, .bool b, r, rfl, cmpX_ok hB hc ty p q w, .same rfl, Ext.refl _ _ hM⟩
 have add : ∀ {s : Int}, bdB B x.1 = true → smallI s = true → IntKind.i64.wrap (atIx ρ x.1 s) = atIx ρ x.1 s := fun {s} h1 h2 => by
  have := bdB_ok hB h1
  have := smallI_ok h2
  rw [IntKind.wrap_i64]
  unfold atIx
  omega
 obtain ⟨b, t⟩ := y
 cases op
 case add =>
  rcases condB (show cond (Nat.beq b 0 && (bdB B x.1 && smallI (x.2 + t))) (lVal (.ix x.1 (x.2 + t))) (biH B 0 x (b, t)) h nx = _ from e) with ⟨hk, e1⟩ | ⟨_, e1⟩
  case inr =>
   obtain ⟨q, h1, h2, hle, v, r', rfl, hv, hX⟩ := biH_ok hB e1 hM hN
   have h1' : atIx ρ x.1 x.2 + atIx ρ b t = q := h1
   refine ⟨hle, v, _, r', rfl, ?_, hv, hX⟩
   simp [eqGuard, binOp, Op.intArith, h1', h2]
  simp only [Bool.and_eq_true] at hk
  obtain rfl := Nat.eq_of_beq_eq_true hk.1
  obtain ⟨hle, v, r', rfl, hv, hX⟩ := lVal_ok (v' := .int .i64 (atIx ρ x.1 (x.2 + t))) e1 hM hN rfl
  refine ⟨hle, v, _, r', rfl, ?_, hv, hX⟩
  have h1 := add hk.2.1 hk.2.2
  have h2 : atIx ρ x.1 x.2 + atIx ρ 0 t = atIx ρ x.1 (x.2 + t) := by unfold atIx; rw [ρ.nat0]; simp; omega
  simp [eqGuard, binOp, Op.intArith, h2, h1]
 case sub =>
  have e0 : (match dfB B x.1 x.2 b t with
   | some c => lVal (.ix c 0)
   | none => cond (Nat.beq b 0 && (bdB B x.1 && smallI (x.2 - t))) (lVal (.ix x.1 (x.2 - t))) (biH B 1 x (b, t)) : M Sy Nxt) h nx = .ok z h' nx' R W := e
  cases hd : dfB B x.1 x.2 b t with
  | some c =>
   rw [hd] at e0
   obtain ⟨g1, g2⟩ := dfB_ok hB hd
   obtain ⟨hle, v, r', rfl, hv, hX⟩ := lVal_ok (v' := .int .i64 (atIx ρ c 0)) e0 hM hN rfl
   refine ⟨hle, v, _, r', rfl, ?_, hv, hX⟩
   have h1 : atIx ρ x.1 x.2 - atIx ρ b t = atIx ρ c 0 := by rw [g1]; unfold atIx; simp
   have h3 : IntKind.i64.wrap (atIx ρ c 0) = atIx ρ c 0 := by
    rw [IntKind.wrap_i64]
    unfold atIx
    omega
   simp [eqGuard, binOp, Op.intArith, h1, h3]
  | none =>
  rw [hd] at e0
  have e := e0
  rcases condB (show cond (Nat.beq b 0 && (bdB B x.1 && smallI (x.2 - t))) (lVal (.ix x.1 (x.2 - t))) (biH B 1 x (b, t)) h nx = _ from e) with ⟨hk, e1⟩ | ⟨_, e1⟩
  case inr =>
   obtain ⟨q, h1, h2, hle, v, r', rfl, hv, hX⟩ := biH_ok hB e1 hM hN
   have h1' : atIx ρ x.1 x.2 - atIx ρ b t = q := h1
   refine ⟨hle, v, _, r', rfl, ?_, hv, hX⟩
   simp [eqGuard, binOp, Op.intArith, h1', h2]
  simp only [Bool.and_eq_true] at hk
  obtain rfl := Nat.eq_of_beq_eq_true hk.1
  obtain ⟨hle, v, r', rfl, hv, hX⟩ := lVal_ok (v' := .int .i64 (atIx ρ x.1 (x.2 - t))) e1 hM hN rfl
  refine ⟨hle, v, _, r', rfl, ?_, hv, hX⟩
  have h1 := add hk.2.1 hk.2.2
  have h2 : atIx ρ x.1 x.2 - atIx ρ 0 t = atIx ρ x.1 (x.2 - t) := by unfold atIx; rw [ρ.nat0]; simp; omega
  simp [eqGuard, binOp, Op.intArith, h2, h1]
 all_goals exact cmp e
end
set_option maxRecDepth 100000
noncomputable def elFs (K : Nat) (e : Qe) : List Sy := match K with
 | 0 => [.ng e, .fn e, .fd e]
 | 1 => [.ng e, .nu e, .de e]
 | 2 => [.iz 0 e]
 | 3 => [.iz 1 e]
 | _ => []
noncomputable def isAggK (K : Nat) : Bool := Nat.ble K 1
theorem elFs_holds {ρ : Env} {K : Nat} {e : Qe} {w : World} {l : List Value} (h : elIs K w (e.ev ρ.q) l) : HoldsL (symSig ρ) w (elFs K e) l := by
 rcases K with _ | _ | _ | _ | K
 ·obtain rfl := (show l = _ from h)
  exact ⟨_, _, rfl, rfl, rfl, _, _, rfl, rfl, rfl, _, _, rfl, rfl, rfl, rfl⟩
 ·obtain ⟨a, b, rfl, h1, h2⟩ := h
  exact ⟨_, _, rfl, rfl, rfl, _, _, rfl, h1, nat_one h1, _, _, rfl, h2, nat_one h2, rfl⟩
 ·obtain ⟨v, rfl, h1⟩ := h
  exact ⟨_, _, rfl, h1, by rw [h1.1]; rfl, rfl⟩
 ·obtain ⟨v, rfl, h1⟩ := h
  exact ⟨_, _, rfl, h1, by rw [h1.1]; rfl, rfl⟩
 ·exact h.elim
theorem elIs_len {K : Nat} {w : World} {q : Rat} {l : List Value} (h : elIs K w q l) : l.length = elSz K := by
 rcases K with _ | _ | _ | _ | K
 ·obtain rfl := (show l = _ from h); rfl
 ·obtain ⟨a, b, rfl, _⟩ := h; rfl
 ·obtain ⟨v, rfl, _⟩ := h; rfl
 ·obtain ⟨v, rfl, _⟩ := h; rfl
 ·exact h.elim
theorem elSz_agg {K : Nat} : elSz K = cond (isAggK K) 3 1 := by
 unfold elSz isAggK
 split
 ·rfl
 ·rfl
 ·rename_i h1 h2
  have : Nat.ble K 1 = false := by
   cases h : Nat.ble K 1 with
   | false => rfl
   | true =>
    have := Nat.le_of_ble_eq_true h
    rcases K with _ | _ | K
    ·exact absurd rfl h1
    ·exact absurd rfl h2
    ·omega
  rw [this]; rfl
theorem elSz_pos (K : Nat) : 1 ≤ elSz K := by rw [elSz_agg]; cases isAggK K <;> decide
noncomputable def elLoad (t : TypeId) (K : Nat) (e : Qe) : M Sy Nxt := match isAggT Try.prog t with
 | some b => cond b (cond (isAggK K) (match sizeT Try.prog t with
    | some s => cond (Nat.beq s 3) (bind (newFacts (elFs K e)) fun vs => val (.agg ⟨vs⟩)) fail
    | none => fail) fail)
   (cond (isAggK K) fail (bind (newFacts (elFs K e)) fun vs => val (vs.headD undef)))
 | none => fail
theorem loc_elLoad (t : TypeId) (K : Nat) (e : Qe) : Loc (elLoad t K e) := by
 unfold elLoad
 split
 ·refine loc_cond (loc_cond ?_ loc_fail) (loc_cond loc_fail (loc_bind (loc_newFacts _) fun _ => loc_val _))
  split
  ·exact loc_cond (loc_bind (loc_newFacts _) fun _ => loc_val _) loc_fail
  ·exact loc_fail
 ·exact loc_fail
noncomputable def inB (B : List Ix) (a : Nat) (s : Int) (n : Nat × Int) : Bool := (decide (0 ≤ s) || (match ltB B a s 0 0 with
  | some r => !r
  | none => false)) && (match ltB B a s n.1 n.2 with
  | some r => r
  | none => false)
noncomputable def lIx (B : List Ix) (t : TypeId) (p : Nat × Int) (x : Sy) : M Sy Nxt := match x with
 | .ls K c => match sliceT Try.prog t with
  | some e => match sizeT Try.prog e with
   | some z => match lnP B c with
    | some n => cond (Nat.beq z (elSz K) && inB B p.1 p.2 n) (lVal (.lp K c p.1 p.2)) fail
    | none => fail
   | none => fail
  | none => fail
 | .lr c a => match sliceT Try.prog t with
  | some e => match sizeT Try.prog e with
   | some z => cond (Nat.beq z 3 && inB B p.1 p.2 (a, 0)) (lVal (.lq c a p.1 p.2)) fail
   | none => fail
  | none => fail
 | _ => fail
theorem loc_lIx (B : List Ix) (t : TypeId) (p : Nat × Int) (x : Sy) : Loc (lIx B t p x) := by
 unfold lIx
 (repeat' split) <;> first | exact loc_fail | exact loc_cond (loc_lVal _) loc_fail
noncomputable def rawLoad (t : TypeId) (c : Nat) : M Sy Nxt := match isAggT Try.prog t with
 | some b => cond b (match sizeT Try.prog t with
  | some s => cond (Nat.beq s 3) (bind (newFacts [.rg c, .rn c, .rd c]) fun vs => val (.agg ⟨vs⟩)) fail
  | none => fail) fail
 | none => fail
theorem loc_rawLoad (t : TypeId) (c : Nat) : Loc (rawLoad t c) := by
 unfold rawLoad
 split
 ·refine loc_cond ?_ loc_fail
  split
  ·exact loc_cond (loc_bind (loc_newFacts _) fun _ => loc_val _) loc_fail
  ·exact loc_fail
 ·exact loc_fail
noncomputable def eqPl (o : Option (Nat × Int)) (x : Nat) (s : Int) : Bool := match o with
 | some p => Nat.beq p.1 x && eqI p.2 s
 | none => false
noncomputable def lLd (B : List Ix) (t : TypeId) (x : Sy) : M Sy Nxt := match x with
 | .lp K c a s => match elB B c a s with
  | some e => elLoad t K e
  | none => fail
 | .lq c _ a s => match elB B c a s with
  | some e => elLoad t 0 e
  | none => cond (eqPl (lnP B c) a s) (rawLoad t c) fail
 | _ => fail
theorem loc_lLd (B : List Ix) (t : TypeId) (x : Sy) : Loc (lLd B t x) := by
 unfold lLd
 (repeat' split) <;> first | exact loc_fail | exact loc_elLoad _ _ _ | exact loc_cond (loc_rawLoad _ _) loc_fail
noncomputable def lLn (B : List Ix) (x : Sy) : M Sy Nxt := match x with
 | .ls _ c => match lnP B c with
  | some n => lVal (.ix n.1 n.2)
  | none => fail
 | .wl a s => lVal (.ix a s)
 | .lr _ a => lVal (.ix a 0)
 | _ => fail
theorem loc_lLn (B : List Ix) (x : Sy) : Loc (lLn B x) := by
 unfold lLn
 (repeat' split) <;> first | exact loc_fail | exact loc_lVal _
section
variable {ρ : Env} {A : List As} {B : List Ix} {h h' : Tr (Blk Sy)} {nx nx' : Nat} {R W : List Nat} {r : Ren} {w : World}
theorem inB_ok (hB : AllX ρ B) {a : Nat} {n : Nat × Int} {s : Int} (h : inB B a s n = true) : ∃ i : Nat, (i : Int) = atIx ρ a s ∧ (i : Int) < atIx ρ n.1 n.2 := by
 simp only [inB, Bool.and_eq_true, Bool.or_eq_true, decide_eq_true_eq] at h
 obtain ⟨h1, h2⟩ := h
 have hlt : atIx ρ a s < atIx ρ n.1 n.2 := by
  cases hl : ltB B a s n.1 n.2 with
  | none => rw [hl] at h2; cases h2
  | some r => rw [hl] at h2; exact (ltB_ok hB hl).1 h2
 have h0 : 0 ≤ atIx ρ a s := by
  rcases h1 with h1 | h1
  ·unfold atIx; omega
  ·cases hl : ltB B a s 0 0 with
   | none => rw [hl] at h1; cases h1
   | some r =>
    rw [hl] at h1
    have q := ltB_ok hB hl
    have hr : r = false := by simpa using h1
    have hz : atIx ρ 0 0 = 0 := by unfold atIx; rw [ρ.nat0]; rfl
    rw [hz] at q
    rcases Int.lt_or_le (atIx ρ a s) 0 with q1 | q1
    ·rw [q.2 q1] at hr; cases hr
    ·exact q1
 refine ⟨(atIx ρ a s).toNat, Int.toNat_of_nonneg h0, ?_⟩
 rw [Int.toNat_of_nonneg h0]
 exact hlt
theorem elLoad_ok {t : TypeId} {K : Nat} {e : Qe} {x : Nxt} {b off : Nat} {cl : List Value} {ty : TypeId} {z : Nat × Nat} (e1 : elLoad t K e h nx = .ok x h' nx' R W) (hM : Mod (symSig ρ) r h.get w) (hN : New r nx nx')
  (hh : w.heap[b]? = some (.cells ⟨cl⟩ ty z)) (hel : elIs K w (e.ev ρ.q) ((cl.drop off).take (elSz K))) :
  nx ≤ nx' ∧ ∃ v u r', x = .val v ∧ (loadVar t ⟨b, off, none⟩).run Try.prog w = .ok u w ∧ VR r' v u ∧ Ext (symSig ρ) r w nx nx' W h'.get r' w := by
 have hlen := elIs_len hel
 unfold elLoad at e1
 cases hag : isAggT Try.prog t with
 | none => rw [hag] at e1; cases (show (fail : M Sy Nxt) h nx = _ from e1)
 | some ag =>
  rw [hag] at e1; simp only at e1
  have hag' := isAgg_of hag w
  cases ag with
  | true =>
   obtain ⟨hk, e2⟩ := cond_ok (show cond (isAggK K) _ fail h nx = _ from e1)
   cases hs : sizeT Try.prog t with
   | none => rw [hs] at e2; cases (show (fail : M Sy Nxt) h nx = _ from e2)
   | some s =>
    rw [hs] at e2; simp only at e2
    have hs' := size_of hs w
    obtain ⟨hk3, e3⟩ := cond_ok e2
    obtain rfl := Nat.eq_of_beq_eq_true hk3
    have h3 : elSz K = 3 := by rw [elSz_agg, hk]; rfl
    obtain ⟨vs, h1, nx1, R1, W1, R2, W2, e4, e5, rfl, rfl⟩ := bind_ok e3
    obtain ⟨rfl, rfl, rfl, rfl⟩ := val_ok e5
    obtain ⟨hle, r', hX, hv⟩ := newFacts_ok _ e4 hM hN (elFs_holds hel)
    have hl := row_at (P := Try.prog) hh (off := off) (n := 3) (by rw [← h3]; exact hlen)
    rw [← h3] at hl
    exact ⟨hle, _, .agg ⟨(cl.drop off).take (elSz K)⟩, r', rfl, by simp [loadVar, hag', hs', ← h3, hl], .agg hv, by simpa using hX⟩
  | false =>
   obtain ⟨hk, e2⟩ := cond_no (show cond (isAggK K) fail _ h nx = _ from e1)
   have h1' : elSz K = 1 := by rw [elSz_agg, hk]; rfl
   obtain ⟨vs, h1, nx1, R1, W1, R2, W2, e4, e5, rfl, rfl⟩ := bind_ok e2
   obtain ⟨rfl, rfl, rfl, rfl⟩ := val_ok e5
   obtain ⟨hle, r', hX, hv⟩ := newFacts_ok _ e4 hM hN (elFs_holds hel)
   rw [h1'] at hlen hv
   cases hd : cl.drop off with
   | nil => rw [hd] at hlen; simp at hlen
   | cons u l =>
    rw [hd] at hv
    simp only [List.take_succ_cons, List.take_zero] at hv
    have hcu : cl[off]? = some u := by
     have : (cl.drop off)[0]? = some u := by rw [hd]; rfl
     rwa [List.getElem?_drop, Nat.add_zero] at this
    cases hv with
    | cons q1 q2 =>
     cases q2
     exact ⟨hle, _, u, r', rfl, by simp [loadVar, hag', World.cell?, hh, hcu], q1, by simpa using hX⟩
theorem lIx_ok (hB : AllX ρ B) {t : TypeId} {p : Nat × Int} {v' : Value} {x0 : Sy} {x : Nxt} (e : lIx B t p x0 h nx = .ok x h' nx' R W) (hx : x0.holds ρ w v') (hM : Mod (symSig ρ) r h.get w) (hN : New r nx nx') :
  nx ≤ nx' ∧ ∃ v u r', x = .val v ∧ (Instr.indexAt t v' (.int .i64 (atIx ρ p.1 p.2))).run Try.prog w = .ok u w ∧ VR r' v u ∧ Ext (symSig ρ) r w nx nx' W h'.get r' w := by
 unfold lIx at e
 cases x0 <;> first | (cases (show (fail : M Sy Nxt) h nx = _ from e); done) | skip
 ·rename_i K c
  simp only at e
  cases hs : sliceT Try.prog t with
  | none => rw [hs] at e; cases (show (fail : M Sy Nxt) h nx = _ from e)
  | some el =>
   rw [hs] at e; simp only at e
   cases hz : sizeT Try.prog el with
   | none => rw [hz] at e; cases (show (fail : M Sy Nxt) h nx = _ from e)
   | some s =>
    rw [hz] at e; simp only at e
    cases hn : lnP B c with
    | none => rw [hn] at e; cases (show (fail : M Sy Nxt) h nx = _ from e)
    | some n =>
     rw [hn] at e; simp only at e
     obtain ⟨hk, e2⟩ := cond_ok e
     simp only [Bool.and_eq_true] at hk
     obtain rfl := Nat.eq_of_beq_eq_true hk.1
     obtain ⟨i, hi, hlt⟩ := inB_ok hB hk.2
     rw [← lnP_ok hB hn] at hlt
     have hlt : i < (ρ.lst c).length := by omega
     obtain ⟨a, m, rfl, hc, hl⟩ := (show lsIs ρ K c w v' from hx)
     obtain ⟨b, off, cl, ty, z, rfl, q1, q2, q3⟩ := hl (fun q => by rw [q] at hlt; simp at hlt)
     obtain ⟨hle, v, r', rfl, hv, hX⟩ := lVal_ok (v' := vptr b (off + i * elSz K)) e2 hM hN ⟨b, off, cl, ty, z, i, rfl, hi, hlt, q1, q2, q3⟩
     refine ⟨hle, v, vptr b (off + i * elSz K), r', rfl, ?_, hv, hX⟩
     rw [← hi]
     have c1 : (0 : Int) ≤ (i : Int) ∧ (i : Int) < ((ρ.lst c).length : Int) := by omega
     simp [Instr.indexAt, asIntOf, run_underlying (sliceT_of hs), c1, size_of hz, add_off, vptr]
     intro hle; omega
 ·rename_i c a0
  simp only at e
  cases hs : sliceT Try.prog t with
  | none => rw [hs] at e; cases (show (fail : M Sy Nxt) h nx = _ from e)
  | some el =>
   rw [hs] at e; simp only at e
   cases hz : sizeT Try.prog el with
   | none => rw [hz] at e; cases (show (fail : M Sy Nxt) h nx = _ from e)
   | some s =>
    rw [hz] at e; simp only at e
    obtain ⟨hk, e2⟩ := cond_ok e
    simp only [Bool.and_eq_true] at hk
    obtain rfl := Nat.eq_of_beq_eq_true hk.1
    obtain ⟨i, hi, hlt⟩ := inB_ok hB hk.2
    have hlt2 : i < ρ.nat a0 := by
     have h3 : (i : Int) < (ρ.nat a0 : Int) + 0 := by first | exact hlt | (rw [hi]; exact hlt)
     omega
    obtain ⟨a, m, rfl, hc, hn2, hl⟩ := (show lrIs ρ c a0 w v' from hx)
    obtain ⟨b, off, cl, ty, z, rfl, q1, q2, q3, q4⟩ := hl (by omega)
    obtain ⟨hle, v, r', rfl, hv, hX⟩ := lVal_ok (v' := vptr b (off + i * 3)) e2 hM hN ⟨b, off, cl, ty, z, i, rfl, hi, hlt2, q1, q2, q3, q4⟩
    refine ⟨hle, v, vptr b (off + i * 3), r', rfl, ?_, hv, hX⟩
    rw [← hi]
    have c1 : (0 : Int) ≤ (i : Int) ∧ (i : Int) < ((ρ.nat a0 : Nat) : Int) := by omega
    simp [Instr.indexAt, asIntOf, run_underlying (sliceT_of hs), c1, size_of hz, add_off, vptr]
    intro hle; omega
theorem lLd_ok (hB : AllX ρ B) {t : TypeId} {v' : Value} {x0 : Sy} {x : Nxt} (e : lLd B t x0 h nx = .ok x h' nx' R W) (hx : x0.holds ρ w v') (hM : Mod (symSig ρ) r h.get w) (hN : New r nx nx') :
  nx ≤ nx' ∧ ∃ v u ad r', x = .val v ∧ v' = .pointer (some ad) ∧ (loadVar t ad).run Try.prog w = .ok u w ∧ VR r' v u ∧ Ext (symSig ρ) r w nx nx' W h'.get r' w := by
 unfold lLd at e
 cases x0 <;> first | (cases (show (fail : M Sy Nxt) h nx = _ from e); done) | skip
 ·rename_i K c a s
  simp only at e
  cases hn : elB B c a s with
  | none => rw [hn] at e; cases (show (fail : M Sy Nxt) h nx = _ from e)
  | some q =>
   rw [hn] at e; simp only at e
   obtain ⟨b, off, cl, ty, z, i, rfl, hi, hlt, q1, q2, q3⟩ := (show lpIs ρ K c a s w v' from hx)
   obtain ⟨j, hj, hel⟩ := elB_ok hB hn
   have : j = i := by have : (j : Int) = i := hj.trans hi.symm; omega
   subst this
   obtain ⟨hle, v, u, r', rfl, hr, hv, hX⟩ := elLoad_ok e hM hN q2 (q3 j _ hel)
   exact ⟨hle, v, u, _, r', rfl, rfl, hr, hv, hX⟩
 ·rename_i c a0 a s
  simp only at e
  obtain ⟨b, off, cl, ty, z, i, rfl, hi, hlt, q1, q2, q3, q4⟩ := (show lqIs ρ c a0 a s w v' from hx)
  cases hn : elB B c a s with
  | some q =>
   rw [hn] at e; simp only at e
   obtain ⟨j, hj, hel⟩ := elB_ok hB hn
   have : j = i := by have : (j : Int) = i := hj.trans hi.symm; omega
   subst this
   obtain ⟨hle, v, u, r', rfl, hr, hv, hX⟩ := elLoad_ok e hM hN q2 (q3 j _ hel)
   exact ⟨hle, v, u, _, r', rfl, rfl, hr, hv, hX⟩
  | none =>
   rw [hn] at e; simp only at e
   obtain ⟨hk, e2⟩ := cond_ok e
   unfold eqPl at hk
   cases hl : lnP B c with
   | none => rw [hl] at hk; cases hk
   | some p =>
    rw [hl] at hk
    simp only [Bool.and_eq_true] at hk
    have hln := lnP_ok hB hl
    rw [Nat.eq_of_beq_eq_true hk.1, eqI_ok hk.2] at hln
    have hij : (ρ.lst c).length = i := by have : (((ρ.lst c).length : Nat) : Int) = (i : Nat) := hln.trans hi.symm; omega
    have hraw := q4 (by omega)
    rw [hij] at hraw
    unfold rawLoad at e2
    cases hag : isAggT Try.prog t with
    | none => rw [hag] at e2; cases (show (fail : M Sy Nxt) h nx = _ from e2)
    | some ag =>
     rw [hag] at e2; simp only at e2
     have hag' := isAgg_of hag w
     obtain ⟨hk2, e3⟩ := cond_ok e2
     subst hk2
     cases hs : sizeT Try.prog t with
     | none => rw [hs] at e3; cases (show (fail : M Sy Nxt) h nx = _ from e3)
     | some sz =>
      rw [hs] at e3; simp only at e3
      have hs' := size_of hs w
      obtain ⟨hk3, e4⟩ := cond_ok e3
      obtain rfl := Nat.eq_of_beq_eq_true hk3
      obtain ⟨vs, h1, nx1, R1, W1, R2, W2, e5, e6, rfl, rfl⟩ := bind_ok e4
      obtain ⟨rfl, rfl, rfl, rfl⟩ := val_ok e6
      have hh : HoldsL (symSig ρ) w [.rg c, .rn c, .rd c] ((cl.drop (off + i * 3)).take 3) := by
       rw [hraw]
       exact ⟨_, _, rfl, rfl, rfl, _, _, rfl, rfl, rfl, _, _, rfl, rfl, rfl, rfl⟩
      obtain ⟨hle, r', hX, hv⟩ := newFacts_ok _ e5 hM hN hh
      have hl3 := row_at (P := Try.prog) q2 (off := off + i * 3) (n := 3) (by rw [hraw]; rfl)
      exact ⟨hle, _, .agg ⟨(cl.drop (off + i * 3)).take 3⟩, _, r', rfl, rfl, by simp [loadVar, hag', hs', hl3], .agg hv, by simpa using hX⟩
theorem lLn_ok (hB : AllX ρ B) {t ty : TypeId} {el : TypeId} {v' : Value} {x0 : Sy} {x : Nxt} (hs : sliceT Try.prog t = some el) (e : lLn B x0 h nx = .ok x h' nx' R W) (hx : x0.holds ρ w v') (hM : Mod (symSig ρ) r h.get w) (hN : New r nx nx') :
  nx ≤ nx' ∧ ∃ v u r', x = .val v ∧ (Builtin.len_ #[t] ty #[v']).run Try.prog w = .ok u w ∧ VR r' v u ∧ Ext (symSig ρ) r w nx nx' W h'.get r' w := by
 unfold lLn at e
 cases x0 <;> first | (cases (show (fail : M Sy Nxt) h nx = _ from e); done) | skip
 ·rename_i K c
  simp only at e
  cases hn : lnP B c with
  | none => rw [hn] at e; cases (show (fail : M Sy Nxt) h nx = _ from e)
  | some n =>
   rw [hn] at e; simp only at e
   obtain ⟨a, m, rfl, hc, hl⟩ := (show lsIs ρ K c w v' from hx)
   have hln := lnP_ok hB hn
   obtain ⟨hle, v, r', rfl, hv, hX⟩ := lVal_ok (v' := .int .i64 (((ρ.lst c).length : Nat) : Int)) e hM hN (by
    show Value.int .i64 _ = .int .i64 _
    rw [hln]; rfl)
   exact ⟨hle, v, _, r', rfl, by simp [Builtin.len_, run_underlying (sliceT_of hs), goInt], hv, hX⟩
 ·rename_i a s
  obtain ⟨b, n, m, rfl, hn⟩ := (show ∃ b n m, v' = Value.slice b n m ∧ ((n : Nat) : Int) = ρ.nat a + s from hx)
  obtain ⟨hle, v, r', rfl, hv, hX⟩ := lVal_ok (v' := .int .i64 ((n : Nat) : Int)) e hM hN (by
   show Value.int .i64 _ = .int .i64 _
   rw [hn])
  exact ⟨hle, v, _, r', rfl, by simp [Builtin.len_, run_underlying (sliceT_of hs), goInt], hv, hX⟩
 ·rename_i c a
  obtain ⟨b, m, rfl, _⟩ := (show lrIs ρ c a w v' from hx)
  obtain ⟨hle, v, r', rfl, hv, hX⟩ := lVal_ok (v' := .int .i64 ((ρ.nat a : Nat) : Int)) e hM hN (by
   show Value.int .i64 _ = .int .i64 _
   simp)
  exact ⟨hle, v, _, r', rfl, by simp [Builtin.len_, run_underlying (sliceT_of hs), goInt], hv, hX⟩
end
end Ev
end Go.Proofs.Ytnlhjcfpfapafaa
