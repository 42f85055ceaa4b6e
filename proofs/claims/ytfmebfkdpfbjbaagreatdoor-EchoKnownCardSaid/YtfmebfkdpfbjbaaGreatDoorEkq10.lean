/- Contracts, in this order: The interpreter: parts of slices, append, copy: what it answ · The interpreter: parts of slices, append, copy: for any Cfg  · Plain arithmetic of numbers written as lists of words, the l -/
import Derived.Test.YtfmebfkdpfbjbaaGreatDoorEkq09
import Derived.Laws.Cover3
import Derived.Laws.Pointers
import Derived.Laws.BytesString
namespace Go.Proofs.YtfmebfkdpfbjbaaGreatDoor
open Go
namespace Ev
section
variable {F : Type} {S : Sig F} {P : Program} {C : Cfg F}
variable {h h' : Tr (Blk F)} {nx nx' : Nat} {R W : List Nat} {r : Ren} {w : World} {x : Nxt}
theorem Ext.kill {r r' : Ren} {w w' : World} {lo hi n : Nat} {W : List Nat} {g : Nat → Option (Blk F)} {c : List Value} {t : TypeId} (hX : Ext S r w lo hi W g r' w') (hn : g n = some (.room c t)) :
    Ext S r w lo hi (W ++ [n]) (fun k => if k = n then some (.room [] t) else g k) r' w' :=
  ⟨hX.le, hX.mod.kill hn, hX.dom, fun m b e => (hX.new m b e).imp id (Or.imp id fun ⟨k, hk, q⟩ => ⟨k, List.mem_append_left _ hk, q⟩), fun b o hb hk => hX.keep b o hb fun m hm => hk m (List.mem_append_left _ hm), hX.size, hX.os, hX.tape, hX.output, hX.loops⟩
theorem wr_ok {b : Nat} {y : Blk F} {u : Unit} (e : (wr b y : M F Unit) h nx = .ok u h' nx' R W) : h' = h.set b y ∧ nx' = nx ∧ W = [b] := by
  unfold wr at e
  cases hg : h.get b with
  | none => rw [hg] at e; cases e
  | some z => rw [hg] at e; cases e; exact ⟨rfl, rfl, rfl⟩
theorem newRoom_ok {e : TypeId} {size k : Nat} {cs : List Value} (e1 : (newRoom e size k cs : M F Nxt) h nx = .ok x h' nx' R W) : h' = h.set nx (.room cs e) ∧ nx' = nx + 1 ∧ W = [] ∧ x = .val (vslice nx 0 k (capX * (size + 1) + k)) := by
  unfold newRoom at e1
  obtain ⟨m, h1, nx1, R1, W1, R2, W2, e2, e3, rfl, rfl⟩ := bind_ok e1
  obtain ⟨rfl, rfl, rfl, rfl⟩ := val_ok e3
  unfold fresh at e2
  cases e2
  exact ⟨rfl, rfl, rfl, rfl⟩
theorem moveO_ok {t tx ty e : TypeId} {i : TypeInfo} {z : Value} (ht : P.underlying t = some (.slice e)) (hi : P.info? e = some i) (hz : i.zero = some z) (hzs : z.cells.size = i.size) {b l n cc : Nat} {news news' : List Value} {x' : Value}
    (hs : Src P i.size tx x' n news' w) (hn : VsR r news news') (hf : roomB i.bytes (l + n) = true) (hC : C.hid = S.hn) (hG : C.G = S.G) (hcc : cc < l + n)
    (e1 : moveO C e i.size b l n cc news h nx = .ok x h' nx' R W) (hM : Mod S r h.get w) (hN : New r nx nx') {b' c' : Nat} (hb : r.blk b = some b') (h1 : cc ≤ c') (h2 : 0 + c' * i.size ≤ r.len b) :
    nx ≤ nx' ∧ ∃ u u' r' w', x = .val u ∧ (Builtin.append_ #[t, tx] ty #[vslice b' 0 l c', x']).run P w = .ok u' w' ∧ VR r' u u' ∧ Ext S r w nx nx' W h'.get r' w' := by
  unfold moveO at e1
  obtain ⟨y, g1, nx1, R1, W1, R2, W2, e2, e3, rfl, rfl⟩ := bind_ok e1
  obtain ⟨hg, rfl, rfl, rfl⟩ := rdAny_ok e2
  obtain ⟨hk, e4⟩ := cond_ok e3
  obtain ⟨u, g2, nx2, R3, W3, R4, W4, e5, e6, rfl, rfl⟩ := bind_ok e4
  obtain ⟨rfl, rfl, rfl⟩ := wr_ok e5
  obtain ⟨rfl, rfl, rfl, rfl⟩ := newRoom_ok e6
  simp only [Bool.and_eq_true] at hk
  obtain ⟨⟨⟨k1, k2⟩, k3, k4⟩, ⟨k5, k6⟩, k7⟩ := hk
  obtain ⟨cs, ty2, rm⟩ := y
  simp only at k1 k2 k3 k4 hg ⊢
  obtain rfl := Nat.eq_of_beq_eq_true k2
  have k3' := Nat.eq_of_beq_eq_true k3
  have k5' := Nat.le_of_ble_eq_true k5
  have k6' := Nat.le_of_ble_eq_true k6
  rw [show rm = true from k1] at hg
  have hmore : cs ≠ [] := fun q => by rw [q] at k4; cases k4
  obtain ⟨b3, cl, hb3, hh, hc, ht2, hroom⟩ := hM.room b cs ty2 hg
  obtain rfl : b3 = b' := by rw [hb] at hb3; injection hb3 with q; exact q.symm
  have hle : l * i.size ≤ cs.length := by rw [← k3']; exact Nat.mul_le_mul_right _ k5'
  have hpl := pre_len hc
  have holds : VsR r (cs.take (l * i.size)) (cl.take (l * i.size)) := by
    have := hc.take (l * i.size)
    rw [List.take_take, Nat.min_eq_left hle] at this; exact this
  have hol : (cs.take (l * i.size)).length = l * i.size := by rw [List.length_take]; omega
  have hol' : (cl.take (l * i.size)).length = l * i.size := by rw [List.length_take]; omega
  have hne0 : ∀ k, New r k (k + 1) → b ≠ k := fun k hN q => by have := (hN k (Nat.le_refl _) (Nat.lt_succ_self _)).1; rw [← q, hb] at this; cases this
  have hne := hne0 _ hN
  have hnl := hs.newsLen
  have hnl2 : news.length = n * i.size := by rw [← hn.length]; exact hnl
  refine ⟨Nat.le_succ _, ?_⟩
  by_cases hroom2 : l + n ≤ c'
  · have hbig : (l + n) * i.size ≤ cl.length := by
      have : (l + n) * i.size ≤ c' * i.size := Nat.mul_le_mul_right _ hroom2
      omega
    rw [Nat.add_mul] at hbig
    have hrun := run_storeCells_at P b3 (l * i.size) ty2 news' 0 ⟨cl⟩ w hh (by simp only [List.size_toArray]; omega) hs.one
    simp only [Nat.add_zero] at hrun
    have hd : VsR r (cs.take (l * i.size) ++ news) ((cl.take (l * i.size) ++ news' ++ cl.drop (l * i.size + news'.length)).take (cs.take (l * i.size) ++ news).length) := pre_more (holds.append hn) _
    obtain ⟨r', hX, hb2, hlr⟩ := ext_move (d := cs.take (l * i.size) ++ news) (d' := cl.take (l * i.size) ++ news' ++ cl.drop (l * i.size + news'.length)) hM hN hne hg hb hmore hd hh (by simp; omega) (by rw [← hG]; exact k6') (by rw [← hC]; simpa using k7)
      (w' := w.setRow b3 (cl.take (l * i.size) ++ news' ++ cl.drop (l * i.size + news'.length)).toArray) (by
        unfold World.setRow
        simp only
        apply Array.ext
        · simp
        · intro k h1 h2
          rw [Array.getElem_modify, Array.getElem_setIfInBounds]
          · by_cases hkk : b3 = k
            · subst hkk
              have := (Array.getElem?_eq_some_iff.1 hh).2
              simp [this]
            · simp [hkk]
          · simpa using h2) rfl rfl rfl
    refine ⟨_, _, r', _, rfl, run_room ht hi hs hroom2 (by rw [Nat.zero_add]; exact hrun), .slicex hb2 (fits_of hf hcc).2.2 hroom2 ?_, ?_⟩
    · rw [hlr]; simp only [List.length_append, List.length_take, List.length_drop]; omega
    · refine Ext.congr (by simpa using hX) fun k => .inr ?_
      rw [Tr.get_set, Tr.get_set]
  · obtain ⟨u', r', w', hrun, hu, hX⟩ := grow_ok (ty := ty) (a' := some ⟨b3, 0, none⟩) (c' := c') ht hi hz hzs hs hn holds hol (fun j u hj => by
        rw [add_off, Nat.zero_add]
        simp only [World.cell?, hh]
        rw [List.getElem?_take] at hj
        split at hj
        · simpa using hj
        · cases hj) (by omega) hf hM hN
    refine ⟨_, u', r', w', rfl, hrun, hu, ?_⟩
    have hK := hX.kill (n := b) (c := cs) (t := ty2) (by simp only [if_neg hne]; exact hg)
    refine Ext.congr (by simpa using hK) fun k => .inr ?_
    rw [Tr.get_set, Tr.get_set]
    (repeat' split) <;> first | rfl | (subst_vars; exact absurd rfl hne)
theorem appO_ok {t tx ty : TypeId} {v xx v' x' : Value} (e : appO P C t tx v xx h nx = .ok x h' nx' R W) (hC : C.hid = S.hn) (hG : C.G = S.G) (hM : Mod S r h.get w) (hN : New r nx nx') (hv : VR r v v') (hx : VR r xx x') :
    nx ≤ nx' ∧ ∃ u u' r' w', x = .val u ∧ (Builtin.append_ #[t, tx] ty #[v', x']).run P w = .ok u' w' ∧ VR r' u u' ∧ Ext S r w nx nx' W h'.get r' w' := by
  unfold appO at e
  cases ht : sliceT P t with
  | none => rw [ht] at e; simp [fail] at e
  | some el =>
    rw [ht] at e; simp only at e
    cases hz : eszT P el with
    | none => rw [hz] at e; simp [fail] at e
    | some q =>
      obtain ⟨size, bytes, zv⟩ := q
      rw [hz] at e; simp only at e
      obtain ⟨i, hi, hiz, rfl, rfl, hzs, -⟩ := eszT_of hz
      cases hs : sliceOf v with
      | none => rw [hs] at e; simp [fail] at e
      | some y =>
        obtain ⟨base, l, c⟩ := y
        rw [hs] at e; simp only at e
        obtain ⟨s, h1, nx1, R1, W1, R2, W2, e1, e2, rfl, rfl⟩ := bind_ok e
        obtain ⟨rfl, rfl, rfl, news', hsrc, hn⟩ := srcO_ok e1 hM hx
        obtain ⟨n, news⟩ := s
        simp only at e2 hsrc hn
        have hvs := sliceOf_of hs
        have hut := sliceT_of ht
        cases hbig : Nat.ble capX c with
        | true =>
          rw [hbig] at e2
          simp only [cond_true] at e2
          cases base with
          | none => simp [fail] at e2
          | some a =>
            obtain ⟨b, off⟩ := a
            simp only at e2
            obtain ⟨hsz, e3⟩ := cond_ok e2
            have hvs' : v = vslice b off l c := hvs
            rw [hvs'] at hv
            obtain ⟨b', c', hb, rfl, hcc⟩ := slice_cases hv
            have hge := Nat.le_of_ble_eq_true hbig
            rcases hcc with ⟨hlt, _⟩ | ⟨sz, c0, rfl, hc0, hle, hln⟩
            · omega
            have hdiv : Nat.div (capX * (sz + 1) + c0) capX = sz + 1 := by
              show (capX * (sz + 1) + c0) / capX = sz + 1
              unfold capX at hc0 ⊢; omega
            have hmod : Nat.mod (capX * (sz + 1) + c0) capX = c0 := by
              show (capX * (sz + 1) + c0) % capX = c0
              unfold capX at hc0 ⊢; omega
            rw [hdiv] at hsz
            have hsz' : sz = i.size := by have := Nat.eq_of_beq_eq_true hsz; omega
            subst hsz'
            rw [hmod] at e3
            cases hrm : Nat.ble (l + n) c0 with
            | true =>
              rw [hrm] at e3
              simp only [cond_true] at e3
              have hrm' := Nat.le_of_ble_eq_true hrm
              obtain ⟨q1, u, u', w', q2, q3, q4, q5⟩ := roomO_ok (ty := ty) hut hi rfl hsrc hn e3 hG hC hM hb rfl (by omega) (fun k => .slicex hb hc0 hle hln)
              exact ⟨q1, u, u', r, w', q2, q3, q4, q5⟩
            | false =>
              rw [hrm] at e3
              simp only [cond_false] at e3
              have hrm' : c0 < l + n := by
                rcases Nat.lt_or_ge c0 (l + n) with q | q
                · exact q
                · rw [Nat.ble_eq_true_of_le q] at hrm; cases hrm
              obtain ⟨hk, e4⟩ := cond_ok e3
              simp only [Bool.and_eq_true] at hk
              obtain ⟨k1, k3⟩ := hk
              obtain rfl := Nat.eq_of_beq_eq_true k1
              obtain ⟨q1, q⟩ := moveO_ok (ty := ty) hut hi hiz hzs hsrc hn k3 hC hG hrm' e4 hM hN hb hle hln
              exact ⟨q1, by simpa using q⟩
        | false =>
          rw [hbig] at e2
          simp only [cond_false] at e2
          have hlt : c < capX := by
            rcases Nat.lt_or_ge c capX with q | q
            · exact q
            · rw [Nat.ble_eq_true_of_le q] at hbig; cases hbig
          cases hrm : Nat.ble (l + n) c with
          | true =>
            rw [hrm] at e2
            simp only [cond_true] at e2
            have hrm' := Nat.le_of_ble_eq_true hrm
            cases base with
            | none =>
              simp only at e2
              obtain ⟨hk, e3⟩ := cond_ok e2
              obtain ⟨rfl, rfl, rfl, rfl⟩ := val_ok e3
              obtain rfl := Nat.eq_of_beq_eq_true hk
              have hv0 := hv
              rw [hvs] at hv0
              obtain rfl := VR.nilslc hv0
              exact ⟨Nat.le_refl _, v, _, r, w, rfl, run_room_nil hut hi hsrc (by omega), hv, by simpa using Ext.refl _ _ hM⟩
            | some a =>
              obtain ⟨b, off⟩ := a
              simp only at e2
              have hvs' : v = vslice b off l c := hvs
              rw [hvs'] at hv
              obtain ⟨b', c', hb, rfl, hcc⟩ := slice_cases hv
              rcases hcc with ⟨_, rfl⟩ | ⟨sz, c0, rfl, hc0, hle, hln⟩
              · obtain ⟨q1, u, u', w', q2, q3, q4, q5⟩ := roomO_ok (ty := ty) hut hi rfl hsrc hn e2 hG hC hM hb rfl hrm' (fun k => .slice hb hlt)
                exact ⟨q1, u, u', r, w', q2, q3, q4, q5⟩
              · have : capX * (sz + 1) = capX * sz + capX := Nat.mul_succ _ _
                omega
          | false =>
            rw [hrm] at e2
            simp only [cond_false] at e2
            have hrm' : c < l + n := by
              rcases Nat.lt_or_ge c (l + n) with q | q
              · exact q
              · rw [Nat.ble_eq_true_of_le q] at hrm; cases hrm
            obtain ⟨hk, e3⟩ := cond_ok e2
            obtain ⟨olds, g1, nx2, R3, W3, R4, W4, e4, e5, rfl, rfl⟩ := bind_ok e3
            rw [hvs] at hv
            have hv2 := hv
            obtain ⟨rfl, rfl, rfl, hol, a', c', olds', rfl, g2, g3, g4⟩ := rowsO_ok e4 hM hv
            obtain ⟨rfl, rfl, rfl, rfl⟩ := newRoom_ok e5
            have hcc : c' = c := by
              cases base with
              | none => have := VR.nilslc hv2; injection this
              | some a =>
                obtain ⟨b, off⟩ := a
                obtain ⟨b', c2, hb, hq, hcc⟩ := slice_cases (show VR r (vslice b off l c) _ from hv2)
                injection hq with _ _ hq
                rcases hcc with ⟨_, q⟩ | ⟨sz, c0, q, hc0, hle, hln⟩
                · omega
                · have : capX * (sz + 1) = capX * sz + capX := Nat.mul_succ _ _
                  omega
            subst hcc
            obtain ⟨u', r', w', q1, q2, q3⟩ := grow_ok (ty := ty) hut hi hiz hzs hsrc hn g2 hol g4 hrm' hk hM hN
            refine ⟨Nat.le_succ _, _, u', r', w', rfl, q1, q2, ?_⟩
            refine Ext.congr (by simpa using q3) fun k => .inr ?_
            rw [Tr.get_set]
theorem decN_of {o o' : Option Value} {m : Option Nat} (hd : decN o = some m) (hr : ∀ v, o = some v → ∃ v', o' = some v' ∧ VR r v v') (hn : o = none → o' = none) :
    (m = none ∧ o' = none) ∨ ∃ k n, m = some n ∧ o' = some (.int k (n : Nat)) := by
  cases o with
  | none => cases hd; exact .inl ⟨rfl, hn rfl⟩
  | some v =>
    obtain ⟨v', rfl, hv⟩ := hr v rfl
    unfold decN at hd
    simp only at hd
    cases hv2 : natVal v with
    | none => rw [hv2] at hd; cases hd
    | some n =>
      rw [hv2] at hd
      cases hd
      obtain ⟨k, rfl⟩ := natVal_of hv2
      exact .inr ⟨k, n, rfl, by rw [hv.int]⟩
theorem run_bound (k : IntKind) (n y : Nat) (code : BoundsCode) (hy : n ≤ y) (w : World) : (Instr.sliceBound (.int k (n : Nat)) y code).run P w = .ok n w := by
  rw [run_sliceBound w k (n : Int) y code (by omega) (by omega)]
  simp
theorem run_bounds {len cap : Nat} {lo hi mx : Option Nat} {lo' hi' mx' : Option Value} (h1 : (lo = none ∧ lo' = none) ∨ ∃ k n, lo = some n ∧ lo' = some (.int k (n : Nat))) (h2 : (hi = none ∧ hi' = none) ∨ ∃ k n, hi = some n ∧ hi' = some (.int k (n : Nat)))
    (h3 : (mx = none ∧ mx' = none) ∨ ∃ k n, mx = some n ∧ mx' = some (.int k (n : Nat))) (hmh : hi = none → mx = none) (a1 : orN lo 0 ≤ orN hi len) (a2 : orN hi len ≤ orN mx cap) (a3 : orN mx cap ≤ cap) (w : World) :
    (Instr.sliceBounds true len cap lo' hi' mx').run P w = .ok (orN lo 0, orN hi len, orN mx cap) w := by
  rcases h1 with ⟨rfl, rfl⟩ | ⟨k1, l, rfl, rfl⟩ <;> rcases h2 with ⟨rfl, rfl⟩ | ⟨k2, hh, rfl, rfl⟩ <;> rcases h3 with ⟨rfl, rfl⟩ | ⟨k3, m, rfl, rfl⟩ <;> simp only [orN] at a1 a2 a3 ⊢ <;>
    first
      | (cases hmh rfl; done)
      | (simp only [Instr.sliceBounds, Sem.run_bind, Sem.run_pure, Result.andThen_ok, run_bound _ _ _ _ a1, run_bound _ _ _ _ a2, run_bound _ _ _ _ a3]; done)
theorem run_cut {t e s : Nat} (ht : P.underlying t = some (.slice e)) (hs : sizeT P e = some s) {a : Option Addr} {len cap l h m : Nat} {lo' hi' mx' : Option Value} {w : World} (hb : (Instr.sliceBounds true len cap lo' hi' mx').run P w = .ok (l, h, m) w) :
    (Instr.sliceAt t (.slice a len cap) lo' hi' mx').run P w = .ok (.slice (if m = l then a else a.map (·.add (l * s))) (h - l) (m - l)) w := by
  simp [Instr.sliceAt, Instr.slice, run_underlying ht, hb, size_of hs]
theorem cutO_ok {s b off l hh m : Nat} {b' : Nat} (e : (cutO s b off l hh m : M F Nxt) h nx = .ok x h' nx' R W) (hb : r.blk b = some b') (hm : m < capX) :
    l ≤ hh ∧ hh ≤ m ∧ ∃ v, x = .val v ∧ VR r v (.slice (if m = l then some ⟨b', off, none⟩ else (some (⟨b', off, none⟩ : Addr)).map (·.add (l * s))) (hh - l) (m - l)) ∧ h' = h ∧ nx' = nx ∧ W = [] := by
  obtain ⟨hk, e2⟩ := cond_ok e
  obtain ⟨rfl, hsame⟩ := val_ok e2
  simp only [Bool.and_eq_true] at hk
  refine ⟨Nat.le_of_ble_eq_true hk.1, Nat.le_of_ble_eq_true hk.2, _, rfl, ?_, hsame⟩
  by_cases hml : m = l
  · rw [if_pos hml, show Nat.beq m l = true from by rw [hml]; exact Nat.beq_refl l]
    exact .slice hb (by omega)
  · rw [if_neg hml, show Nat.beq m l = false from by cases hq : Nat.beq m l with
      | false => rfl
      | true => exact absurd (Nat.eq_of_beq_eq_true hq) hml]
    simp only [cond_false, Option.map_some, add_off]
    exact .slice hb (by omega)
theorem slcO_ok {t : TypeId} {v v' : Value} {lo hi mx lo' hi' mx' : Option Value} (e : (slcO P t v lo hi mx : M F Nxt) h nx = .ok x h' nx' R W) (hv : VR r v v')
    (hl : ∀ v, lo = some v → ∃ v', lo' = some v' ∧ VR r v v') (hl0 : lo = none → lo' = none) (hh : ∀ v, hi = some v → ∃ v', hi' = some v' ∧ VR r v v') (hh0 : hi = none → hi' = none) (hm : ∀ v, mx = some v → ∃ v', mx' = some v' ∧ VR r v v') (hm0 : mx = none → mx' = none) :
    Just P r w x (Instr.sliceAt t v' lo' hi' mx') (h' = h ∧ nx' = nx ∧ W = []) := by
  unfold slcO at e
  cases ht : sliceT P t with
  | none => rw [ht] at e; simp [fail] at e
  | some el =>
    rw [ht] at e; simp only at e
    cases hs : sizeT P el with
    | none => rw [hs] at e; simp [fail] at e
    | some s =>
      rw [hs] at e; simp only at e
      cases hsl : sliceOf v with
      | none => rw [hsl] at e; simp [fail] at e
      | some y =>
        obtain ⟨base, n, c⟩ := y
        rw [hsl] at e; simp only at e
        cases base with
        | none => simp [fail] at e
        | some a =>
          obtain ⟨b, off⟩ := a
          simp only at e
          have hvs' : v = vslice b off n c := sliceOf_of hsl
          rw [hvs'] at hv
          obtain ⟨b', c', hb, rfl, hcc⟩ := slice_cases hv
          cases d1 : decN lo with
          | none => rw [d1] at e; simp [fail] at e
          | some lon =>
            rw [d1] at e; simp only at e
            cases d2 : decN hi with
            | none => rw [d2] at e; simp [fail] at e
            | some hin =>
              rw [d2] at e; simp only at e
              cases d3 : decN mx with
              | none => rw [d3] at e; simp [fail] at e
              | some mxn =>
                rw [d3] at e; simp only at e
                have k1 := decN_of d1 hl hl0
                have k2 := decN_of d2 hh hh0
                have k3 := decN_of d3 hm hm0
                have hut := sliceT_of ht
                unfold slcA at e
                cases mxn with
                | some m =>
                  simp only at e
                  obtain ⟨hk, e2⟩ := cond_ok e
                  cases hin with
                  | none => simp [fail] at e2
                  | some hn =>
                    simp only at e2
                    obtain ⟨hk2, e3⟩ := cond_ok e2
                    have hmx : m < capX := by have := Nat.le_of_ble_eq_true hk2; unfold capX at this ⊢; omega
                    obtain ⟨b1, b2, u, rfl, hu, hsame⟩ := cutO_ok e3 hb hmx
                    have hmc : m ≤ c' := by
                      rcases hcc with ⟨hlt, rfl⟩ | ⟨sz, c0, rfl, hc0, hle, hln⟩
                      · have hb0 : Nat.ble capX c' = false := by
                          cases hq : Nat.ble capX c' with
                          | false => rfl
                          | true => have := Nat.le_of_ble_eq_true hq; omega
                        rw [hb0] at hk; exact Nat.le_of_ble_eq_true hk
                      · have hmod : Nat.mod (capX * (sz + 1) + c0) capX = c0 := by
                          show (capX * (sz + 1) + c0) % capX = c0
                          unfold capX at hc0 ⊢; omega
                        have hb0 : Nat.ble capX (capX * (sz + 1) + c0) = true := Nat.ble_eq_true_of_le (by unfold capX; omega)
                        rw [hb0, hmod] at hk
                        have := Nat.le_of_ble_eq_true (show Nat.ble m c0 = true from hk)
                        omega
                    exact ⟨u, _, rfl, run_cut hut hs (run_bounds k1 k2 k3 (fun q => by cases q) b1 b2 hmc w), hu, hsame⟩
                | none =>
                  simp only at e
                  rcases hcc with ⟨hlt, rfl⟩ | ⟨sz, c0, rfl, hc0, hle, hln⟩
                  · have hb0 : Nat.ble capX c' = false := by
                      cases hq : Nat.ble capX c' with
                      | false => rfl
                      | true => have := Nat.le_of_ble_eq_true hq; omega
                    rw [hb0] at e
                    simp only [cond_false] at e
                    obtain ⟨b1, b2, u, rfl, hu, hsame⟩ := cutO_ok e hb hlt
                    exact ⟨u, _, rfl, run_cut hut hs (run_bounds k1 k2 k3 (fun _ => rfl) b1 b2 (Nat.le_refl _) w), hu, hsame⟩
                  · have hdiv : Nat.div (capX * (sz + 1) + c0) capX = sz + 1 := by
                      show (capX * (sz + 1) + c0) / capX = sz + 1
                      unfold capX at hc0 ⊢; omega
                    have hmod : Nat.mod (capX * (sz + 1) + c0) capX = c0 := by
                      show (capX * (sz + 1) + c0) % capX = c0
                      unfold capX at hc0 ⊢; omega
                    have hb0 : Nat.ble capX (capX * (sz + 1) + c0) = true := Nat.ble_eq_true_of_le (by unfold capX; omega)
                    rw [hb0, hmod, hdiv] at e
                    simp only [cond_true] at e
                    obtain ⟨hk, e2⟩ := cond_ok e
                    simp only [Bool.and_eq_true] at hk
                    obtain ⟨⟨q1, q2⟩, q3⟩ := hk
                    have hsz : sz = s := by have := Nat.eq_of_beq_eq_true q1; omega
                    subst hsz
                    have q2' := Nat.le_of_ble_eq_true q2
                    have q3' := Nat.le_of_ble_eq_true q3
                    have hrun : (Instr.sliceAt t (vslice b' off n c') lo' hi' mx').run P w = .ok (.slice (if c' = orN lon 0 then some ⟨b', off, none⟩ else (some (⟨b', off, none⟩ : Addr)).map (·.add (orN lon 0 * sz))) (orN hin n - orN lon 0) (c' - orN lon 0)) w :=
                      run_cut (a := some ⟨b', off, none⟩) hut hs (run_bounds (P := P) (len := n) (cap := c') k1 k2 k3 (fun _ => rfl) q2' (show orN hin n ≤ c' by omega) (Nat.le_refl _) w)
                    generalize orN lon 0 = L at *
                    generalize orN hin n = H at *
                    cases hz : Nat.beq L 0 with
                    | true =>
                      rw [hz] at e2
                      obtain ⟨rfl, hsame⟩ := val_ok e2
                      have hz0 := Nat.eq_of_beq_eq_true hz
                      subst hz0
                      refine ⟨_, _, rfl, hrun, ?_, hsame⟩
                      simp only [Nat.zero_mul, Option.map_some, add_off, Nat.add_zero, ite_self, Nat.sub_zero]
                      exact .slicex hb hc0 hle hln
                    | false =>
                      rw [hz] at e2
                      simp only [cond_false] at e2
                      obtain ⟨hk, e3⟩ := cond_ok e2
                      obtain ⟨rfl, hsame⟩ := val_ok e3
                      have hk' : L < c0 := Nat.le_of_ble_eq_true hk
                      refine ⟨_, _, rfl, hrun, ?_, hsame⟩
                      have hne : ¬ c' = L := by omega
                      rw [if_neg hne]
                      simp only [Option.map_some, add_off]
                      have e4 : capX * (sz + 1) + c0 - L = capX * (sz + 1) + (c0 - L) := by omega
                      unfold vslice
                      rw [e4]
                      refine .slicex hb (by omega) (by omega) ?_
                      have : (c' - L) * sz + L * sz = c' * sz := by rw [← Nat.add_mul]; congr 1; omega
                      omega
theorem copO_ok {t tx ty : TypeId} {v xx v' x' : Value} (e : copO P C t tx v xx h nx = .ok x h' nx' R W) (hG : C.G = S.G) (hC : C.hid = S.hn) (hM : Mod S r h.get w) (hv : VR r v v') (hx : VR r xx x') :
    nx ≤ nx' ∧ ∃ u u' w', x = .val u ∧ (Builtin.copy_ #[t, tx] ty #[v', x']).run P w = .ok u' w' ∧ VR r u u' ∧ Ext S r w nx nx' W h'.get r w' := by
  unfold copO at e
  cases ht : sliceT P t with
  | none => rw [ht] at e; simp [fail] at e
  | some el =>
    rw [ht] at e; simp only at e
    cases hs : sizeT P el with
    | none => rw [hs] at e; simp [fail] at e
    | some s =>
      rw [hs] at e; simp only at e
      cases hsl : sliceOf v with
      | none => rw [hsl] at e; simp [fail] at e
      | some y =>
        obtain ⟨base, n, c⟩ := y
        rw [hsl] at e; simp only at e
        cases hsx : sliceOf xx with
        | none => rw [hsx] at e; simp [fail] at e
        | some z =>
          obtain ⟨base2, n2, c2⟩ := z
          rw [hsx] at e; simp only at e
          obtain ⟨l, h1, nx1, R1, W1, R2, W2, e1, e2, rfl, rfl⟩ := bind_ok e
          rw [sliceOf_of hsx] at hx
          obtain ⟨rfl, rfl, rfl, hl, a', c', l', rfl, g1, g2, g3⟩ := rowsO_ok e1 hM hx
          have hut := sliceT_of ht
          have hfc : (Builtin.firstCells s (Nat.min n2 n) (.slice a' n2 c')).run P w = .ok l'.toArray w := by
            cases a' with
            | none => obtain ⟨g4, rfl⟩ := g3; exact run_firstCells_none w s _ n2 c'
            | some a => exact run_firstCells_some w s _ a n2 c' l' (by rw [g1.length, hl]) g3
          have hv0 := hv
          rw [sliceOf_of hsl] at hv0
          cases hz : Nat.beq (Nat.min n2 n) 0 with
          | true =>
            rw [hz] at e2
            obtain ⟨rfl, rfl, rfl, rfl⟩ := val_ok e2
            have h0 := Nat.eq_of_beq_eq_true hz
            have hl0 : l' = [] := List.length_eq_zero_iff.1 (by rw [g1.length, hl, h0, Nat.zero_mul])
            subst hl0
            have h0' : min n2 n = 0 := h0
            refine ⟨Nat.le_refl _, _, vint 0, w, rfl, ?_, .same rfl, by simpa using Ext.refl _ _ hM⟩
            cases base with
            | none =>
              obtain rfl := VR.nilslc hv0
              simp only [h0] at hfc
              simp [Builtin.copy_, run_underlying hut, Builtin.lenOf, size_of hs, h0, h0', hfc, goInt, vint]
            | some a =>
              obtain ⟨b, off⟩ := a
              obtain ⟨b', cc, hb, rfl, -⟩ := slice_cases (b := b) (off := off) hv0
              simp only [h0] at hfc
              simp [Builtin.copy_, run_underlying hut, Builtin.lenOf, size_of hs, vslice, h0, h0', hfc, goInt, vint, run_store_none]
          | false =>
            rw [hz] at e2
            simp only [cond_false] at e2
            cases base with
            | none => simp [fail] at e2
            | some a =>
              obtain ⟨b, off⟩ := a
              simp only at e2
              obtain ⟨b', cc, hb, rfl, -⟩ := slice_cases (b := b) (off := off) hv0
              obtain ⟨u, h2, nx2, R3, W3, R4, W4, e3, e4, rfl, rfl⟩ := bind_ok e2
              obtain ⟨rfl, rfl, rfl, rfl⟩ := val_ok e4
              obtain ⟨rfl, w', hrun, hX⟩ := storeAt_ok (P := P) e3 hG hC hM hb g1
              refine ⟨Nat.le_refl _, _, vint (Nat.min n2 n), w', rfl, ?_, .same rfl, by simpa using hX⟩
              have hr := hrun ()
              simp [Builtin.copy_, run_underlying hut, Builtin.lenOf, size_of hs, vslice, hfc, hr, goInt, vint]
theorem twoM_ok {α : Type} {l : List α} {x : α × α} (h : twoM l = some x) : l = [x.1, x.2] := by
  unfold twoM at h
  (repeat' split at h) <;> first | (cases h; done) | (cases h; rfl)
theorem oneM_ok {α : Type} {l : List α} {x : α} (h : oneM l = some x) : l = [x] := by
  unfold oneM at h
  (repeat' split at h) <;> first | (cases h; done) | (cases h; rfl)
theorem capO_ok {t ty : TypeId} {v v' : Value} (e : (capO P t v : M F Nxt) h nx = .ok x h' nx' R W) (hv : VR r v v') : h' = h ∧ nx' = nx ∧ W = [] ∧ ∃ u, x = .val u ∧ (Builtin.cap_ #[t] ty #[v']).run P w = .ok u w ∧ VR r u u := by
  unfold capO at e
  cases ht : sliceT P t with
  | none => rw [ht] at e; simp [fail] at e
  | some el =>
    rw [ht] at e; simp only at e
    cases hs : sliceOf v with
    | none => rw [hs] at e; simp [fail] at e
    | some y =>
      obtain ⟨base, n, c⟩ := y
      rw [hs] at e; simp only at e
      obtain ⟨hk, e⟩ := cond_ok e
      obtain ⟨rfl, rfl, rfl, rfl⟩ := val_ok e
      have hlt : c < capX := Nat.le_of_ble_eq_true hk
      rw [sliceOf_of hs] at hv
      have key : ∃ a', v' = .slice a' n c := by
        cases base with
        | none => obtain rfl := VR.nilslc hv; exact ⟨none, rfl⟩
        | some z =>
          obtain ⟨b, off⟩ := z
          obtain ⟨b', c', hb, rfl, hcc⟩ := slice_cases (b := b) (off := off) hv
          rcases hcc with ⟨_, rfl⟩ | ⟨sz, c0, q, _⟩
          · exact ⟨_, rfl⟩
          · have : capX * (sz + 1) = capX * sz + capX := Nat.mul_succ _ _
            have q' : c = capX * (sz + 1) + c0 := q
            rw [q'] at hlt
            exact absurd hlt (by omega)
      obtain ⟨a', rfl⟩ := key
      exact ⟨rfl, rfl, rfl, vint c, rfl, by simp [Builtin.cap_, run_underlying (sliceT_of ht), goInt, vint], .same rfl⟩
theorem isNil0_of {v : Value} (h : isNil0 v = true) : v = .slice none 0 0 := by
  unfold isNil0 at h
  (repeat' split at h) <;> first | (cases h; done) | skip
  simp only [Bool.and_eq_true] at h
  rw [Nat.eq_of_beq_eq_true h.1, Nat.eq_of_beq_eq_true h.2]
theorem isIntT_of {t : TypeId} (h : isIntTm P t = true) : ∃ k, P.underlying t = some (.int k) := by
  unfold isIntTm at h
  split at h
  · rename_i d hd
    cases d with
    | int k => exact ⟨k, hd⟩
    | _ => cases h
  · cases h
theorem run_append_zeros {t tx ty e : TypeId} {k kx : IntKind} {i : TypeInfo} {z : Value} (ht : P.underlying t = some (.slice e)) (hk : P.underlying tx = some (.int k)) (hi : P.info? e = some i) (hz : i.zero = some z) (hzs : z.cells.size = i.size) (n : Nat) (h0 : 0 < n) (hf : roomB i.bytes n = true) :
    (Builtin.append_ #[t, tx] ty #[.slice none 0 0, .int kx (n : Nat)]).run P w = .ok (.slice (some ⟨w.heap.size, 0, none⟩) n (grownCap w n 0 e))
      (w.drew.alloc (.cells (Builtin.zeroCells z.cells n ++ Builtin.zeroCells z.cells (grownCap w n 0 e - n)) e)) := by
  unfold roomB at hf
  simp only [Bool.and_eq_true] at hf
  have h1 := Nat.le_of_ble_eq_true hf.1
  have h2 := Nat.le_of_ble_eq_true hf.2
  have hw : IntKind.i64.wrap (n : Int) = (n : Int) := by rw [IntKind.wrap_i64]; omega
  have hn : n ≠ 0 := by omega
  have hneg : ¬ ((n : Int) < 0) := by omega
  have hb : ¬ (281474976710656 < (n : Int) * (i.bytes : Int)) := by
    have : (n : Int) * (i.bytes : Int) = ((n * i.bytes : Nat) : Int) := by simp
    rw [this]; omega
  have h63' : ¬ (9223372036854775807 < (n : Int)) := by omega
  have h48' : ¬ (281474976710656 < Builtin.nextslicecap n 0 * i.bytes) := by rw [nextslicecap_zero h0]; omega
  by_cases hs : i.size = 0
  · have hze : ∀ m, Builtin.zeroCells z.cells m = #[] := fun m => Array.eq_empty_of_size_eq_zero (by rw [zero_len, hzs, hs, Nat.mul_zero])
    simp [Builtin.append_, run_underlying ht, run_underlying hk, sizeOf, typeInfo, zeroValue, hi, hz, asInt, asIntOf, hw, hn, hneg, hb, h63', h48', Question.forced, run_firstCells_none, newRow, grownCap, hs, hze]
  · have hns : ¬ (n * i.size = 0) := fun q => by rcases Nat.mul_eq_zero.1 q with q | q <;> omega
    simp [Builtin.append_, run_underlying ht, run_underlying hk, sizeOf, typeInfo, zeroValue, hi, hz, asInt, asIntOf, hw, hn, hneg, hb, h63', h48', Question.forced, run_firstCells_none, newRow, grownCap, hs]
    exact fun q => absurd q hns
theorem zerO_ok {t tx ty : TypeId} {n : Nat} {kx : IntKind} {v v' : Value} (e : (zerO P t tx v n : M F Nxt) h nx = .ok x h' nx' R W) (hM : Mod S r h.get w) (hN : New r nx nx') (hv : VR r v v') :
    nx ≤ nx' ∧ ∃ u u' r' w', x = .val u ∧ (Builtin.append_ #[t, tx] ty #[v', .int kx (n : Nat)]).run P w = .ok u' w' ∧ VR r' u u' ∧ Ext S r w nx nx' W h'.get r' w' := by
  unfold zerO at e
  cases ht : sliceT P t with
  | none => rw [ht] at e; simp [fail] at e
  | some el =>
    rw [ht] at e; simp only at e
    cases hz : eszT P el with
    | none => rw [hz] at e; simp [fail] at e
    | some q =>
      obtain ⟨size, bytes, zv⟩ := q
      rw [hz] at e; simp only at e
      obtain ⟨i, hi, hiz, rfl, rfl, hzs, hzp⟩ := eszT_of hz
      obtain ⟨hk, e2⟩ := cond_ok e
      simp only [Bool.and_eq_true] at hk
      obtain ⟨⟨k1, k2⟩, k3, k4⟩ := hk
      obtain rfl := isNil0_of k1
      obtain rfl := VR.nilslc hv
      obtain ⟨k, hik⟩ := isIntT_of k2
      obtain ⟨rfl, rfl, rfl, rfl⟩ := newRoom_ok e2
      have h0 := Nat.le_of_ble_eq_true k3
      have hrun := run_append_zeros (w := w) (ty := ty) (kx := kx) (sliceT_of ht) hik hi hiz hzs n h0 k4
      have hge := grownCap_ge w n 0 el
      have hpl : VsR r (Builtin.zeroCells zv.cells n).toList (Builtin.zeroCells zv.cells n).toList := range_plain zv hzp (n * zv.cells.size)
      have hlen : (Builtin.zeroCells zv.cells n ++ Builtin.zeroCells zv.cells (grownCap w n 0 el - n)).size = grownCap w n 0 el * i.size := by
        rw [Array.size_append, zero_len, zero_len, hzs, ← Nat.add_mul]
        congr 1; omega
      have hcells : (Builtin.zeroCells zv.cells n ++ Builtin.zeroCells zv.cells (grownCap w n 0 el - n)) = ⟨(Builtin.zeroCells zv.cells n).toList ++ (Builtin.zeroCells zv.cells (grownCap w n 0 el - n)).toList⟩ := by
        apply Array.ext'
        simp
      obtain ⟨r', hX, hb, hlr⟩ := ext_new (w0 := w.drew) (x := .room (Builtin.zeroCells zv.cells n).toList el) (c' := (Builtin.zeroCells zv.cells n).toList ++ (Builtin.zeroCells zv.cells (grownCap w n 0 el - n)).toList) hM hN rfl rfl rfl rfl (.inr ⟨_, rfl, pre_more hpl _⟩)
      have hcx : n < capX := by
        unfold roomB at k4
        simp only [Bool.and_eq_true] at k4
        have := Nat.le_of_ble_eq_true k4.2
        unfold capX; omega
      refine ⟨Nat.le_succ _, _, _, r', _, rfl, hrun, .slicex hb hcx hge ?_, ?_⟩
      · rw [hlr, Nat.zero_add, ← hlen, hcells]
        simp
      · rw [hcells]
        simpa using hX.congr fun n => .inr (Tr.get_set _ _ _ _)
theorem isPtrT_ok {t : TypeId} (e : isPtrT P t = true) : P.underlying t = some (.pointer (P.pointee t)) := by
  unfold isPtrT at e
  cases h : P.underlying t with
  | none => rw [h] at e; cases e
  | some d =>
    rw [h] at e
    cases d <;> first | (cases e; done) | skip
    simp [Program.pointee, h]
theorem nilP_ok {op : BinOp} {t : TypeId} {p q : Operand} {u v u' v' : Value} (e : (nilP P op t u v : M F Nxt) h nx = .ok x h' nx' R W) (hu : VR r u u') (hv : VR r v v') :
    h' = h ∧ nx' = nx ∧ W = [] ∧ ∃ b : Bool, x = .val (.bool b) ∧ (do eqGuard op t p q u' v'; binOp op t u' v' : Sem Value).run P w = .ok (.bool b) w := by
  unfold nilP at e
  obtain ⟨hk, e⟩ := cond_ok e
  have ht := isPtrT_ok hk
  cases u with
  | pointer a =>
    cases v with
    | pointer b =>
      cases b with
      | some _ => simp [fail] at e
      | none =>
        obtain rfl := hv.eq_of_plain rfl
        have key : ∃ a', u' = .pointer a' ∧ a'.isNone = a.isNone := by
          cases hu with
          | same hp => exact ⟨_, rfl, rfl⟩
          | ptr _ => exact ⟨_, rfl, rfl⟩
        obtain ⟨a', rfl, hn⟩ := key
        have he : (Op.equal t (.pointer a') (.pointer none)).run P w = .ok a.isNone w := by
          rw [← hn]
          exact run_equal_pointer_nil w t a' ht
        cases op with
        | eql =>
          obtain ⟨rfl, rfl, rfl, rfl⟩ := val_ok e
          refine ⟨rfl, rfl, rfl, _, rfl, ?_⟩
          rw [Sem.run_bind]
          simp [eqGuard, binOp, he]
        | neq =>
          obtain ⟨rfl, rfl, rfl, rfl⟩ := val_ok e
          refine ⟨rfl, rfl, rfl, _, rfl, ?_⟩
          rw [Sem.run_bind]
          simp [eqGuard, binOp, he]
        | _ => simp [fail] at e
    | _ => simp [fail] at e
  | _ => simp [fail] at e
theorem nilH_ok {op : BinOp} {t : TypeId} {p q : Operand} {u v u' v' : Value} (e : (nilH P op t [u, v] : M F Nxt) h nx = .ok x h' nx' R W) (hu : VR r u u') (hv : VR r v v') :
    h' = h ∧ nx' = nx ∧ W = [] ∧ ∃ b : Bool, x = .val (.bool b) ∧ (do eqGuard op t p q u' v'; binOp op t u' v' : Sem Value).run P w = .ok (.bool b) w := by
  unfold nilH at e
  rw [show twoM [u, v] = some (u, v) from rfl] at e
  simp only at e
  cases ht : sliceT P t with
  | none => rw [ht] at e; exact nilP_ok e hu hv
  | some el =>
    rw [ht] at e; simp only at e
    cases hs : sliceOf u with
    | none => rw [hs] at e; simp [fail] at e
    | some y =>
      obtain ⟨base, n, c⟩ := y
      rw [hs] at e; simp only at e
      obtain ⟨hk, e⟩ := cond_ok e
      obtain rfl := isNil0_of hk
      obtain rfl := VR.nilslc hv
      rw [sliceOf_of hs] at hu
      have key : ∃ a' c', u' = .slice a' n c' ∧ a'.isNone = base.isNone := by
        cases base with
        | none => obtain rfl := VR.nilslc hu; exact ⟨none, c, rfl, rfl⟩
        | some z =>
          obtain ⟨b, off⟩ := z
          obtain ⟨b', c', hb, rfl, -⟩ := slice_cases (b := b) (off := off) hu
          exact ⟨_, c', rfl, rfl⟩
      obtain ⟨a', c', rfl, hn⟩ := key
      have he : (Op.equal t (.slice a' n c') (.slice none 0 0)).run P w = .ok base.isNone w := by
        rw [← hn]
        exact run_equalIn_slice_nil w 9999 t el a' n c' (sliceT_of ht)
      cases op with
      | eql =>
        obtain ⟨rfl, rfl, rfl, rfl⟩ := val_ok e
        refine ⟨rfl, rfl, rfl, _, rfl, ?_⟩
        rw [Sem.run_bind]
        simp [eqGuard, binOp, he]
      | neq =>
        obtain ⟨rfl, rfl, rfl, rfl⟩ := val_ok e
        refine ⟨rfl, rfl, rfl, _, rfl, ?_⟩
        rw [Sem.run_bind]
        simp [eqGuard, binOp, he]
      | _ => simp [fail] at e
theorem byteInts_ok : ∀ {l : List Value} {ns : List Int}, byteInts l = some ns → l = ns.map (Value.int .u8)
  | [], ns, h => by cases h; rfl
  | v :: l, ns, h => by
    unfold byteInts at h
    cases hv : byteN v with
    | none => rw [hv] at h; cases h
    | some n =>
      rw [hv] at h; simp only at h
      cases hl : byteInts l with
      | none => rw [hl] at h; cases h
      | some m =>
        rw [hl] at h; cases h
        have : v = .int .u8 n := by
          unfold byteN at hv
          (repeat' split at hv) <;> first | (cases hv; done) | (cases hv; rfl)
        rw [this, byteInts_ok hl]; rfl
theorem push_bytes : ∀ (ns : List Int) (s : ByteArray), ns.foldl (fun r n => r.push (UInt8.ofNat n.toNat)) s = ⟨s.data ++ (ns.map fun n => UInt8.ofNat n.toNat).toArray⟩
  | [], s => by simp
  | n :: ns, s => by
    rw [List.foldl_cons, push_bytes ns]
    simp [ByteArray.push]
theorem isByteT_of {t : TypeId} (h : isByteTm P t = true) : P.underlying t = some (.int .u8) := by
  unfold isByteTm at h
  (repeat' split at h) <;> first | (cases h; done) | assumption
theorem plain_bytes : ∀ ns : List Int, plainL plain (ns.map (Value.int .u8)) = true
  | [] => rfl
  | _ :: ns => by simp only [List.map_cons, plainL, Bool.and_eq_true]; exact ⟨rfl, plain_bytes ns⟩
theorem strO_ok {src dst : TypeId} {v v' : Value} (e : strO P src dst v h nx = .ok x h' nx' R W) (hM : Mod S r h.get w) (hv : VR r v v') :
    h' = h ∧ nx' = nx ∧ W = [] ∧ ∃ s, x = .val (.string s) ∧ (convert src dst v').run P w = .ok (.string s) w := by
  unfold strO at e
  cases ht : sliceT P src with
  | none => rw [ht] at e; simp [fail] at e
  | some el =>
    rw [ht] at e; simp only at e
    obtain ⟨hk, e⟩ := cond_ok e
    simp only [Bool.and_eq_true] at hk
    cases hs : sliceOf v with
    | none => rw [hs] at e; simp [fail] at e
    | some y =>
      obtain ⟨base, n, c⟩ := y
      rw [hs] at e; simp only at e
      obtain ⟨l, h1, nx1, R1, W1, R2, W2, e1, e2, rfl, rfl⟩ := bind_ok e
      rw [sliceOf_of hs] at hv
      obtain ⟨rfl, rfl, rfl, hl, a', c', l', rfl, g1, g2, g3⟩ := rowsO_ok e1 hM hv
      cases hb : byteInts l with
      | none => rw [hb] at e2; simp [fail] at e2
      | some ns =>
        rw [hb] at e2; simp only at e2
        obtain ⟨rfl, rfl, rfl, rfl⟩ := val_ok e2
        obtain rfl := byteInts_ok hb
        obtain rfl := VsR.eq_of_plain g1 (plain_bytes ns)
        refine ⟨rfl, rfl, rfl, _, rfl, ?_⟩
        rw [run_convert_bytes_string _ _ _ _ _ _ _ (sliceT_of ht) (isByteT_of hk.1) (isStrT_of hk.2)]
        have hlen : ns.length = n := by simpa using hl
        cases a' with
        | none =>
          obtain ⟨rfl, g4⟩ := g3
          have : ns = [] := by simpa using g4
          subst this
          simp [Conv.bytesToString, Sem.run_pure]
          rfl
        | some a =>
          have hld := run_loadCells_list (P := P) w a (ns.map (Value.int .u8)) g3
          rw [List.length_map, hlen] at hld
          rw [run_bytesToString w a n c' ns hld, push_bytes]
          simp
end
end Ev
end Go.Proofs.YtfmebfkdpfbjbaaGreatDoor
namespace Go.Proofs.YtfmebfkdpfbjbaaGreatDoor
open Go
namespace Ev
section
variable {F : Type} {S : Sig F} {P : Program}
theorem memHard_ok {C C0 : Cfg F} (hC : C.hard = memHard P C0) (h0 : C0.hid = S.hn) (hG : C0.G = S.G) : HardOK S P C := by
  intro o vs h nx x h' nx' R W hs e r w ρ hM hN hv
  rw [hC] at e
  unfold memHard at e
  cases hop : o.op with
  | slice t y lo hi mx =>
    rw [hop] at e
    have e' : (sliceH P t vs lo.isSome hi.isSome mx.isSome : M F Nxt) h nx = .ok x h' nx' R W := e
    have hops : o.op.operands.toList.map ρ = ρ y :: (lo.toList.map ρ ++ (hi.toList.map ρ ++ mx.toList.map ρ)) := by rw [hop]; cases lo <;> cases hi <;> cases mx <;> rfl
    rw [hops] at hv
    have key : Just P r w x (Instr.sliceAt t (ρ y) (lo.map ρ) (hi.map ρ) (mx.map ρ)) (h' = h ∧ nx' = nx ∧ W = []) := by
      cases hv with
      | cons hv0 hv =>
        unfold sliceH at e'
        cases lo with
        | none =>
          cases hi with
          | none =>
            cases mx with
            | none =>
              cases hv
              exact slcO_ok (lo := none) (hi := none) (mx := none) e' hv0 (fun _ q => by cases q) (fun _ => rfl) (fun _ q => by cases q) (fun _ => rfl) (fun _ q => by cases q) (fun _ => rfl)
            | some c =>
              cases hv with
              | cons hv3 hv => cases hv; exact absurd e' (by simp [fail])
          | some b =>
            cases hv with
            | cons hv2 hv =>
              cases mx with
              | none =>
                cases hv
                exact slcO_ok (lo := none) (hi := some _) (mx := none) e' hv0 (fun _ q => by cases q) (fun _ => rfl) (fun _ q => by cases q; exact ⟨_, rfl, hv2⟩) (fun q => by cases q) (fun _ q => by cases q) (fun _ => rfl)
              | some c =>
                cases hv with
                | cons hv3 hv =>
                  cases hv
                  exact slcO_ok (lo := none) (hi := some _) (mx := some _) e' hv0 (fun _ q => by cases q) (fun _ => rfl) (fun _ q => by cases q; exact ⟨_, rfl, hv2⟩) (fun q => by cases q) (fun _ q => by cases q; exact ⟨_, rfl, hv3⟩) (fun q => by cases q)
        | some a =>
          cases hv with
          | cons hv1 hv =>
            cases hi with
            | none =>
              cases mx with
              | none =>
                cases hv
                exact slcO_ok (lo := some _) (hi := none) (mx := none) e' hv0 (fun _ q => by cases q; exact ⟨_, rfl, hv1⟩) (fun q => by cases q) (fun _ q => by cases q) (fun _ => rfl) (fun _ q => by cases q) (fun _ => rfl)
              | some c =>
                cases hv with
                | cons hv3 hv => cases hv; exact absurd e' (by simp [fail])
            | some b =>
              cases hv with
              | cons hv2 hv =>
                cases mx with
                | none =>
                  cases hv
                  exact slcO_ok (lo := some _) (hi := some _) (mx := none) e' hv0 (fun _ q => by cases q; exact ⟨_, rfl, hv1⟩) (fun q => by cases q) (fun _ q => by cases q; exact ⟨_, rfl, hv2⟩) (fun q => by cases q) (fun _ q => by cases q) (fun _ => rfl)
                | some c =>
                  cases hv with
                  | cons hv3 hv =>
                    cases hv
                    exact slcO_ok (lo := some _) (hi := some _) (mx := some _) e' hv0 (fun _ q => by cases q; exact ⟨_, rfl, hv1⟩) (fun q => by cases q) (fun _ q => by cases q; exact ⟨_, rfl, hv2⟩) (fun q => by cases q) (fun _ q => by cases q; exact ⟨_, rfl, hv3⟩) (fun q => by cases q)
    refine key.after hM fun v hv => ?_
    simp only [execOp, hop, Sem.run_bind, hv, Result.andThen_ok, Sem.run_pure]
  | binOp op t p q yt =>
    rw [hop] at e
    simp only at e
    have hops : o.op.operands.toList.map ρ = [ρ p, ρ q] := by rw [hop]; rfl
    rw [hops] at hv
    cases ht2 : twoM vs with
    | none =>
      unfold nilH at e
      rw [ht2] at e; exact absurd e (by simp [fail])
    | some y =>
      obtain rfl := twoM_ok ht2
      cases hv with
      | cons hu hv => cases hv with
        | cons hz hn =>
          obtain ⟨rfl, rfl, rfl, b, rfl, hrun⟩ := nilH_ok (p := p) (q := q) (w := w) e hu hz
          refine ⟨Nat.le_refl _, .bool b, w, r, ?_, .same rfl, Ext.refl _ _ hM⟩
          simp only [execOp, hop]
          rw [Sem.run_bind, hrun]
          rfl
  | call c =>
    rw [hop] at e
    obtain ⟨callee, args, ats⟩ := c
    cases callee with
    | builtin b =>
      simp only at e
      have hops : o.op.operands.toList.map ρ = args.toList.map ρ := by rw [hop]; simp [Op.operands, Call.operands]
      rw [hops] at hv
      cases ht2 : twoM vs with
      | none =>
        rw [ht2] at e; simp only at e
        cases ht1 : oneM vs with
        | none => rw [ht1] at e; exact absurd e (by simp [fail])
        | some y =>
          rw [ht1] at e; simp only at e
          obtain rfl := oneM_ok ht1
          cases ha0 : ats[0]? with
          | none => rw [ha0] at e; exact absurd e (by simp [fail])
          | some t =>
            rw [ha0] at e; simp only at e
            generalize hl : args.toList.map ρ = al at hv
            cases hv with
            | cons hu hn =>
              cases hn
              rename_i u'
              have hA : args.map ρ = #[u'] := by rw [map_list, hl]
              cases b <;> first
                | (exact absurd (show (fail : M F Nxt) h nx = _ from e) (by simp [fail]))
                | skip
              obtain ⟨rfl, rfl, rfl, v, rfl, hrun, q2⟩ := capO_ok (ty := o.type) (w := w) e hu
              refine ⟨Nat.le_refl _, v, w, r, ?_, q2, Ext.refl _ _ hM⟩
              have hsame : Builtin.cap_ ats o.type #[u'] = Builtin.cap_ #[t] o.type #[u'] := by simp [Builtin.cap_, ha0]
              simp only [execOp, hop, resolve, hA, Sem.run_bind, Sem.run_pure, Result.andThen_ok, invoke, builtin, hsame, hrun]
      | some y =>
        rw [ht2] at e; simp only at e
        obtain rfl := twoM_ok ht2
        cases ha0 : ats[0]? with
        | none => rw [ha0] at e; exact absurd e (by simp [fail])
        | some t =>
          rw [ha0] at e; simp only at e
          cases ha1 : ats[1]? with
          | none => rw [ha1] at e; exact absurd e (by simp [fail])
          | some tx =>
            rw [ha1] at e; simp only at e
            generalize hl : args.toList.map ρ = al at hv
            cases hv with
            | cons hu hv => cases hv with
              | cons hz hn =>
                cases hn
                rename_i u' z'
                have hA : args.map ρ = #[u', z'] := by rw [map_list, hl]
                cases b <;> first
                  | (exact absurd (show (fail : M F Nxt) h nx = _ from e) (by simp [fail]))
                  | skip
                · have both : nx ≤ nx' ∧ ∃ v v' r' w', x = .val v ∧ (Builtin.append_ #[t, tx] o.type #[u', z']).run P w = .ok v' w' ∧ VR r' v v' ∧ Ext S r w nx nx' W h'.get r' w' := by
                    cases hnv : natVal y.2 with
                    | none => rw [hnv] at e; exact appO_ok (ty := o.type) e h0 hG hM hN hu hz
                    | some n =>
                      rw [hnv] at e
                      obtain ⟨kx, hy⟩ := natVal_of hnv
                      rw [hy] at hz
                      obtain rfl := hz.int
                      exact zerO_ok (ty := o.type) e hM hN hu
                  obtain ⟨q1, v, v', r', w', rfl, hrun, q2, q3⟩ := both
                  refine ⟨q1, v', w', r', ?_, q2, q3⟩
                  have hsame : Builtin.append_ ats o.type #[u', z'] = Builtin.append_ #[t, tx] o.type #[u', z'] := by simp [Builtin.append_, ha0, ha1]
                  simp only [execOp, hop, resolve, hA, Sem.run_bind, Sem.run_pure, Result.andThen_ok, invoke, builtin, hsame, hrun]
                · obtain ⟨q1, v, v', w', rfl, hrun, q2, q3⟩ := copO_ok (ty := o.type) e hG h0 hM hu hz
                  refine ⟨q1, v', w', r, ?_, q2, q3⟩
                  have hsame : Builtin.copy_ ats o.type #[u', z'] = Builtin.copy_ #[t, tx] o.type #[u', z'] := by simp [Builtin.copy_, ha0]
                  simp only [execOp, hop, resolve, hA, Sem.run_bind, Sem.run_pure, Result.andThen_ok, invoke, builtin, hsame, hrun]
    | _ => exact absurd e (by simp [fail])
  | convert src dst y =>
    rw [hop] at e
    simp only at e
    have hops : o.op.operands.toList.map ρ = [ρ y] := by rw [hop]; rfl
    rw [hops] at hv
    cases ht1 : oneM vs with
    | none => rw [ht1] at e; exact absurd e (by simp [fail])
    | some u =>
      rw [ht1] at e; simp only at e
      obtain rfl := oneM_ok ht1
      cases hv with
      | cons hu hn =>
        obtain ⟨rfl, rfl, rfl, s, rfl, hrun⟩ := strO_ok e hM hu
        refine ⟨Nat.le_refl _, .string s, w, r, ?_, .same rfl, Ext.refl _ _ hM⟩
        simp only [execOp, hop]
        rw [Sem.run_bind, hrun]
        rfl
  | _ => rw [hop] at e; exact absurd e (by simp [fail])
end
end Ev
end Go.Proofs.YtfmebfkdpfbjbaaGreatDoor
namespace Go.Proofs.YtfmebfkdpfbjbaaGreatDoor
namespace Big
def val (B : Nat) : List Nat → Nat
  | [] => 0
  | d :: l => d + B * val B l
def Ok (B : Nat) (l : List Nat) : Prop := ∀ d ∈ l, d < B
def Norm (l : List Nat) : Prop := l.getLast? ≠ some 0
def nth (l : List Nat) (i : Nat) : Nat := l.getD i 0
def M64 : Nat := 18446744073709551616
theorem M64_eq : M64 = 18446744073709551616 := rfl
theorem M64_pos : 0 < M64 := by unfold M64; omega
def KX : Nat := 1000000000
def KL : Nat := 100000000
theorem KX_eq : KX = 1000000000 := rfl
theorem KL_eq : KL = 100000000 := rfl
theorem KL_le : KL ≤ KX := by unfold KL KX; omega
section
variable {B : Nat}
theorem Ok.nil : Ok B [] := by intro d h; simp at h
theorem Ok.tail {d : Nat} {l : List Nat} (h : Ok B (d :: l)) : Ok B l := fun x hx => h x (by simp [hx])
theorem Ok.head {d : Nat} {l : List Nat} (h : Ok B (d :: l)) : d < B := h d (by simp)
theorem Ok.cons {d : Nat} {l : List Nat} (h : d < B) (k : Ok B l) : Ok B (d :: l) := by
  intro x hx; rcases List.mem_cons.1 hx with rfl | hx
  · exact h
  · exact k x hx
theorem Ok.append {l m : List Nat} (h : Ok B l) (k : Ok B m) : Ok B (l ++ m) := by
  intro x hx; rcases List.mem_append.1 hx with hx | hx
  · exact h x hx
  · exact k x hx
theorem Ok.take {l : List Nat} (h : Ok B l) (n : Nat) : Ok B (l.take n) := fun x hx => h x (List.mem_of_mem_take hx)
theorem Ok.drop {l : List Nat} (h : Ok B l) (n : Nat) : Ok B (l.drop n) := fun x hx => h x (List.mem_of_mem_drop hx)
theorem Ok.nth {l : List Nat} (h : Ok B l) (hB : 0 < B) (i : Nat) : nth l i < B := by
  unfold Big.nth
  rw [List.getD_eq_getElem?_getD]
  cases hi : l[i]? with
  | none => simpa using hB
  | some d => simpa using h d (List.mem_of_getElem? hi)
theorem val_append (l m : List Nat) : val B (l ++ m) = val B l + B ^ l.length * val B m := by
  induction l with
  | nil => simp [val]
  | cons d l ih =>
    simp only [List.cons_append, val, ih, List.length_cons, Nat.pow_succ', Nat.mul_add, Nat.mul_assoc]
    omega
theorem val_lt (l : List Nat) (h : Ok B l) : val B l < B ^ l.length := by
  induction l with
  | nil => simp [val]
  | cons d l ih =>
    have h1 := ih h.tail
    have h2 := h.head
    have h3 : B * (val B l + 1) ≤ B * B ^ l.length := Nat.mul_le_mul_left B h1
    rw [Nat.mul_add] at h3
    simp only [val, List.length_cons, Nat.pow_succ']
    omega
theorem val_replicate (n : Nat) : val B (List.replicate n 0) = 0 := by
  induction n with
  | zero => rfl
  | succ n ih => simp [List.replicate_succ, val, ih]
theorem take_succ (l : List Nat) (k : Nat) (h : k < l.length) : l.take (k + 1) = l.take k ++ [nth l k] := by
  unfold nth
  rw [List.take_succ_eq_append_getElem h, List.getD_eq_getElem?_getD, List.getElem?_eq_getElem h]; rfl
theorem val_take_succ (l : List Nat) (k : Nat) (h : k < l.length) : val B (l.take (k + 1)) = val B (l.take k) + B ^ k * nth l k := by
  rw [take_succ l k h, val_append]
  simp [val, Nat.min_eq_left (Nat.le_of_lt h)]
theorem val_take_all (l : List Nat) (k : Nat) (h : l.length ≤ k) : val B (l.take k) = val B l := by rw [List.take_of_length_le h]
theorem nth_ge (l : List Nat) (k : Nat) (h : l.length ≤ k) : nth l k = 0 := by
  unfold nth
  rw [List.getD_eq_getElem?_getD, List.getElem?_eq_none h]; rfl
theorem val_take_succ' (l : List Nat) (k : Nat) : val B (l.take (k + 1)) = val B (l.take k) + B ^ k * nth l k := by
  rcases Nat.lt_or_ge k l.length with h | h
  · exact val_take_succ l k h
  · rw [val_take_all l _ (by omega), val_take_all l _ h, nth_ge l k h]; simp
theorem val_take_drop (l : List Nat) (k : Nat) (h : k ≤ l.length) : val B l = val B (l.take k) + B ^ k * val B (l.drop k) := by
  conv => lhs; rw [← List.take_append_drop k l]
  rw [val_append, List.length_take, Nat.min_eq_left h]
theorem norm_nil : Norm [] := by simp [Norm]
theorem norm_tail {d : Nat} {l : List Nat} (h : Norm (d :: l)) : Norm l := by
  cases l with
  | nil => exact norm_nil
  | cons e l => simpa [Norm, List.getLast?_cons_cons] using h
theorem norm_ge (l : List Nat) (h : Norm l) (hne : l ≠ []) : B ^ (l.length - 1) ≤ val B l := by
  induction l with
  | nil => exact absurd rfl hne
  | cons d l ih =>
    cases l with
    | nil =>
      have : d ≠ 0 := by intro e; subst e; simp [Norm] at h
      simp [val]; omega
    | cons e l =>
      have h1 := ih (norm_tail h) (by simp)
      have h2 : B * B ^ (l.length) ≤ B * val B (e :: l) := Nat.mul_le_mul_left B (by simpa using h1)
      simp only [val, List.length_cons] at *
      rw [show l.length + 1 + 1 - 1 = l.length + 1 by omega, Nat.pow_succ']
      omega
theorem norm_pos (hB : 0 < B) (l : List Nat) (h : Norm l) (hne : l ≠ []) : 0 < val B l :=
  Nat.lt_of_lt_of_le (Nat.pow_pos hB) (norm_ge l h hne)
theorem norm_zero (hB : 0 < B) (l : List Nat) (h : Norm l) (h0 : val B l = 0) : l = [] := by
  cases l with
  | nil => rfl
  | cons d l => have := norm_pos hB _ h (by simp); omega
theorem val_inj (hB : 0 < B) : ∀ (l m : List Nat), Ok B l → Ok B m → Norm l → Norm m → val B l = val B m → l = m
  | [], m, _, _, _, nm, h => (norm_zero hB m nm (by simpa [val] using h.symm)).symm
  | d :: l, [], _, _, nl, _, h => by have := norm_pos hB _ nl (by simp); simp only [val] at h this; omega
  | d :: l, e :: m, ol, om, nl, nm, h => by
    have h1 := ol.head; have h2 := om.head
    simp only [val] at h
    have hd : d = e := by
      have a := congrArg (· % B) h
      simpa [Nat.add_mul_mod_self_left, Nat.mod_eq_of_lt h1, Nat.mod_eq_of_lt h2] using a
    subst hd
    have hv : val B l = val B m := Nat.eq_of_mul_eq_mul_left hB (by omega)
    rw [val_inj hB l m ol.tail om.tail (norm_tail nl) (norm_tail nm) hv]
theorem lt_of_length (hB : 0 < B) {l m : List Nat} (ol : Ok B l) (nm : Norm m) (h : l.length < m.length) : val B l < val B m := by
  have h1 := val_lt l ol
  have h2 := norm_ge (B := B) m nm (by intro e; subst e; simp at h)
  have h3 : B ^ l.length ≤ B ^ (m.length - 1) := Nat.pow_le_pow_right hB (by omega)
  omega
theorem length_le (hB : 0 < B) {l m : List Nat} (nl : Norm l) (om : Ok B m) (h : val B l ≤ val B m) : l.length ≤ m.length := by
  rcases Nat.lt_or_ge m.length l.length with hlt | hge
  · have := lt_of_length hB om nl hlt; omega
  · exact hge
def strip : List Nat → List Nat
  | [] => []
  | d :: l => match strip l with
    | [] => if d = 0 then [] else [d]
    | e :: m => d :: e :: m
theorem strip_val (l : List Nat) : val B (strip l) = val B l := by
  induction l with
  | nil => rfl
  | cons d l ih =>
    simp only [strip]
    split
    · rename_i h; rw [h] at ih; simp only [val] at ih ⊢
      split <;> simp_all [val, ← ih]
    · rename_i e m h; rw [h] at ih; simp only [val] at ih ⊢; rw [ih]
theorem strip_norm (l : List Nat) : Norm (strip l) := by
  induction l with
  | nil => exact norm_nil
  | cons d l ih =>
    simp only [strip]
    split
    · split
      · exact norm_nil
      · rename_i h; simpa [Norm] using h
    · rename_i e m h; rw [h] at ih; simpa [Norm, List.getLast?_cons_cons] using ih
theorem strip_of_norm (l : List Nat) (h : Norm l) : strip l = l := by
  induction l with
  | nil => rfl
  | cons d l ih =>
    simp only [strip, ih (norm_tail h)]
    cases l with
    | nil => have : d ≠ 0 := by intro e; subst e; simp [Norm] at h
             simp [this]
    | cons e m => rfl
theorem strip_ok {l : List Nat} (h : Ok B l) : Ok B (strip l) := by
  induction l with
  | nil => exact h
  | cons d l ih =>
    have hi := ih h.tail
    simp only [strip]
    split
    · split
      · exact Ok.nil
      · exact Ok.cons h.head Ok.nil
    · rename_i e m he; rw [he] at hi; exact Ok.cons h.head hi
theorem strip_take_self (l : List Nat) : strip l = l.take (strip l).length := by
  induction l with
  | nil => rfl
  | cons d l ih =>
    simp only [strip]
    split
    · split
      · rfl
      · simp
    · rename_i e m he; rw [he] at ih; simp only [List.length_cons, List.take_succ_cons] at ih ⊢
      rw [← ih]
theorem strip_len (l : List Nat) : (strip l).length ≤ l.length := by
  have := congrArg List.length (strip_take_self l)
  rw [List.length_take] at this
  omega
theorem strip_snoc_zero (l : List Nat) : strip (l ++ [0]) = strip l := by
  induction l with
  | nil => rfl
  | cons d l ih => simp only [List.cons_append, strip, ih]
theorem strip_take (l : List Nat) (n : Nat) (h : n < l.length) (h0 : nth l n = 0) : strip (l.take (n + 1)) = strip (l.take n) := by
  rw [take_succ l n h, h0, strip_snoc_zero]
theorem strip_take_ne (l : List Nat) (n : Nat) (h : n < l.length) (h0 : nth l n ≠ 0) : strip (l.take (n + 1)) = l.take (n + 1) := by
  apply strip_of_norm
  rw [take_succ l n h]
  simpa [Norm] using h0
def ordI (b : Bool) : Int := if b then -1 else 1
def cmpI (a b : Nat) : Int := if a < b then -1 else if a = b then 0 else 1
theorem cmpI_lt {a b : Nat} (h : a < b) : cmpI a b = -1 := by simp [cmpI, h]
theorem cmpI_gt {a b : Nat} (h : b < a) : cmpI a b = 1 := by
  unfold cmpI; rw [if_neg (by omega), if_neg (by omega)]
theorem cmpI_eq (a : Nat) : cmpI a a = 0 := by simp [cmpI]
theorem val_split (l : List Nat) (k : Nat) (h : k < l.length) : val B l = val B (l.take k) + B ^ k * nth l k + B ^ (k + 1) * val B (l.drop (k + 1)) := by
  rw [val_take_drop l (k + 1) (by omega), val_take_succ l k h]
theorem lt_at {l m : List Nat} {k : Nat} (hl : k < l.length) (hm : k < m.length) (ol : Ok B l) (hd : l.drop (k + 1) = m.drop (k + 1)) (h : nth l k < nth m k) : val B l < val B m := by
  rw [val_split l k hl, val_split m k hm, hd]
  have h1 := val_lt (l.take k) (ol.take k)
  rw [List.length_take, Nat.min_eq_left (by omega)] at h1
  have h2 : B ^ k * (nth l k + 1) ≤ B ^ k * nth m k := Nat.mul_le_mul_left _ h
  rw [Nat.mul_add] at h2
  omega
theorem drop_cons (l : List Nat) (k : Nat) (h : k < l.length) : l.drop k = nth l k :: l.drop (k + 1) := by
  rw [List.drop_eq_getElem_cons h]; unfold nth
  rw [List.getD_eq_getElem?_getD, List.getElem?_eq_getElem h]; rfl
end
end Big
end Go.Proofs.YtfmebfkdpfbjbaaGreatDoor
