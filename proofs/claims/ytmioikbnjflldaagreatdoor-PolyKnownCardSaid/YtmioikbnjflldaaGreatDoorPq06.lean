/- Contracts, in this order: The interpreter: parts of slices, append, copy. No program. · The interpreter: parts of slices, append, copy: what it answ · The interpreter: parts of slices, append, copy: for any Cfg  -/
import Derived.Test.YtmioikbnjflldaaGreatDoorPq03
import Derived.Deep.AppendSrc
import Derived.Laws.AppendOwn
import Derived.Laws.Slices
import Derived.Laws.Cover3
namespace Go.Proofs.YtmioikbnjflldaaGreatDoor
open Go
namespace Ev
section
variable {F : Type} (P : Program) (C : Cfg F)
noncomputable def eszT (e : TypeId) : Option (Nat × Nat × Value) := match P.info? e with
  | some i => match i.zero with
    | some z => cond (plain2 z && Nat.beq (cellsOf z).length i.size) (some (i.size, i.bytes, z)) none
    | none => none
  | none => none
noncomputable def isStrTm (t : TypeId) : Bool := match P.underlying t with
  | some d => match d with
    | .string => true
    | _ => false
  | none => false
noncomputable def rowO (b off n : Nat) : M F (List Value) := bind (rdAny b) fun y => match getRow y.1 off n with
  | some l => cond (plainL isOne l) (ret l) fail
  | none => fail
noncomputable def rowsO (base : Option (Nat × Nat)) (n size : Nat) : M F (List Value) := match base with
  | some x => rowO x.1 x.2 (n * size)
  | none => cond (Nat.beq n 0) (ret []) fail
noncomputable def srcO (size : Nat) (tx : TypeId) (x : Value) : M F (Nat × List Value) := match sliceOf x with
  | some y => match sliceT P tx with
    | some _ => bind (rowsO y.1 y.2.1 size) fun l => ret (y.2.1, l)
    | none => fail
  | none => match x with
    | .string s => cond (Nat.beq size 1 && isStrTm P tx) (ret (s.size, byteCells s)) fail
    | _ => fail
noncomputable def roomO (size b off l n c : Nat) (news : List Value) : M F Nxt := cond (Nat.beq n 0) (val (vslice b off l c)) (bind (storeAt C b (off + l * size) news) fun _ => val (vslice b off (l + n) c))
noncomputable def newRoom (e : TypeId) (size k : Nat) (cs : List Value) : M F Nxt := bind (fresh (.room cs e)) fun m => val (vslice m 0 k (capX * (size + 1) + k))
noncomputable def moveO (e : TypeId) (size b l n cc : Nat) (news : List Value) : M F Nxt := bind (rdAny b) fun y =>
  cond (y.2.2 && Nat.beq y.2.1 e && (Nat.beq (cc * size) y.1.length && isMore y.1) && (Nat.ble l cc && Nat.ble C.G b && !C.hid b e))
    (bind (wr b (.room [] e)) fun _ => newRoom e size (l + n) (y.1.take (l * size) ++ news)) fail
noncomputable def roomB (bytes k : Nat) : Bool := Nat.ble (k * bytes) 1048576 && Nat.ble k 1048576
noncomputable def appO (t tx : TypeId) (v x : Value) : M F Nxt := match sliceT P t with
  | some e => match eszT P e with
    | some i => match sliceOf v with
      | some y => bind (srcO P i.1 tx x) fun s =>
        cond (Nat.ble capX y.2.2)
          (match y.1 with
            | some a => cond (Nat.beq (Nat.div y.2.2 capX) (Nat.succ i.1))
              (cond (Nat.ble (y.2.1 + s.1) (Nat.mod y.2.2 capX)) (roomO C i.1 a.1 a.2 y.2.1 s.1 y.2.2 s.2)
                (cond (Nat.beq a.2 0 && roomB i.2.1 (y.2.1 + s.1)) (moveO C e i.1 a.1 y.2.1 s.1 (Nat.mod y.2.2 capX) s.2) fail)) fail
            | none => fail)
          (cond (Nat.ble (y.2.1 + s.1) y.2.2)
            (match y.1 with
              | some a => roomO C i.1 a.1 a.2 y.2.1 s.1 y.2.2 s.2
              | none => cond (Nat.beq s.1 0) (val v) fail)
            (cond (roomB i.2.1 (y.2.1 + s.1)) (bind (rowsO y.1 y.2.1 i.1) fun olds => newRoom e i.1 (y.2.1 + s.1) (olds ++ s.2)) fail))
      | none => fail
    | none => fail
  | none => fail
noncomputable def decN (o : Option Value) : Option (Option Nat) := match o with
  | some v => match natVal v with
    | some n => some (some n)
    | none => none
  | none => some none
noncomputable def orN (o : Option Nat) (d : Nat) : Nat := match o with
  | some n => n
  | none => d
noncomputable def cutO (s b off l h m : Nat) : M F Nxt := cond (Nat.ble l h && Nat.ble h m) (val (vslice b (cond (Nat.beq m l) off (off + l * s)) (h - l) (m - l))) fail
noncomputable def slcA (s : Nat) (a : Nat × Nat) (n c : Nat) (lo hi mx : Option Nat) : M F Nxt := match mx with
  | some m => cond (Nat.ble m (cond (Nat.ble capX c) (Nat.mod c capX) c)) (match hi with
    | some h => cond (Nat.ble m (capX - 1)) (cutO s a.1 a.2 (orN lo 0) h m) fail
    | none => fail) fail
  | none => cond (Nat.ble capX c)
    (cond (Nat.beq (Nat.div c capX) (Nat.succ s) && Nat.ble (orN lo 0) (orN hi n) && Nat.ble (orN hi n) (Nat.mod c capX))
      (cond (Nat.beq (orN lo 0) 0) (val (vslice a.1 a.2 (orN hi n) c)) (cond (Nat.ble (Nat.succ (orN lo 0)) (Nat.mod c capX)) (val (vslice a.1 (a.2 + orN lo 0 * s) (orN hi n - orN lo 0) (c - orN lo 0))) fail)) fail)
    (cutO s a.1 a.2 (orN lo 0) (orN hi n) c)
noncomputable def slcO (t : TypeId) (v : Value) (lo hi mx : Option Value) : M F Nxt := match sliceT P t with
  | some e => match sizeT P e with
    | some s => match sliceOf v with
      | some y => match y.1 with
        | some a => match decN lo with
          | some lo => match decN hi with
            | some hi => match decN mx with
              | some mx => slcA s a y.2.1 y.2.2 lo hi mx
              | none => fail
            | none => fail
          | none => fail
        | none => fail
      | none => fail
    | none => fail
  | none => fail
noncomputable def copO (t tx : TypeId) (d x : Value) : M F Nxt := match sliceT P t with
  | some e => match sizeT P e with
    | some s => match sliceOf d with
      | some y => match sliceOf x with
        | some z => bind (rowsO z.1 (Nat.min z.2.1 y.2.1) s) fun l => cond (Nat.beq (Nat.min z.2.1 y.2.1) 0) (val (vint 0)) (match y.1 with
          | some a => bind (storeAt C a.1 a.2 l) fun _ => val (vint (Nat.min z.2.1 y.2.1))
          | none => fail)
        | none => fail
      | none => fail
    | none => fail
  | none => fail
noncomputable def twoM {α : Type} (l : List α) : Option (α × α) := match l with
  | a :: l => match l with
    | b :: l => match l with
      | [] => some (a, b)
      | _ :: _ => none
    | [] => none
  | [] => none
noncomputable def sliceH (t : TypeId) (vs : List Value) (lo hi mx : Bool) : M F Nxt := match vs with
  | v :: l => match lo, l with
    | true, a :: l => match hi, l with
      | true, b :: l => match mx, l with
        | true, [c] => slcO P t v (some a) (some b) (some c)
        | false, [] => slcO P t v (some a) (some b) none
        | _, _ => fail
      | false, [] => cond mx fail (slcO P t v (some a) none none)
      | _, _ => fail
    | false, l => match hi, l with
      | true, b :: l => match mx, l with
        | true, [c] => slcO P t v none (some b) (some c)
        | false, [] => slcO P t v none (some b) none
        | _, _ => fail
      | false, [] => cond mx fail (slcO P t v none none none)
      | _, _ => fail
    | _, _ => fail
  | [] => fail
noncomputable def isNil0 (v : Value) : Bool := match v with
  | .slice a n c => match a with
    | none => Nat.beq n 0 && Nat.beq c 0
    | some _ => false
  | _ => false
noncomputable def nilH (op : BinOp) (t : TypeId) (vs : List Value) : M F Nxt := match twoM vs with
  | some x => match sliceT P t with
    | some _ => match sliceOf x.1 with
      | some y => cond (isNil0 x.2) (match op with
        | .eql => val (.bool y.1.isNone)
        | .neq => val (.bool (!y.1.isNone))
        | _ => fail) fail
      | none => fail
    | none => fail
  | none => fail
noncomputable def memHard (o : Oper) (vs : List Value) : M F Nxt := match o.op with
  | .binOp op t _ _ _ => nilH P op t vs
  | .slice t _ lo hi mx => sliceH P t vs lo.isSome hi.isSome mx.isSome
  | .call c => match c.callee with
    | .builtin b => match twoM vs with
      | some x => match c.argTypes[0]? with
        | some t => match c.argTypes[1]? with
          | some tx => match b with
            | .append => appO P C t tx x.1 x.2
            | .copy => copO P C t tx x.1 x.2
            | _ => fail
          | none => fail
        | none => fail
      | none => fail
    | _ => fail
  | _ => fail
theorem loc_rowO (b off n : Nat) : Loc (rowO b off n : M F (List Value)) := loc_bind (loc_rdAny _) fun y => by
  split
  · exact loc_cond (loc_ret _) loc_fail
  · exact loc_fail
theorem loc_rowsO (base : Option (Nat × Nat)) (n size : Nat) : Loc (rowsO base n size : M F (List Value)) := by
  unfold rowsO
  split
  · exact loc_rowO _ _ _
  · exact loc_cond (loc_ret _) loc_fail
theorem loc_srcO (size : Nat) (tx : TypeId) (x : Value) : Loc (srcO P size tx x : M F (Nat × List Value)) := by
  unfold srcO
  (repeat' split) <;> first | exact loc_fail | exact loc_bind (loc_rowsO _ _ _) fun _ => loc_ret _ | exact loc_cond (loc_ret _) loc_fail
theorem loc_roomO (size b off l n c : Nat) (news : List Value) : Loc (roomO C size b off l n c news) := loc_cond (loc_val _) (loc_bind (loc_storeAt _ _ _ _) fun _ => loc_val _)
theorem loc_newRoom (e : TypeId) (size k : Nat) (cs : List Value) : Loc (newRoom e size k cs : M F Nxt) := loc_bind (loc_fresh _) fun _ => loc_val _
theorem loc_moveO (e : TypeId) (size b l n cc : Nat) (news : List Value) : Loc (moveO C e size b l n cc news) := loc_bind (loc_rdAny _) fun _ => loc_cond (loc_bind (loc_wr _ _) fun _ => loc_newRoom _ _ _ _) loc_fail
theorem loc_appO (t tx : TypeId) (v x : Value) : Loc (appO P C t tx v x) := by
  unfold appO
  (repeat' split) <;> first
    | exact loc_fail
    | exact loc_bind (loc_srcO _ _ _ _) fun s => loc_cond (by first | exact loc_fail | exact loc_cond (loc_cond (loc_roomO _ _ _ _ _ _ _ _) (loc_cond (loc_moveO _ _ _ _ _ _ _ _) loc_fail)) loc_fail)
        (loc_cond (by first | exact loc_roomO _ _ _ _ _ _ _ _ | exact loc_cond (loc_val _) loc_fail) (loc_cond (loc_bind (loc_rowsO _ _ _) fun _ => loc_newRoom _ _ _ _) loc_fail))
theorem loc_cutO (s b off l h m : Nat) : Loc (cutO s b off l h m : M F Nxt) := loc_cond (loc_val _) loc_fail
theorem loc_slcA (s : Nat) (a : Nat × Nat) (n c : Nat) (lo hi mx : Option Nat) : Loc (slcA s a n c lo hi mx : M F Nxt) := by
  unfold slcA
  split
  · refine loc_cond ?_ loc_fail
    split
    · exact loc_cond (loc_cutO _ _ _ _ _ _) loc_fail
    · exact loc_fail
  · exact loc_cond (loc_cond (loc_cond (loc_val _) (loc_cond (loc_val _) loc_fail)) loc_fail) (loc_cutO _ _ _ _ _ _)
theorem loc_slcO (t : TypeId) (v : Value) (lo hi mx : Option Value) : Loc (slcO P t v lo hi mx : M F Nxt) := by
  unfold slcO
  (repeat' split) <;> first | exact loc_fail | exact loc_slcA _ _ _ _ _ _ _
theorem loc_copO (t tx : TypeId) (d x : Value) : Loc (copO P C t tx d x) := by
  unfold copO
  (repeat' split) <;> first
    | exact loc_fail
    | exact loc_bind (loc_rowsO _ _ _) fun _ => loc_cond (loc_val _) (by first | exact loc_fail | exact loc_bind (loc_storeAt _ _ _ _) fun _ => loc_val _)
theorem loc_sliceH (t : TypeId) (vs : List Value) (lo hi mx : Bool) : Loc (sliceH P t vs lo hi mx : M F Nxt) := by
  unfold sliceH
  (repeat' split) <;> first | exact loc_fail | exact loc_slcO _ _ _ _ _ _ | exact loc_cond loc_fail (loc_slcO _ _ _ _ _ _)
theorem loc_nilH (op : BinOp) (t : TypeId) (vs : List Value) : Loc (nilH P op t vs : M F Nxt) := by
  unfold nilH
  (repeat' split) <;> first | exact loc_fail | exact loc_cond (by (repeat' split) <;> first | exact loc_fail | exact loc_val _) loc_fail
theorem loc_memHard (o : Oper) (vs : List Value) : Loc (memHard P C o vs) := by
  unfold memHard
  (repeat' split) <;> first | exact loc_fail | exact loc_nilH _ _ _ _ | exact loc_sliceH _ _ _ _ _ _ | exact loc_appO _ _ _ _ _ _ | exact loc_copO _ _ _ _ _ _
end
section
variable {F : Type} {S : Sig F} {P : Program} {C : Cfg F}
variable {h h' : Tr (Blk F)} {nx nx' : Nat} {R W : List Nat} {r : Ren} {w : World} {x : Nxt}
theorem slice_cases {b off l c : Nat} {v' : Value} (h : VR r (vslice b off l c) v') : ∃ b' c', r.blk b = some b' ∧ v' = vslice b' off l c' ∧
    ((c < capX ∧ c' = c) ∨ ∃ s c0, c = capX * (s + 1) + c0 ∧ c0 < capX ∧ c0 ≤ c' ∧ off + c' * s ≤ r.len b) := by
  unfold vslice at h
  cases h with
  | same p => simp [plain] at p
  | slice hb hc => exact ⟨_, _, hb, rfl, .inl ⟨hc, rfl⟩⟩
  | slicex hb hc h1 h2 => exact ⟨_, _, hb, rfl, .inr ⟨_, _, rfl, hc, h1, h2⟩⟩
theorem eszT_of {e size bytes : Nat} {z : Value} (h : eszT P e = some (size, bytes, z)) : ∃ i, P.info? e = some i ∧ i.zero = some z ∧ i.size = size ∧ i.bytes = bytes ∧ z.cells.size = size ∧ plain2 z = true := by
  unfold eszT at h
  split at h
  case h_2 => cases h
  case h_1 i hi =>
    split at h
    case h_2 => cases h
    case h_1 z' hz =>
      cases hk : (plain2 z' && Nat.beq (cellsOf z').length i.size) with
      | false => rw [hk] at h; cases h
      | true =>
        rw [hk] at h
        simp only [cond_true, Option.some.injEq, Prod.mk.injEq] at h
        obtain ⟨rfl, rfl, rfl⟩ := h
        simp only [Bool.and_eq_true] at hk
        refine ⟨i, hi, hz, rfl, rfl, ?_, hk.1⟩
        rw [← Nat.eq_of_beq_eq_true hk.2, ← cells_list, Array.length_toList]
theorem rowO_ok {b off n : Nat} {l : List Value} {b' : Nat} (e : (rowO b off n : M F _) h nx = .ok l h' nx' R W) (hM : Mod S r h.get w) (hb : r.blk b = some b') :
    h' = h ∧ nx' = nx ∧ W = [] ∧ l.length = n ∧ ∃ l', VsR r l l' ∧ (∀ u ∈ l', u.oneCell' = true) ∧ ∀ j u, l'[j]? = some u → w.cell? ⟨b', off + j, none⟩ = some u := by
  unfold rowO at e
  obtain ⟨y, h1, nx1, R1, W1, R2, W2, e1, e2, rfl, rfl⟩ := bind_ok e
  obtain ⟨hg, rfl, rfl, rfl⟩ := rdAny_ok e1
  cases hr : getRow y.1 off n with
  | none => rw [hr] at e2; simp [fail] at e2
  | some l2 =>
    rw [hr] at e2
    obtain ⟨hk, e3⟩ := cond_ok e2
    obtain ⟨rfl, rfl, rfl, rfl⟩ := ret_ok e3
    obtain ⟨rfl, hl⟩ := getRow_ok hr
    obtain ⟨b3, c', hb3, hh, hc, -⟩ := hM.any hg
    obtain rfl : b3 = b' := by rw [hb] at hb3; injection hb3 with e; exact e.symm
    have hsg := pre_seg hc hl
    refine ⟨rfl, rfl, rfl, hl, _, hsg, hsg.ones hk, fun j u hj => ?_⟩
    simp only [World.cell?, hh]
    rw [List.getElem?_take] at hj
    split at hj
    · rw [List.getElem?_drop] at hj; simpa using hj
    · cases hj
theorem rowsO_ok {v' : Value} {base : Option (Nat × Nat)} {n k c size : Nat} {l : List Value} (e : (rowsO base n size : M F _) h nx = .ok l h' nx' R W) (hM : Mod S r h.get w)
    (hv : VR r (.slice (base.map fun y => ⟨y.1, y.2, none⟩) k c) v') : h' = h ∧ nx' = nx ∧ W = [] ∧ l.length = n * size ∧ ∃ a' c' l', v' = .slice a' k c' ∧ VsR r l l' ∧ (∀ u ∈ l', u.oneCell' = true) ∧
      (match a' with | some a => ∀ j u, l'[j]? = some u → w.cell? (a.add j) = some u | none => n = 0 ∧ l' = []) := by
  cases base with
  | none =>
    unfold rowsO at e
    obtain ⟨hk, e3⟩ := cond_ok e
    obtain ⟨rfl, rfl, rfl, rfl⟩ := ret_ok e3
    obtain rfl := Nat.eq_of_beq_eq_true hk
    obtain rfl := VR.nilslc hv
    exact ⟨rfl, rfl, rfl, by simp, none, c, [], rfl, .nil, by simp, rfl, rfl⟩
  | some y =>
    obtain ⟨b, off⟩ := y
    obtain ⟨b', c', hb, rfl, -⟩ := slice_cases (b := b) (off := off) hv
    obtain ⟨rfl, rfl, rfl, hl, l', h1, h2, h3⟩ := rowO_ok (show (rowO b off (n * size) : M F _) h nx = _ from e) hM hb
    exact ⟨rfl, rfl, rfl, hl, _, c', l', rfl, h1, h2, fun j u hj => by rw [add_off]; exact h3 j u hj⟩
theorem byteCells_plain (s : ByteArray) : VsR r (byteCells s) (byteCells s) := by
  unfold byteCells
  generalize s.data.toList = l
  induction l with
  | nil => exact .nil
  | cons a l ih => exact .cons (.same rfl) ih
theorem isStrT_of {t : TypeId} (h : isStrTm P t = true) : P.underlying t = some .string := by
  unfold isStrTm at h
  (repeat' split at h) <;> first | (cases h; done) | assumption
theorem srcO_ok {size : Nat} {tx : TypeId} {v v' : Value} {s : Nat × List Value} (e : srcO P size tx v h nx = .ok s h' nx' R W) (hM : Mod S r h.get w) (hv : VR r v v') :
    h' = h ∧ nx' = nx ∧ W = [] ∧ ∃ l', Src P size tx v' s.1 l' w ∧ VsR r s.2 l' := by
  unfold srcO at e
  cases hs : sliceOf v with
  | some y =>
    rw [hs] at e; simp only at e
    cases ht : sliceT P tx with
    | none => rw [ht] at e; simp [fail] at e
    | some el =>
      rw [ht] at e; simp only at e
      obtain ⟨l, h1, nx1, R1, W1, R2, W2, e1, e2, rfl, rfl⟩ := bind_ok e
      obtain ⟨rfl, rfl, rfl, rfl⟩ := ret_ok e2
      rw [sliceOf_of hs] at hv
      obtain ⟨rfl, rfl, rfl, hl, a', c', l', rfl, g1, g2, g3⟩ := rowsO_ok e1 hM hv
      refine ⟨rfl, rfl, by simp, l', ?_, g1⟩
      cases a' with
      | none => obtain ⟨g4, rfl⟩ := g3; rw [show y.2.1 = 0 from g4]; exact Src.ofNil w (sliceT_of ht) _
      | some a => exact Src.ofSlice w (sliceT_of ht) a _ _ l' (by rw [g1.length, hl]) g3 g2
  | none =>
    rw [hs] at e; simp only at e
    cases v with
    | string t =>
      simp only at e
      obtain ⟨hk, e3⟩ := cond_ok e
      obtain ⟨rfl, rfl, rfl, rfl⟩ := ret_ok e3
      simp only [Bool.and_eq_true] at hk
      obtain rfl := Nat.eq_of_beq_eq_true hk.1
      obtain rfl := hv.str
      exact ⟨rfl, rfl, rfl, _, Src.ofString w (isStrT_of hk.2) t, byteCells_plain t⟩
    | _ => simp [fail] at e
theorem run_room {t tx ty e : TypeId} {i : TypeInfo} (ht : P.underlying t = some (.slice e)) (hi : P.info? e = some i) {b off sLen sCap : Nat} {x : Value} {n : Nat} {news : List Value} {w w' : World} (hs : Src P i.size tx x n news w)
    (hroom : sLen + n ≤ sCap) (hst : (storeCells ⟨b, off + sLen * i.size, none⟩ news).run P w = .ok () w') :
    (Builtin.append_ #[t, tx] ty #[.slice (some ⟨b, off, none⟩) sLen sCap, x]).run P w = .ok (.slice (some ⟨b, off, none⟩) (sLen + n) sCap) w' := by
  rcases hs.kind with ⟨e', hk⟩ | hk <;> simp [Builtin.append_, run_underlying ht, run_underlying hk, sizeOf, typeInfo, hi, hs.len, hroom, hs.cells, Addr.add_lit, hst]
theorem run_store_none {a : Addr} {w : World} : (storeCells a []).run P w = .ok () w := by
  simp [storeCells]
theorem run_room_nil {t tx ty e : TypeId} {i : TypeInfo} (ht : P.underlying t = some (.slice e)) (hi : P.info? e = some i) {sLen sCap : Nat} {x : Value} {news : List Value} {w : World} (hs : Src P i.size tx x 0 news w) (hroom : sLen ≤ sCap) :
    (Builtin.append_ #[t, tx] ty #[.slice none sLen sCap, x]).run P w = .ok (.slice none sLen sCap) w := by
  rcases hs.kind with ⟨e', hk⟩ | hk <;> simp [Builtin.append_, run_underlying ht, run_underlying hk, sizeOf, typeInfo, hi, hs.len, hroom, hs.cells]
theorem roomO_ok {t tx ty e : TypeId} {i : TypeInfo} (ht : P.underlying t = some (.slice e)) (hi : P.info? e = some i) {b off l n c : Nat} {news news' : List Value} {x' v' : Value} {s : Nat} (hsz : i.size = s) (hs : Src P i.size tx x' n news' w) (hn : VsR r news news')
    (e1 : roomO C s b off l n c news h nx = .ok x h' nx' R W) (hG : C.G = S.G) (hC : C.hid = S.hn) (hM : Mod S r h.get w) {b' c' : Nat} (hb : r.blk b = some b') (hv : v' = vslice b' off l c') (hc : l + n ≤ c')
    (hval : ∀ k, VR r (vslice b off k c) (vslice b' off k c')) :
    nx ≤ nx' ∧ ∃ u u' w', x = .val u ∧ (Builtin.append_ #[t, tx] ty #[v', x']).run P w = .ok u' w' ∧ VR r u u' ∧ Ext S r w nx nx' W h'.get r w' := by
  subst hsz
  subst hv
  unfold roomO at e1
  cases hz : Nat.beq n 0 with
  | true =>
    rw [hz] at e1
    obtain ⟨rfl, rfl, rfl, rfl⟩ := val_ok e1
    obtain rfl := Nat.eq_of_beq_eq_true hz
    have h0 : news' = [] := by have := hs.newsLen; simpa using this
    subst h0
    exact ⟨Nat.le_refl _, _, _, w, rfl, run_room ht hi hs hc run_store_none, hval l, Ext.refl _ _ hM⟩
  | false =>
    rw [hz] at e1
    obtain ⟨u, h1, nx1, R1, W1, R2, W2, e2, e3, rfl, rfl⟩ := bind_ok (show bind (storeAt C b (off + l * i.size) news) (fun _ => val (vslice b off (l + n) c)) h nx = _ from e1)
    obtain ⟨rfl, rfl, rfl, rfl⟩ := val_ok e3
    obtain ⟨rfl, w', hrun, hX⟩ := storeAt_ok (P := P) e2 hG hC hM hb hn
    exact ⟨Nat.le_refl _, _, _, w', rfl, run_room ht hi hs hc (hrun ()), hval _, by simpa using hX⟩
theorem zero_len (z : Array Value) (n : Nat) : (Builtin.zeroCells z n).size = n * z.size := by simp [Builtin.zeroCells]
theorem pre_more {c c' : List Value} (hc : VsR r c c') (m : List Value) : VsR r c ((c' ++ m).take c.length) := by
  rw [List.take_append_of_le_length (by rw [hc.length]; exact Nat.le_refl _), List.take_of_length_le (by rw [hc.length]; exact Nat.le_refl _)]; exact hc
theorem fits_of {bytes k old : Nat} (h : roomB bytes k = true) (ho : old < k) : ((k : Nat) : Int) ≤ 9223372036854775807 ∧ Builtin.nextslicecap k old * bytes ≤ 281474976710656 ∧ k < capX := by
  unfold roomB at h
  simp only [Bool.and_eq_true] at h
  have h1 := Nat.le_of_ble_eq_true h.1
  have h2 := Nat.le_of_ble_eq_true h.2
  refine ⟨by omega, growslice_fits ho (by omega), by unfold capX; omega⟩
theorem grow_ok {t tx ty e : TypeId} {i : TypeInfo} {z : Value} (ht : P.underlying t = some (.slice e)) (hi : P.info? e = some i) (hz : i.zero = some z) (hzs : z.cells.size = i.size) {a' : Option Addr} {l n c' : Nat} {olds olds' news news' : List Value} {x' : Value}
    (hs : Src P i.size tx x' n news' w) (hn : VsR r news news') (ho : VsR r olds olds') (hol : olds.length = l * i.size)
    (hold : match a' with | some a => ∀ j u, olds'[j]? = some u → w.cell? (a.add j) = some u | none => l = 0 ∧ olds' = [])
    (hg : c' < l + n) (hf : roomB i.bytes (l + n) = true) (hM : Mod S r h.get w) (hN : New r nx (nx + 1)) :
    ∃ u' r' w', (Builtin.append_ #[t, tx] ty #[.slice a' l c', x']).run P w = .ok u' w' ∧ VR r' (vslice nx 0 (l + n) (capX * (i.size + 1) + (l + n))) u' ∧
      Ext S r w nx (nx + 1) [] (fun k => if k = nx then some (.room (olds ++ news) e) else h.get k) r' w' := by
  obtain ⟨f1, f2, f3⟩ := fits_of hf hg
  have hold' : (Builtin.firstCells i.size l (.slice a' l c')).run P w.drew = .ok olds'.toArray w.drew := by
    cases a' with
    | none => obtain ⟨rfl, rfl⟩ := hold; exact run_firstCells_none w.drew i.size 0 0 c'
    | some a => exact run_firstCells_some w.drew i.size l a l c' olds' (by rw [ho.length, hol]) (by simpa using hold)
  have hrun := run_append_grow_src (P := P) w t tx ty e i z ht hi hz a' l c' olds' hold' x' n news' hs hg f1 f2
  have hge := grownCap_ge w (l + n) c' e
  have hnl := hs.newsLen
  have hlen : ((olds' ++ news').toArray ++ Builtin.zeroCells z.cells (grownCap w (l + n) c' e - (l + n))).size = grownCap w (l + n) c' e * i.size := by
    rw [Array.size_append, zero_len, hzs]
    simp only [List.size_toArray, List.length_append, ho.length, hol, hnl]
    rw [← Nat.add_mul, ← Nat.add_mul]
    congr 1
    omega
  have hcells : ((olds' ++ news').toArray ++ Builtin.zeroCells z.cells (grownCap w (l + n) c' e - (l + n))) = ⟨(olds' ++ news') ++ (Builtin.zeroCells z.cells (grownCap w (l + n) c' e - (l + n))).toList⟩ := by
    apply Array.ext'
    simp
  obtain ⟨r', hX, hb, hlr⟩ := ext_new (w0 := w.drew) (x := .room (olds ++ news) e) (c' := (olds' ++ news') ++ (Builtin.zeroCells z.cells (grownCap w (l + n) c' e - (l + n))).toList) hM hN rfl rfl rfl rfl (.inr ⟨_, rfl, pre_more (ho.append hn) _⟩)
  refine ⟨_, r', _, hrun, .slicex hb f3 hge ?_, ?_⟩
  · rw [hlr, Nat.zero_add, ← hlen, hcells]
    simp
  · rw [hcells]; exact hX
end
end Ev
end Go.Proofs.YtmioikbnjflldaaGreatDoor
namespace Go.Proofs.YtmioikbnjflldaaGreatDoor
open Go
namespace Ev
section
variable {F : Type} {S : Sig F} {P : Program} {C : Cfg F}
variable {h h' : Tr (Blk F)} {nx nx' : Nat} {R W : List Nat} {r : Ren} {w : World} {x : Nxt}
theorem Ext.kill {r r' : Ren} {w w' : World} {lo hi n : Nat} {W : List Nat} {g : Nat → Option (Blk F)} {c : List Value} {t : TypeId} (hX : Ext S r w lo hi W g r' w') (hn : g n = some (.room c t)) :
    Ext S r w lo hi (W ++ [n]) (fun k => if k = n then some (.room [] t) else g k) r' w' :=
  ⟨hX.le, hX.mod.kill hn, hX.dom, fun m b e => (hX.new m b e).imp id (Or.imp id fun ⟨k, hk, q⟩ => ⟨k, List.mem_append_left _ hk, q⟩), fun b o hb hk => hX.keep b o hb fun m hm => hk m (List.mem_append_left _ hm), hX.size, hX.os, hX.tape, hX.output⟩
theorem wr_ok {b : Nat} {y : Blk F} {u : Unit} (e : (wr b y : M F Unit) h nx = .ok u h' nx' R W) : h' = h.set b y ∧ nx' = nx ∧ W = [b] := by
  unfold wr at e
  cases hg : h.get b with
  | none => rw [hg] at e; cases e
  | some z => rw [hg] at e; cases e; exact ⟨rfl, rfl, rfl⟩
theorem newRoom_ok {e : TypeId} {size k : Nat} {cs : List Value} (e1 : (newRoom e size k cs : M F Nxt) h nx = .ok x h' nx' R W) : h' = h.set nx (.room cs e) ∧ nx' = nx + 1 ∧ W = [] ∧ x = .val (vslice nx 0 k (capX * (size + 1) + k)) := by
  unfold newRoom at e1
  obtain ⟨m, h1, nx1, R1, W1, R2, W2, e2, e3, rfl, rfl⟩ := bind_ok e1
  obtain ⟨rfl, rfl, rfl, rfl⟩ := val_ok e3
  unfold fresh at e2
  cases e2
  exact ⟨rfl, rfl, rfl, rfl⟩
theorem moveO_ok {t tx ty e : TypeId} {i : TypeInfo} {z : Value} (ht : P.underlying t = some (.slice e)) (hi : P.info? e = some i) (hz : i.zero = some z) (hzs : z.cells.size = i.size) {b l n cc : Nat} {news news' : List Value} {x' : Value}
    (hs : Src P i.size tx x' n news' w) (hn : VsR r news news') (hf : roomB i.bytes (l + n) = true) (hC : C.hid = S.hn) (hG : C.G = S.G) (hcc : cc < l + n)
    (e1 : moveO C e i.size b l n cc news h nx = .ok x h' nx' R W) (hM : Mod S r h.get w) (hN : New r nx nx') {b' c' : Nat} (hb : r.blk b = some b') (h1 : cc ≤ c') (h2 : 0 + c' * i.size ≤ r.len b) :
    nx ≤ nx' ∧ ∃ u u' r' w', x = .val u ∧ (Builtin.append_ #[t, tx] ty #[vslice b' 0 l c', x']).run P w = .ok u' w' ∧ VR r' u u' ∧ Ext S r w nx nx' W h'.get r' w' := by
  unfold moveO at e1
  obtain ⟨y, g1, nx1, R1, W1, R2, W2, e2, e3, rfl, rfl⟩ := bind_ok e1
  obtain ⟨hg, rfl, rfl, rfl⟩ := rdAny_ok e2
  obtain ⟨hk, e4⟩ := cond_ok e3
  obtain ⟨u, g2, nx2, R3, W3, R4, W4, e5, e6, rfl, rfl⟩ := bind_ok e4
  obtain ⟨rfl, rfl, rfl⟩ := wr_ok e5
  obtain ⟨rfl, rfl, rfl, rfl⟩ := newRoom_ok e6
  simp only [Bool.and_eq_true] at hk
  obtain ⟨⟨⟨k1, k2⟩, k3, k4⟩, ⟨k5, k6⟩, k7⟩ := hk
  obtain ⟨cs, ty2, rm⟩ := y
  simp only at k1 k2 k3 k4 hg ⊢
  obtain rfl := Nat.eq_of_beq_eq_true k2
  have k3' := Nat.eq_of_beq_eq_true k3
  have k5' := Nat.le_of_ble_eq_true k5
  have k6' := Nat.le_of_ble_eq_true k6
  rw [show rm = true from k1] at hg
  have hmore : cs ≠ [] := fun q => by rw [q] at k4; cases k4
  obtain ⟨b3, cl, hb3, hh, hc, ht2, hroom⟩ := hM.room b cs ty2 hg
  obtain rfl : b3 = b' := by rw [hb] at hb3; injection hb3 with q; exact q.symm
  have hle : l * i.size ≤ cs.length := by rw [← k3']; exact Nat.mul_le_mul_right _ k5'
  have hpl := pre_len hc
  have holds : VsR r (cs.take (l * i.size)) (cl.take (l * i.size)) := by
    have := hc.take (l * i.size)
    rw [List.take_take, Nat.min_eq_left hle] at this; exact this
  have hol : (cs.take (l * i.size)).length = l * i.size := by rw [List.length_take]; omega
  have hol' : (cl.take (l * i.size)).length = l * i.size := by rw [List.length_take]; omega
  have hne0 : ∀ k, New r k (k + 1) → b ≠ k := fun k hN q => by have := (hN k (Nat.le_refl _) (Nat.lt_succ_self _)).1; rw [← q, hb] at this; cases this
  have hne := hne0 _ hN
  have hnl := hs.newsLen
  have hnl2 : news.length = n * i.size := by rw [← hn.length]; exact hnl
  refine ⟨Nat.le_succ _, ?_⟩
  by_cases hroom2 : l + n ≤ c'
  · have hbig : (l + n) * i.size ≤ cl.length := by
      have : (l + n) * i.size ≤ c' * i.size := Nat.mul_le_mul_right _ hroom2
      omega
    rw [Nat.add_mul] at hbig
    have hrun := run_storeCells_at P b3 (l * i.size) ty2 news' 0 ⟨cl⟩ w hh (by simp only [List.size_toArray]; omega) hs.one
    simp only [Nat.add_zero] at hrun
    have hd : VsR r (cs.take (l * i.size) ++ news) ((cl.take (l * i.size) ++ news' ++ cl.drop (l * i.size + news'.length)).take (cs.take (l * i.size) ++ news).length) := pre_more (holds.append hn) _
    obtain ⟨r', hX, hb2, hlr⟩ := ext_move (d := cs.take (l * i.size) ++ news) (d' := cl.take (l * i.size) ++ news' ++ cl.drop (l * i.size + news'.length)) hM hN hne hg hb hmore hd hh (by simp; omega) (by rw [← hG]; exact k6') (by rw [← hC]; simpa using k7)
      (w' := w.setRow b3 (cl.take (l * i.size) ++ news' ++ cl.drop (l * i.size + news'.length)).toArray) (by
        unfold World.setRow
        simp only
        apply Array.ext
        · simp
        · intro k h1 h2
          rw [Array.getElem_modify, Array.getElem_setIfInBounds]
          · by_cases hkk : b3 = k
            · subst hkk
              have := (Array.getElem?_eq_some_iff.1 hh).2
              simp [this]
            · simp [hkk]
          · simpa using h2) rfl rfl rfl
    refine ⟨_, _, r', _, rfl, run_room ht hi hs hroom2 (by rw [Nat.zero_add]; exact hrun), .slicex hb2 (fits_of hf hcc).2.2 hroom2 ?_, ?_⟩
    · rw [hlr]; simp only [List.length_append, List.length_take, List.length_drop]; omega
    · refine Ext.congr (by simpa using hX) fun k => .inr ?_
      rw [Tr.get_set, Tr.get_set]
  · obtain ⟨u', r', w', hrun, hu, hX⟩ := grow_ok (ty := ty) (a' := some ⟨b3, 0, none⟩) (c' := c') ht hi hz hzs hs hn holds hol (fun j u hj => by
        rw [add_off, Nat.zero_add]
        simp only [World.cell?, hh]
        rw [List.getElem?_take] at hj
        split at hj
        · simpa using hj
        · cases hj) (by omega) hf hM hN
    refine ⟨_, u', r', w', rfl, hrun, hu, ?_⟩
    have hK := hX.kill (n := b) (c := cs) (t := ty2) (by simp only [if_neg hne]; exact hg)
    refine Ext.congr (by simpa using hK) fun k => .inr ?_
    rw [Tr.get_set, Tr.get_set]
    (repeat' split) <;> first | rfl | (subst_vars; exact absurd rfl hne)
theorem appO_ok {t tx ty : TypeId} {v xx v' x' : Value} (e : appO P C t tx v xx h nx = .ok x h' nx' R W) (hC : C.hid = S.hn) (hG : C.G = S.G) (hM : Mod S r h.get w) (hN : New r nx nx') (hv : VR r v v') (hx : VR r xx x') :
    nx ≤ nx' ∧ ∃ u u' r' w', x = .val u ∧ (Builtin.append_ #[t, tx] ty #[v', x']).run P w = .ok u' w' ∧ VR r' u u' ∧ Ext S r w nx nx' W h'.get r' w' := by
  unfold appO at e
  cases ht : sliceT P t with
  | none => rw [ht] at e; simp [fail] at e
  | some el =>
    rw [ht] at e; simp only at e
    cases hz : eszT P el with
    | none => rw [hz] at e; simp [fail] at e
    | some q =>
      obtain ⟨size, bytes, zv⟩ := q
      rw [hz] at e; simp only at e
      obtain ⟨i, hi, hiz, rfl, rfl, hzs, -⟩ := eszT_of hz
      cases hs : sliceOf v with
      | none => rw [hs] at e; simp [fail] at e
      | some y =>
        obtain ⟨base, l, c⟩ := y
        rw [hs] at e; simp only at e
        obtain ⟨s, h1, nx1, R1, W1, R2, W2, e1, e2, rfl, rfl⟩ := bind_ok e
        obtain ⟨rfl, rfl, rfl, news', hsrc, hn⟩ := srcO_ok e1 hM hx
        obtain ⟨n, news⟩ := s
        simp only at e2 hsrc hn
        have hvs := sliceOf_of hs
        have hut := sliceT_of ht
        cases hbig : Nat.ble capX c with
        | true =>
          rw [hbig] at e2
          simp only [cond_true] at e2
          cases base with
          | none => simp [fail] at e2
          | some a =>
            obtain ⟨b, off⟩ := a
            simp only at e2
            obtain ⟨hsz, e3⟩ := cond_ok e2
            have hvs' : v = vslice b off l c := hvs
            rw [hvs'] at hv
            obtain ⟨b', c', hb, rfl, hcc⟩ := slice_cases hv
            have hge := Nat.le_of_ble_eq_true hbig
            rcases hcc with ⟨hlt, _⟩ | ⟨sz, c0, rfl, hc0, hle, hln⟩
            · omega
            have hdiv : Nat.div (capX * (sz + 1) + c0) capX = sz + 1 := by
              show (capX * (sz + 1) + c0) / capX = sz + 1
              unfold capX at hc0 ⊢; omega
            have hmod : Nat.mod (capX * (sz + 1) + c0) capX = c0 := by
              show (capX * (sz + 1) + c0) % capX = c0
              unfold capX at hc0 ⊢; omega
            rw [hdiv] at hsz
            have hsz' : sz = i.size := by have := Nat.eq_of_beq_eq_true hsz; omega
            subst hsz'
            rw [hmod] at e3
            cases hrm : Nat.ble (l + n) c0 with
            | true =>
              rw [hrm] at e3
              simp only [cond_true] at e3
              have hrm' := Nat.le_of_ble_eq_true hrm
              obtain ⟨q1, u, u', w', q2, q3, q4, q5⟩ := roomO_ok (ty := ty) hut hi rfl hsrc hn e3 hG hC hM hb rfl (by omega) (fun k => .slicex hb hc0 hle hln)
              exact ⟨q1, u, u', r, w', q2, q3, q4, q5⟩
            | false =>
              rw [hrm] at e3
              simp only [cond_false] at e3
              have hrm' : c0 < l + n := by
                rcases Nat.lt_or_ge c0 (l + n) with q | q
                · exact q
                · rw [Nat.ble_eq_true_of_le q] at hrm; cases hrm
              obtain ⟨hk, e4⟩ := cond_ok e3
              simp only [Bool.and_eq_true] at hk
              obtain ⟨k1, k3⟩ := hk
              obtain rfl := Nat.eq_of_beq_eq_true k1
              obtain ⟨q1, q⟩ := moveO_ok (ty := ty) hut hi hiz hzs hsrc hn k3 hC hG hrm' e4 hM hN hb hle hln
              exact ⟨q1, by simpa using q⟩
        | false =>
          rw [hbig] at e2
          simp only [cond_false] at e2
          have hlt : c < capX := by
            rcases Nat.lt_or_ge c capX with q | q
            · exact q
            · rw [Nat.ble_eq_true_of_le q] at hbig; cases hbig
          cases hrm : Nat.ble (l + n) c with
          | true =>
            rw [hrm] at e2
            simp only [cond_true] at e2
            have hrm' := Nat.le_of_ble_eq_true hrm
            cases base with
            | none =>
              simp only at e2
              obtain ⟨hk, e3⟩ := cond_ok e2
              obtain ⟨rfl, rfl, rfl, rfl⟩ := val_ok e3
              obtain rfl := Nat.eq_of_beq_eq_true hk
              have hv0 := hv
              rw [hvs] at hv0
              obtain rfl := VR.nilslc hv0
              exact ⟨Nat.le_refl _, v, _, r, w, rfl, run_room_nil hut hi hsrc (by omega), hv, by simpa using Ext.refl _ _ hM⟩
            | some a =>
              obtain ⟨b, off⟩ := a
              simp only at e2
              have hvs' : v = vslice b off l c := hvs
              rw [hvs'] at hv
              obtain ⟨b', c', hb, rfl, hcc⟩ := slice_cases hv
              rcases hcc with ⟨_, rfl⟩ | ⟨sz, c0, rfl, hc0, hle, hln⟩
              · obtain ⟨q1, u, u', w', q2, q3, q4, q5⟩ := roomO_ok (ty := ty) hut hi rfl hsrc hn e2 hG hC hM hb rfl hrm' (fun k => .slice hb hlt)
                exact ⟨q1, u, u', r, w', q2, q3, q4, q5⟩
              · have : capX * (sz + 1) = capX * sz + capX := Nat.mul_succ _ _
                omega
          | false =>
            rw [hrm] at e2
            simp only [cond_false] at e2
            have hrm' : c < l + n := by
              rcases Nat.lt_or_ge c (l + n) with q | q
              · exact q
              · rw [Nat.ble_eq_true_of_le q] at hrm; cases hrm
            obtain ⟨hk, e3⟩ := cond_ok e2
            obtain ⟨olds, g1, nx2, R3, W3, R4, W4, e4, e5, rfl, rfl⟩ := bind_ok e3
            rw [hvs] at hv
            have hv2 := hv
            obtain ⟨rfl, rfl, rfl, hol, a', c', olds', rfl, g2, g3, g4⟩ := rowsO_ok e4 hM hv
            obtain ⟨rfl, rfl, rfl, rfl⟩ := newRoom_ok e5
            have hcc : c' = c := by
              cases base with
              | none => have := VR.nilslc hv2; injection this
              | some a =>
                obtain ⟨b, off⟩ := a
                obtain ⟨b', c2, hb, hq, hcc⟩ := slice_cases (show VR r (vslice b off l c) _ from hv2)
                injection hq with _ _ hq
                rcases hcc with ⟨_, q⟩ | ⟨sz, c0, q, hc0, hle, hln⟩
                · omega
                · have : capX * (sz + 1) = capX * sz + capX := Nat.mul_succ _ _
                  omega
            subst hcc
            obtain ⟨u', r', w', q1, q2, q3⟩ := grow_ok (ty := ty) hut hi hiz hzs hsrc hn g2 hol g4 hrm' hk hM hN
            refine ⟨Nat.le_succ _, _, u', r', w', rfl, q1, q2, ?_⟩
            refine Ext.congr (by simpa using q3) fun k => .inr ?_
            rw [Tr.get_set]
theorem decN_of {o o' : Option Value} {m : Option Nat} (hd : decN o = some m) (hr : ∀ v, o = some v → ∃ v', o' = some v' ∧ VR r v v') (hn : o = none → o' = none) :
    (m = none ∧ o' = none) ∨ ∃ k n, m = some n ∧ o' = some (.int k (n : Nat)) := by
  cases o with
  | none => cases hd; exact .inl ⟨rfl, hn rfl⟩
  | some v =>
    obtain ⟨v', rfl, hv⟩ := hr v rfl
    unfold decN at hd
    simp only at hd
    cases hv2 : natVal v with
    | none => rw [hv2] at hd; cases hd
    | some n =>
      rw [hv2] at hd
      cases hd
      obtain ⟨k, rfl⟩ := natVal_of hv2
      exact .inr ⟨k, n, rfl, by rw [hv.int]⟩
theorem run_bound (k : IntKind) (n y : Nat) (code : BoundsCode) (hy : n ≤ y) (w : World) : (Instr.sliceBound (.int k (n : Nat)) y code).run P w = .ok n w := by
  rw [run_sliceBound w k (n : Int) y code (by omega) (by omega)]
  simp
theorem run_bounds {len cap : Nat} {lo hi mx : Option Nat} {lo' hi' mx' : Option Value} (h1 : (lo = none ∧ lo' = none) ∨ ∃ k n, lo = some n ∧ lo' = some (.int k (n : Nat))) (h2 : (hi = none ∧ hi' = none) ∨ ∃ k n, hi = some n ∧ hi' = some (.int k (n : Nat)))
    (h3 : (mx = none ∧ mx' = none) ∨ ∃ k n, mx = some n ∧ mx' = some (.int k (n : Nat))) (hmh : hi = none → mx = none) (a1 : orN lo 0 ≤ orN hi len) (a2 : orN hi len ≤ orN mx cap) (a3 : orN mx cap ≤ cap) (w : World) :
    (Instr.sliceBounds true len cap lo' hi' mx').run P w = .ok (orN lo 0, orN hi len, orN mx cap) w := by
  rcases h1 with ⟨rfl, rfl⟩ | ⟨k1, l, rfl, rfl⟩ <;> rcases h2 with ⟨rfl, rfl⟩ | ⟨k2, hh, rfl, rfl⟩ <;> rcases h3 with ⟨rfl, rfl⟩ | ⟨k3, m, rfl, rfl⟩ <;> simp only [orN] at a1 a2 a3 ⊢ <;>
    first
      | (cases hmh rfl; done)
      | (simp only [Instr.sliceBounds, Sem.run_bind, Sem.run_pure, Result.andThen_ok, run_bound _ _ _ _ a1, run_bound _ _ _ _ a2, run_bound _ _ _ _ a3]; done)
theorem run_cut {t e s : Nat} (ht : P.underlying t = some (.slice e)) (hs : sizeT P e = some s) {a : Option Addr} {len cap l h m : Nat} {lo' hi' mx' : Option Value} {w : World} (hb : (Instr.sliceBounds true len cap lo' hi' mx').run P w = .ok (l, h, m) w) :
    (Instr.sliceAt t (.slice a len cap) lo' hi' mx').run P w = .ok (.slice (if m = l then a else a.map (·.add (l * s))) (h - l) (m - l)) w := by
  simp [Instr.sliceAt, Instr.slice, run_underlying ht, hb, size_of hs]
theorem cutO_ok {s b off l hh m : Nat} {b' : Nat} (e : (cutO s b off l hh m : M F Nxt) h nx = .ok x h' nx' R W) (hb : r.blk b = some b') (hm : m < capX) :
    l ≤ hh ∧ hh ≤ m ∧ ∃ v, x = .val v ∧ VR r v (.slice (if m = l then some ⟨b', off, none⟩ else (some (⟨b', off, none⟩ : Addr)).map (·.add (l * s))) (hh - l) (m - l)) ∧ h' = h ∧ nx' = nx ∧ W = [] := by
  obtain ⟨hk, e2⟩ := cond_ok e
  obtain ⟨rfl, hsame⟩ := val_ok e2
  simp only [Bool.and_eq_true] at hk
  refine ⟨Nat.le_of_ble_eq_true hk.1, Nat.le_of_ble_eq_true hk.2, _, rfl, ?_, hsame⟩
  by_cases hml : m = l
  · rw [if_pos hml, show Nat.beq m l = true from by rw [hml]; exact Nat.beq_refl l]
    exact .slice hb (by omega)
  · rw [if_neg hml, show Nat.beq m l = false from by cases hq : Nat.beq m l with
      | false => rfl
      | true => exact absurd (Nat.eq_of_beq_eq_true hq) hml]
    simp only [cond_false, Option.map_some, add_off]
    exact .slice hb (by omega)
theorem slcO_ok {t : TypeId} {v v' : Value} {lo hi mx lo' hi' mx' : Option Value} (e : (slcO P t v lo hi mx : M F Nxt) h nx = .ok x h' nx' R W) (hv : VR r v v')
    (hl : ∀ v, lo = some v → ∃ v', lo' = some v' ∧ VR r v v') (hl0 : lo = none → lo' = none) (hh : ∀ v, hi = some v → ∃ v', hi' = some v' ∧ VR r v v') (hh0 : hi = none → hi' = none) (hm : ∀ v, mx = some v → ∃ v', mx' = some v' ∧ VR r v v') (hm0 : mx = none → mx' = none) :
    Just P r w x (Instr.sliceAt t v' lo' hi' mx') (h' = h ∧ nx' = nx ∧ W = []) := by
  unfold slcO at e
  cases ht : sliceT P t with
  | none => rw [ht] at e; simp [fail] at e
  | some el =>
    rw [ht] at e; simp only at e
    cases hs : sizeT P el with
    | none => rw [hs] at e; simp [fail] at e
    | some s =>
      rw [hs] at e; simp only at e
      cases hsl : sliceOf v with
      | none => rw [hsl] at e; simp [fail] at e
      | some y =>
        obtain ⟨base, n, c⟩ := y
        rw [hsl] at e; simp only at e
        cases base with
        | none => simp [fail] at e
        | some a =>
          obtain ⟨b, off⟩ := a
          simp only at e
          have hvs' : v = vslice b off n c := sliceOf_of hsl
          rw [hvs'] at hv
          obtain ⟨b', c', hb, rfl, hcc⟩ := slice_cases hv
          cases d1 : decN lo with
          | none => rw [d1] at e; simp [fail] at e
          | some lon =>
            rw [d1] at e; simp only at e
            cases d2 : decN hi with
            | none => rw [d2] at e; simp [fail] at e
            | some hin =>
              rw [d2] at e; simp only at e
              cases d3 : decN mx with
              | none => rw [d3] at e; simp [fail] at e
              | some mxn =>
                rw [d3] at e; simp only at e
                have k1 := decN_of d1 hl hl0
                have k2 := decN_of d2 hh hh0
                have k3 := decN_of d3 hm hm0
                have hut := sliceT_of ht
                unfold slcA at e
                cases mxn with
                | some m =>
                  simp only at e
                  obtain ⟨hk, e2⟩ := cond_ok e
                  cases hin with
                  | none => simp [fail] at e2
                  | some hn =>
                    simp only at e2
                    obtain ⟨hk2, e3⟩ := cond_ok e2
                    have hmx : m < capX := by have := Nat.le_of_ble_eq_true hk2; unfold capX at this ⊢; omega
                    obtain ⟨b1, b2, u, rfl, hu, hsame⟩ := cutO_ok e3 hb hmx
                    have hmc : m ≤ c' := by
                      rcases hcc with ⟨hlt, rfl⟩ | ⟨sz, c0, rfl, hc0, hle, hln⟩
                      · have hb0 : Nat.ble capX c' = false := by
                          cases hq : Nat.ble capX c' with
                          | false => rfl
                          | true => have := Nat.le_of_ble_eq_true hq; omega
                        rw [hb0] at hk; exact Nat.le_of_ble_eq_true hk
                      · have hmod : Nat.mod (capX * (sz + 1) + c0) capX = c0 := by
                          show (capX * (sz + 1) + c0) % capX = c0
                          unfold capX at hc0 ⊢; omega
                        have hb0 : Nat.ble capX (capX * (sz + 1) + c0) = true := Nat.ble_eq_true_of_le (by unfold capX; omega)
                        rw [hb0, hmod] at hk
                        have := Nat.le_of_ble_eq_true (show Nat.ble m c0 = true from hk)
                        omega
                    exact ⟨u, _, rfl, run_cut hut hs (run_bounds k1 k2 k3 (fun q => by cases q) b1 b2 hmc w), hu, hsame⟩
                | none =>
                  simp only at e
                  rcases hcc with ⟨hlt, rfl⟩ | ⟨sz, c0, rfl, hc0, hle, hln⟩
                  · have hb0 : Nat.ble capX c' = false := by
                      cases hq : Nat.ble capX c' with
                      | false => rfl
                      | true => have := Nat.le_of_ble_eq_true hq; omega
                    rw [hb0] at e
                    simp only [cond_false] at e
                    obtain ⟨b1, b2, u, rfl, hu, hsame⟩ := cutO_ok e hb hlt
                    exact ⟨u, _, rfl, run_cut hut hs (run_bounds k1 k2 k3 (fun _ => rfl) b1 b2 (Nat.le_refl _) w), hu, hsame⟩
                  · have hdiv : Nat.div (capX * (sz + 1) + c0) capX = sz + 1 := by
                      show (capX * (sz + 1) + c0) / capX = sz + 1
                      unfold capX at hc0 ⊢; omega
                    have hmod : Nat.mod (capX * (sz + 1) + c0) capX = c0 := by
                      show (capX * (sz + 1) + c0) % capX = c0
                      unfold capX at hc0 ⊢; omega
                    have hb0 : Nat.ble capX (capX * (sz + 1) + c0) = true := Nat.ble_eq_true_of_le (by unfold capX; omega)
                    rw [hb0, hmod, hdiv] at e
                    simp only [cond_true] at e
                    obtain ⟨hk, e2⟩ := cond_ok e
                    simp only [Bool.and_eq_true] at hk
                    obtain ⟨⟨q1, q2⟩, q3⟩ := hk
                    have hsz : sz = s := by have := Nat.eq_of_beq_eq_true q1; omega
                    subst hsz
                    have q2' := Nat.le_of_ble_eq_true q2
                    have q3' := Nat.le_of_ble_eq_true q3
                    have hrun : (Instr.sliceAt t (vslice b' off n c') lo' hi' mx').run P w = .ok (.slice (if c' = orN lon 0 then some ⟨b', off, none⟩ else (some (⟨b', off, none⟩ : Addr)).map (·.add (orN lon 0 * sz))) (orN hin n - orN lon 0) (c' - orN lon 0)) w :=
                      run_cut (a := some ⟨b', off, none⟩) hut hs (run_bounds (P := P) (len := n) (cap := c') k1 k2 k3 (fun _ => rfl) q2' (show orN hin n ≤ c' by omega) (Nat.le_refl _) w)
                    generalize orN lon 0 = L at *
                    generalize orN hin n = H at *
                    cases hz : Nat.beq L 0 with
                    | true =>
                      rw [hz] at e2
                      obtain ⟨rfl, hsame⟩ := val_ok e2
                      have hz0 := Nat.eq_of_beq_eq_true hz
                      subst hz0
                      refine ⟨_, _, rfl, hrun, ?_, hsame⟩
                      simp only [Nat.zero_mul, Option.map_some, add_off, Nat.add_zero, ite_self, Nat.sub_zero]
                      exact .slicex hb hc0 hle hln
                    | false =>
                      rw [hz] at e2
                      simp only [cond_false] at e2
                      obtain ⟨hk, e3⟩ := cond_ok e2
                      obtain ⟨rfl, hsame⟩ := val_ok e3
                      have hk' : L < c0 := Nat.le_of_ble_eq_true hk
                      refine ⟨_, _, rfl, hrun, ?_, hsame⟩
                      have hne : ¬ c' = L := by omega
                      rw [if_neg hne]
                      simp only [Option.map_some, add_off]
                      have e4 : capX * (sz + 1) + c0 - L = capX * (sz + 1) + (c0 - L) := by omega
                      unfold vslice
                      rw [e4]
                      refine .slicex hb (by omega) (by omega) ?_
                      have : (c' - L) * sz + L * sz = c' * sz := by rw [← Nat.add_mul]; congr 1; omega
                      omega
theorem copO_ok {t tx ty : TypeId} {v xx v' x' : Value} (e : copO P C t tx v xx h nx = .ok x h' nx' R W) (hG : C.G = S.G) (hC : C.hid = S.hn) (hM : Mod S r h.get w) (hv : VR r v v') (hx : VR r xx x') :
    nx ≤ nx' ∧ ∃ u u' w', x = .val u ∧ (Builtin.copy_ #[t, tx] ty #[v', x']).run P w = .ok u' w' ∧ VR r u u' ∧ Ext S r w nx nx' W h'.get r w' := by
  unfold copO at e
  cases ht : sliceT P t with
  | none => rw [ht] at e; simp [fail] at e
  | some el =>
    rw [ht] at e; simp only at e
    cases hs : sizeT P el with
    | none => rw [hs] at e; simp [fail] at e
    | some s =>
      rw [hs] at e; simp only at e
      cases hsl : sliceOf v with
      | none => rw [hsl] at e; simp [fail] at e
      | some y =>
        obtain ⟨base, n, c⟩ := y
        rw [hsl] at e; simp only at e
        cases hsx : sliceOf xx with
        | none => rw [hsx] at e; simp [fail] at e
        | some z =>
          obtain ⟨base2, n2, c2⟩ := z
          rw [hsx] at e; simp only at e
          obtain ⟨l, h1, nx1, R1, W1, R2, W2, e1, e2, rfl, rfl⟩ := bind_ok e
          rw [sliceOf_of hsx] at hx
          obtain ⟨rfl, rfl, rfl, hl, a', c', l', rfl, g1, g2, g3⟩ := rowsO_ok e1 hM hx
          have hut := sliceT_of ht
          have hfc : (Builtin.firstCells s (Nat.min n2 n) (.slice a' n2 c')).run P w = .ok l'.toArray w := by
            cases a' with
            | none => obtain ⟨g4, rfl⟩ := g3; exact run_firstCells_none w s _ n2 c'
            | some a => exact run_firstCells_some w s _ a n2 c' l' (by rw [g1.length, hl]) g3
          have hv0 := hv
          rw [sliceOf_of hsl] at hv0
          cases hz : Nat.beq (Nat.min n2 n) 0 with
          | true =>
            rw [hz] at e2
            obtain ⟨rfl, rfl, rfl, rfl⟩ := val_ok e2
            have h0 := Nat.eq_of_beq_eq_true hz
            have hl0 : l' = [] := List.length_eq_zero_iff.1 (by rw [g1.length, hl, h0, Nat.zero_mul])
            subst hl0
            have h0' : min n2 n = 0 := h0
            refine ⟨Nat.le_refl _, _, vint 0, w, rfl, ?_, .same rfl, by simpa using Ext.refl _ _ hM⟩
            cases base with
            | none =>
              obtain rfl := VR.nilslc hv0
              simp only [h0] at hfc
              simp [Builtin.copy_, run_underlying hut, Builtin.lenOf, size_of hs, h0, h0', hfc, goInt, vint]
            | some a =>
              obtain ⟨b, off⟩ := a
              obtain ⟨b', cc, hb, rfl, -⟩ := slice_cases (b := b) (off := off) hv0
              simp only [h0] at hfc
              simp [Builtin.copy_, run_underlying hut, Builtin.lenOf, size_of hs, vslice, h0, h0', hfc, goInt, vint, run_store_none]
          | false =>
            rw [hz] at e2
            simp only [cond_false] at e2
            cases base with
            | none => simp [fail] at e2
            | some a =>
              obtain ⟨b, off⟩ := a
              simp only at e2
              obtain ⟨b', cc, hb, rfl, -⟩ := slice_cases (b := b) (off := off) hv0
              obtain ⟨u, h2, nx2, R3, W3, R4, W4, e3, e4, rfl, rfl⟩ := bind_ok e2
              obtain ⟨rfl, rfl, rfl, rfl⟩ := val_ok e4
              obtain ⟨rfl, w', hrun, hX⟩ := storeAt_ok (P := P) e3 hG hC hM hb g1
              refine ⟨Nat.le_refl _, _, vint (Nat.min n2 n), w', rfl, ?_, .same rfl, by simpa using hX⟩
              have hr := hrun ()
              simp [Builtin.copy_, run_underlying hut, Builtin.lenOf, size_of hs, vslice, hfc, hr, goInt, vint]
theorem twoM_ok {α : Type} {l : List α} {x : α × α} (h : twoM l = some x) : l = [x.1, x.2] := by
  unfold twoM at h
  (repeat' split at h) <;> first | (cases h; done) | (cases h; rfl)
theorem isNil0_of {v : Value} (h : isNil0 v = true) : v = .slice none 0 0 := by
  unfold isNil0 at h
  (repeat' split at h) <;> first | (cases h; done) | skip
  simp only [Bool.and_eq_true] at h
  rw [Nat.eq_of_beq_eq_true h.1, Nat.eq_of_beq_eq_true h.2]
theorem nilH_ok {op : BinOp} {t : TypeId} {p q : Operand} {u v u' v' : Value} (e : (nilH P op t [u, v] : M F Nxt) h nx = .ok x h' nx' R W) (hu : VR r u u') (hv : VR r v v') :
    h' = h ∧ nx' = nx ∧ W = [] ∧ ∃ b : Bool, x = .val (.bool b) ∧ (do eqGuard op t p q u' v'; binOp op t u' v' : Sem Value).run P w = .ok (.bool b) w := by
  unfold nilH at e
  rw [show twoM [u, v] = some (u, v) from rfl] at e
  simp only at e
  cases ht : sliceT P t with
  | none => rw [ht] at e; simp [fail] at e
  | some el =>
    rw [ht] at e; simp only at e
    cases hs : sliceOf u with
    | none => rw [hs] at e; simp [fail] at e
    | some y =>
      obtain ⟨base, n, c⟩ := y
      rw [hs] at e; simp only at e
      obtain ⟨hk, e⟩ := cond_ok e
      obtain rfl := isNil0_of hk
      obtain rfl := VR.nilslc hv
      rw [sliceOf_of hs] at hu
      have key : ∃ a' c', u' = .slice a' n c' ∧ a'.isNone = base.isNone := by
        cases base with
        | none => obtain rfl := VR.nilslc hu; exact ⟨none, c, rfl, rfl⟩
        | some z =>
          obtain ⟨b, off⟩ := z
          obtain ⟨b', c', hb, rfl, -⟩ := slice_cases (b := b) (off := off) hu
          exact ⟨_, c', rfl, rfl⟩
      obtain ⟨a', c', rfl, hn⟩ := key
      have he : (Op.equal t (.slice a' n c') (.slice none 0 0)).run P w = .ok base.isNone w := by
        rw [← hn]
        exact run_equalIn_slice_nil w 9999 t el a' n c' (sliceT_of ht)
      cases op with
      | eql =>
        obtain ⟨rfl, rfl, rfl, rfl⟩ := val_ok e
        refine ⟨rfl, rfl, rfl, _, rfl, ?_⟩
        rw [Sem.run_bind]
        simp [eqGuard, binOp, he]
      | neq =>
        obtain ⟨rfl, rfl, rfl, rfl⟩ := val_ok e
        refine ⟨rfl, rfl, rfl, _, rfl, ?_⟩
        rw [Sem.run_bind]
        simp [eqGuard, binOp, he]
      | _ => simp [fail] at e
end
end Ev
end Go.Proofs.YtmioikbnjflldaaGreatDoor
namespace Go.Proofs.YtmioikbnjflldaaGreatDoor
open Go
namespace Ev
section
variable {F : Type} {S : Sig F} {P : Program}
theorem memHard_ok {C C0 : Cfg F} (hC : C.hard = memHard P C0) (h0 : C0.hid = S.hn) (hG : C0.G = S.G) : HardOK S P C := by
  intro o vs h nx x h' nx' R W hs e r w ρ hM hN hv
  rw [hC] at e
  unfold memHard at e
  cases hop : o.op with
  | slice t y lo hi mx =>
    rw [hop] at e
    have e' : (sliceH P t vs lo.isSome hi.isSome mx.isSome : M F Nxt) h nx = .ok x h' nx' R W := e
    have hops : o.op.operands.toList.map ρ = ρ y :: (lo.toList.map ρ ++ (hi.toList.map ρ ++ mx.toList.map ρ)) := by rw [hop]; cases lo <;> cases hi <;> cases mx <;> rfl
    rw [hops] at hv
    have key : Just P r w x (Instr.sliceAt t (ρ y) (lo.map ρ) (hi.map ρ) (mx.map ρ)) (h' = h ∧ nx' = nx ∧ W = []) := by
      cases hv with
      | cons hv0 hv =>
        unfold sliceH at e'
        cases lo with
        | none =>
          cases hi with
          | none =>
            cases mx with
            | none =>
              cases hv
              exact slcO_ok (lo := none) (hi := none) (mx := none) e' hv0 (fun _ q => by cases q) (fun _ => rfl) (fun _ q => by cases q) (fun _ => rfl) (fun _ q => by cases q) (fun _ => rfl)
            | some c =>
              cases hv with
              | cons hv3 hv => cases hv; exact absurd e' (by simp [fail])
          | some b =>
            cases hv with
            | cons hv2 hv =>
              cases mx with
              | none =>
                cases hv
                exact slcO_ok (lo := none) (hi := some _) (mx := none) e' hv0 (fun _ q => by cases q) (fun _ => rfl) (fun _ q => by cases q; exact ⟨_, rfl, hv2⟩) (fun q => by cases q) (fun _ q => by cases q) (fun _ => rfl)
              | some c =>
                cases hv with
                | cons hv3 hv =>
                  cases hv
                  exact slcO_ok (lo := none) (hi := some _) (mx := some _) e' hv0 (fun _ q => by cases q) (fun _ => rfl) (fun _ q => by cases q; exact ⟨_, rfl, hv2⟩) (fun q => by cases q) (fun _ q => by cases q; exact ⟨_, rfl, hv3⟩) (fun q => by cases q)
        | some a =>
          cases hv with
          | cons hv1 hv =>
            cases hi with
            | none =>
              cases mx with
              | none =>
                cases hv
                exact slcO_ok (lo := some _) (hi := none) (mx := none) e' hv0 (fun _ q => by cases q; exact ⟨_, rfl, hv1⟩) (fun q => by cases q) (fun _ q => by cases q) (fun _ => rfl) (fun _ q => by cases q) (fun _ => rfl)
              | some c =>
                cases hv with
                | cons hv3 hv => cases hv; exact absurd e' (by simp [fail])
            | some b =>
              cases hv with
              | cons hv2 hv =>
                cases mx with
                | none =>
                  cases hv
                  exact slcO_ok (lo := some _) (hi := some _) (mx := none) e' hv0 (fun _ q => by cases q; exact ⟨_, rfl, hv1⟩) (fun q => by cases q) (fun _ q => by cases q; exact ⟨_, rfl, hv2⟩) (fun q => by cases q) (fun _ q => by cases q) (fun _ => rfl)
                | some c =>
                  cases hv with
                  | cons hv3 hv =>
                    cases hv
                    exact slcO_ok (lo := some _) (hi := some _) (mx := some _) e' hv0 (fun _ q => by cases q; exact ⟨_, rfl, hv1⟩) (fun q => by cases q) (fun _ q => by cases q; exact ⟨_, rfl, hv2⟩) (fun q => by cases q) (fun _ q => by cases q; exact ⟨_, rfl, hv3⟩) (fun q => by cases q)
    refine key.after hM fun v hv => ?_
    simp only [execOp, hop, Sem.run_bind, hv, Result.andThen_ok, Sem.run_pure]
  | binOp op t p q yt =>
    rw [hop] at e
    simp only at e
    have hops : o.op.operands.toList.map ρ = [ρ p, ρ q] := by rw [hop]; rfl
    rw [hops] at hv
    cases ht2 : twoM vs with
    | none =>
      unfold nilH at e
      rw [ht2] at e; exact absurd e (by simp [fail])
    | some y =>
      obtain rfl := twoM_ok ht2
      cases hv with
      | cons hu hv => cases hv with
        | cons hz hn =>
          obtain ⟨rfl, rfl, rfl, b, rfl, hrun⟩ := nilH_ok (p := p) (q := q) (w := w) e hu hz
          refine ⟨Nat.le_refl _, .bool b, w, r, ?_, .same rfl, Ext.refl _ _ hM⟩
          simp only [execOp, hop]
          rw [Sem.run_bind, hrun]
          rfl
  | call c =>
    rw [hop] at e
    obtain ⟨callee, args, ats⟩ := c
    cases callee with
    | builtin b =>
      simp only at e
      have hops : o.op.operands.toList.map ρ = args.toList.map ρ := by rw [hop]; simp [Op.operands, Call.operands]
      rw [hops] at hv
      cases ht2 : twoM vs with
      | none => rw [ht2] at e; exact absurd e (by simp [fail])
      | some y =>
        rw [ht2] at e; simp only at e
        obtain rfl := twoM_ok ht2
        cases ha0 : ats[0]? with
        | none => rw [ha0] at e; exact absurd e (by simp [fail])
        | some t =>
          rw [ha0] at e; simp only at e
          cases ha1 : ats[1]? with
          | none => rw [ha1] at e; exact absurd e (by simp [fail])
          | some tx =>
            rw [ha1] at e; simp only at e
            generalize hl : args.toList.map ρ = al at hv
            cases hv with
            | cons hu hv => cases hv with
              | cons hz hn =>
                cases hn
                rename_i u' z'
                have hA : args.map ρ = #[u', z'] := by rw [map_list, hl]
                cases b <;> first
                  | (exact absurd (show (fail : M F Nxt) h nx = _ from e) (by simp [fail]))
                  | skip
                · obtain ⟨q1, v, v', r', w', rfl, hrun, q2, q3⟩ := appO_ok (ty := o.type) e h0 hG hM hN hu hz
                  refine ⟨q1, v', w', r', ?_, q2, q3⟩
                  have hsame : Builtin.append_ ats o.type #[u', z'] = Builtin.append_ #[t, tx] o.type #[u', z'] := by simp [Builtin.append_, ha0, ha1]
                  simp only [execOp, hop, resolve, hA, Sem.run_bind, Sem.run_pure, Result.andThen_ok, invoke, builtin, hsame, hrun]
                · obtain ⟨q1, v, v', w', rfl, hrun, q2, q3⟩ := copO_ok (ty := o.type) e hG h0 hM hu hz
                  refine ⟨q1, v', w', r, ?_, q2, q3⟩
                  have hsame : Builtin.copy_ ats o.type #[u', z'] = Builtin.copy_ #[t, tx] o.type #[u', z'] := by simp [Builtin.copy_, ha0]
                  simp only [execOp, hop, resolve, hA, Sem.run_bind, Sem.run_pure, Result.andThen_ok, invoke, builtin, hsame, hrun]
    | _ => exact absurd e (by simp [fail])
  | _ => rw [hop] at e; exact absurd e (by simp [fail])
end
end Ev
end Go.Proofs.YtmioikbnjflldaaGreatDoor
