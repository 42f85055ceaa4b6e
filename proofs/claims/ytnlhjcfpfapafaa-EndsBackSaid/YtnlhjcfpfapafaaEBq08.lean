/- Contracts. -/
import Derived.Test.YtnlhjcfpfapafaaEBq05
import Derived.Deep.AppendSrc
import Derived.Laws.AppendOwn
import Derived.Laws.Slices
namespace Go.Proofs.Ytnlhjcfpfapafaa
open Go
namespace Ev
section
variable {F : Type} (P : Program) (C : Cfg F)
noncomputable def eszT (e : TypeId) : Option (Nat × Nat × Value) := match P.info? e with
 | some i => match i.zero with
  | some z => cond (plain2 z && Nat.beq (cellsOf z).length i.size) (some (i.size, i.bytes, z)) none
  | none => none
 | none => none
noncomputable def isStrTm (t : TypeId) : Bool := match P.underlying t with
 | some d => match d with
  | .string => true
  | _ => false
 | none => false
noncomputable def rowO (b off n : Nat) : M F (List Value) := bind (rdAny b) fun y => match getRow y.1 off n with
 | some l => cond (plainL isOne l) (ret l) fail
 | none => fail
noncomputable def rowsO (base : Option (Nat × Nat)) (n size : Nat) : M F (List Value) := match base with
 | some x => rowO x.1 x.2 (n * size)
 | none => cond (Nat.beq n 0) (ret []) fail
noncomputable def srcO (size : Nat) (tx : TypeId) (x : Value) : M F (Nat × List Value) := match sliceOf x with
 | some y => match sliceT P tx with
  | some _ => bind (rowsO y.1 y.2.1 size) fun l => ret (y.2.1, l)
  | none => fail
 | none => match x with
  | .string s => cond (Nat.beq size 1 && isStrTm P tx) (ret (s.size, byteCells s)) fail
  | _ => fail
noncomputable def roomO (size b off l n c : Nat) (news : List Value) : M F Nxt := cond (Nat.beq n 0) (val (vslice b off l c)) (bind (storeAt C b (off + l * size) news) fun _ => val (vslice b off (l + n) c))
noncomputable def newRoom (e : TypeId) (size k : Nat) (cs : List Value) : M F Nxt := bind (fresh (.room cs e)) fun m => val (vslice m 0 k (capX * (size + 1) + k))
noncomputable def moveO (e : TypeId) (size b l n cc : Nat) (news : List Value) : M F Nxt := bind (rdAny b) fun y =>
 cond (y.2.2 && Nat.beq y.2.1 e && (Nat.beq (cc * size) y.1.length && isMore y.1) && (Nat.ble l cc && Nat.ble C.G b && !C.hid b e))
  (bind (wr b (.room [] e)) fun _ => newRoom e size (l + n) (y.1.take (l * size) ++ news)) fail
noncomputable def roomB (bytes k : Nat) : Bool := Nat.ble (k * bytes) 1048576 && Nat.ble k 1048576
noncomputable def appO (t tx : TypeId) (v x : Value) : M F Nxt := match sliceT P t with
 | some e => match eszT P e with
  | some i => match sliceOf v with
   | some y => bind (srcO P i.1 tx x) fun s =>
    cond (Nat.ble capX y.2.2)
     (match y.1 with
      | some a => cond (Nat.beq (Nat.div y.2.2 capX) (Nat.succ i.1))
       (cond (Nat.ble (y.2.1 + s.1) (Nat.mod y.2.2 capX)) (roomO C i.1 a.1 a.2 y.2.1 s.1 y.2.2 s.2)
        (cond (Nat.beq a.2 0 && roomB i.2.1 (y.2.1 + s.1)) (moveO C e i.1 a.1 y.2.1 s.1 (Nat.mod y.2.2 capX) s.2) fail)) fail
      | none => fail)
     (cond (Nat.ble (y.2.1 + s.1) y.2.2)
      (match y.1 with
       | some a => roomO C i.1 a.1 a.2 y.2.1 s.1 y.2.2 s.2
       | none => cond (Nat.beq s.1 0) (val v) fail)
      (cond (roomB i.2.1 (y.2.1 + s.1)) (bind (rowsO y.1 y.2.1 i.1) fun olds => newRoom e i.1 (y.2.1 + s.1) (olds ++ s.2)) fail))
   | none => fail
  | none => fail
 | none => fail
noncomputable def decN (o : Option Value) : Option (Option Nat) := match o with
 | some v => match natVal v with
  | some n => some (some n)
  | none => none
 | none => some none
noncomputable def orN (o : Option Nat) (d : Nat) : Nat := match o with
 | some n => n
 | none => d
noncomputable def cutO (s b off l h m : Nat) : M F Nxt := cond (Nat.ble l h && Nat.ble h m) (val (vslice b (cond (Nat.beq m l) off (off + l * s)) (h - l) (m - l))) fail
noncomputable def slcA (s : Nat) (a : Nat × Nat) (n c : Nat) (lo hi mx : Option Nat) : M F Nxt := match mx with
 | some m => cond (Nat.ble m (cond (Nat.ble capX c) (Nat.mod c capX) c)) (match hi with
  | some h => cond (Nat.ble m (capX - 1)) (cutO s a.1 a.2 (orN lo 0) h m) fail
  | none => fail) fail
 | none => cond (Nat.ble capX c)
  (cond (Nat.beq (Nat.div c capX) (Nat.succ s) && Nat.ble (orN lo 0) (orN hi n) && Nat.ble (orN hi n) (Nat.mod c capX))
   (cond (Nat.beq (orN lo 0) 0) (val (vslice a.1 a.2 (orN hi n) c)) (cond (Nat.ble (Nat.succ (orN lo 0)) (Nat.mod c capX)) (val (vslice a.1 (a.2 + orN lo 0 * s) (orN hi n - orN lo 0) (c - orN lo 0))) fail)) fail)
  (cutO s a.1 a.2 (orN lo 0) (orN hi n) c)
noncomputable def slcO (t : TypeId) (v : Value) (lo hi mx : Option Value) : M F Nxt := match sliceT P t with
 | some e => match sizeT P e with
  | some s => match sliceOf v with
   | some y => match y.1 with
    | some a => match decN lo with
     | some lo => match decN hi with
      | some hi => match decN mx with
       | some mx => slcA s a y.2.1 y.2.2 lo hi mx
       | none => fail
      | none => fail
     | none => fail
    | none => fail
   | none => fail
  | none => fail
 | none => fail
noncomputable def copO (t tx : TypeId) (d x : Value) : M F Nxt := match sliceT P t with
 | some e => match sizeT P e with
  | some s => match sliceOf d with
   | some y => match sliceOf x with
    | some z => bind (rowsO z.1 (Nat.min z.2.1 y.2.1) s) fun l => cond (Nat.beq (Nat.min z.2.1 y.2.1) 0) (val (vint 0)) (match y.1 with
     | some a => bind (storeAt C a.1 a.2 l) fun _ => val (vint (Nat.min z.2.1 y.2.1))
     | none => fail)
    | none => fail
   | none => fail
  | none => fail
 | none => fail
noncomputable def twoM {α : Type} (l : List α) : Option (α × α) := match l with
 | a :: l => match l with
  | b :: l => match l with
   | [] => some (a, b)
   | _ :: _ => none
  | [] => none
 | [] => none
noncomputable def sliceH (t : TypeId) (vs : List Value) (lo hi mx : Bool) : M F Nxt := match vs with
 | v :: l => match lo, l with
  | true, a :: l => match hi, l with
   | true, b :: l => match mx, l with
    | true, [c] => slcO P t v (some a) (some b) (some c)
    | false, [] => slcO P t v (some a) (some b) none
    | _, _ => fail
   | false, [] => cond mx fail (slcO P t v (some a) none none)
   | _, _ => fail
  | false, l => match hi, l with
   | true, b :: l => match mx, l with
    | true, [c] => slcO P t v none (some b) (some c)
    | false, [] => slcO P t v none (some b) none
    | _, _ => fail
   | false, [] => cond mx fail (slcO P t v none none none)
   | _, _ => fail
  | _, _ => fail
 | [] => fail
noncomputable def oneM {α : Type} (l : List α) : Option α := match l with
 | a :: l => match l with
  | [] => some a
  | _ :: _ => none
 | [] => none
noncomputable def capO (t : TypeId) (v : Value) : M F Nxt := match sliceT P t with
 | some _ => match sliceOf v with
  | some y => cond (Nat.ble (Nat.succ y.2.2) capX) (val (vint y.2.2)) fail
  | none => fail
 | none => fail
noncomputable def isNil0 (v : Value) : Bool := match v with
 | .slice a n c => match a with
  | none => Nat.beq n 0 && Nat.beq c 0
  | some _ => false
 | _ => false
noncomputable def isIntTm (t : TypeId) : Bool := match P.underlying t with
 | some d => match d with
  | .int _ => true
  | _ => false
 | none => false
noncomputable def zerO (t tx : TypeId) (v : Value) (n : Nat) : M F Nxt := match sliceT P t with
 | some e => match eszT P e with
  | some i => cond (isNil0 v && isIntTm P tx && (Nat.ble 1 n && roomB i.2.1 n)) (newRoom e i.1 n (Builtin.zeroCells i.2.2.cells n).toList) fail
  | none => fail
 | none => fail
noncomputable def isPtrT (t : TypeId) : Bool := match P.underlying t with
 | some d => match d with
  | .pointer _ => true
  | _ => false
 | none => false
noncomputable def nilP (op : BinOp) (t : TypeId) (u v : Value) : M F Nxt := cond (isPtrT P t) (match u with
 | .pointer a => match v with
  | .pointer b => match b with
   | none => match op with
    | .eql => val (.bool a.isNone)
    | .neq => val (.bool (!a.isNone))
    | _ => fail
   | some _ => fail
  | _ => fail
 | _ => fail) fail
noncomputable def nilH (op : BinOp) (t : TypeId) (vs : List Value) : M F Nxt := match twoM vs with
 | some x => match sliceT P t with
  | some _ => match sliceOf x.1 with
   | some y => cond (isNil0 x.2) (match op with
    | .eql => val (.bool y.1.isNone)
    | .neq => val (.bool (!y.1.isNone))
    | _ => fail) fail
   | none => fail
  | none => nilP P op t x.1 x.2
 | none => fail
noncomputable def memHard (o : Oper) (vs : List Value) : M F Nxt := match o.op with
 | .binOp op t _ _ _ => nilH P op t vs
 | .slice t _ lo hi mx => sliceH P t vs lo.isSome hi.isSome mx.isSome
 | .call c => match c.callee with
  | .builtin b => match twoM vs with
   | some x => match c.argTypes[0]? with
    | some t => match c.argTypes[1]? with
     | some tx => match b with
      | .append => match natVal x.2 with
       | some n => zerO P t tx x.1 n
       | none => appO P C t tx x.1 x.2
      | .copy => copO P C t tx x.1 x.2
      | _ => fail
     | none => fail
    | none => fail
   | none => match oneM vs with
    | some v => match c.argTypes[0]? with
     | some t => match b with
      | .cap => capO P t v
      | _ => fail
     | none => fail
    | none => fail
  | _ => fail
 | _ => fail
theorem loc_rowO (b off n : Nat) : Loc (rowO b off n : M F (List Value)) := loc_bind (loc_rdAny _) fun y => by
 split
 ·exact loc_cond (loc_ret _) loc_fail
 ·exact loc_fail
theorem loc_rowsO (base : Option (Nat × Nat)) (n size : Nat) : Loc (rowsO base n size : M F (List Value)) := by
 unfold rowsO
 split
 ·exact loc_rowO _ _ _
 ·exact loc_cond (loc_ret _) loc_fail
theorem loc_srcO (size : Nat) (tx : TypeId) (x : Value) : Loc (srcO P size tx x : M F (Nat × List Value)) := by
 unfold srcO
 (repeat' split) <;> first | exact loc_fail | exact loc_bind (loc_rowsO _ _ _) fun _ => loc_ret _ | exact loc_cond (loc_ret _) loc_fail
theorem loc_roomO (size b off l n c : Nat) (news : List Value) : Loc (roomO C size b off l n c news) := loc_cond (loc_val _) (loc_bind (loc_storeAt _ _ _ _) fun _ => loc_val _)
theorem loc_newRoom (e : TypeId) (size k : Nat) (cs : List Value) : Loc (newRoom e size k cs : M F Nxt) := loc_bind (loc_fresh _) fun _ => loc_val _
theorem loc_moveO (e : TypeId) (size b l n cc : Nat) (news : List Value) : Loc (moveO C e size b l n cc news) := loc_bind (loc_rdAny _) fun _ => loc_cond (loc_bind (loc_wr _ _) fun _ => loc_newRoom _ _ _ _) loc_fail
theorem loc_appO (t tx : TypeId) (v x : Value) : Loc (appO P C t tx v x) := by
 unfold appO
 (repeat' split) <;> first
  | exact loc_fail
  | exact loc_bind (loc_srcO _ _ _ _) fun s => loc_cond (by first | exact loc_fail | exact loc_cond (loc_cond (loc_roomO _ _ _ _ _ _ _ _) (loc_cond (loc_moveO _ _ _ _ _ _ _ _) loc_fail)) loc_fail)
     (loc_cond (by first | exact loc_roomO _ _ _ _ _ _ _ _ | exact loc_cond (loc_val _) loc_fail) (loc_cond (loc_bind (loc_rowsO _ _ _) fun _ => loc_newRoom _ _ _ _) loc_fail))
theorem loc_cutO (s b off l h m : Nat) : Loc (cutO s b off l h m : M F Nxt) := loc_cond (loc_val _) loc_fail
theorem loc_slcA (s : Nat) (a : Nat × Nat) (n c : Nat) (lo hi mx : Option Nat) : Loc (slcA s a n c lo hi mx : M F Nxt) := by
 unfold slcA
 split
 ·refine loc_cond ?_ loc_fail
  split
  ·exact loc_cond (loc_cutO _ _ _ _ _ _) loc_fail
  ·exact loc_fail
 ·exact loc_cond (loc_cond (loc_cond (loc_val _) (loc_cond (loc_val _) loc_fail)) loc_fail) (loc_cutO _ _ _ _ _ _)
theorem loc_slcO (t : TypeId) (v : Value) (lo hi mx : Option Value) : Loc (slcO P t v lo hi mx : M F Nxt) := by
 unfold slcO
 (repeat' split) <;> first | exact loc_fail | exact loc_slcA _ _ _ _ _ _ _
theorem loc_copO (t tx : TypeId) (d x : Value) : Loc (copO P C t tx d x) := by
 unfold copO
 (repeat' split) <;> first
  | exact loc_fail
  | exact loc_bind (loc_rowsO _ _ _) fun _ => loc_cond (loc_val _) (by first | exact loc_fail | exact loc_bind (loc_storeAt _ _ _ _) fun _ => loc_val _)
theorem loc_sliceH (t : TypeId) (vs : List Value) (lo hi mx : Bool) : Loc (sliceH P t vs lo hi mx : M F Nxt) := by
 unfold sliceH
 (repeat' split) <;> first | exact loc_fail | exact loc_slcO _ _ _ _ _ _ | exact loc_cond loc_fail (loc_slcO _ _ _ _ _ _)
theorem loc_nilP (op : BinOp) (t : TypeId) (u v : Value) : Loc (nilP P op t u v : M F Nxt) := by
 unfold nilP
 refine loc_cond ?_ loc_fail
 (repeat' split) <;> first | exact loc_fail | exact loc_val _
theorem loc_nilH (op : BinOp) (t : TypeId) (vs : List Value) : Loc (nilH P op t vs : M F Nxt) := by
 unfold nilH
 (repeat' split) <;> first | exact loc_fail | exact loc_nilP _ _ _ _ _ | exact loc_cond (by (repeat' split) <;> first | exact loc_fail | exact loc_val _) loc_fail
theorem loc_zerO (t tx : TypeId) (v : Value) (n : Nat) : Loc (zerO P t tx v n : M F Nxt) := by
 unfold zerO
 (repeat' split) <;> first | exact loc_fail | exact loc_cond (loc_newRoom _ _ _ _) loc_fail
theorem loc_capO (t : TypeId) (v : Value) : Loc (capO P t v : M F Nxt) := by
 unfold capO
 (repeat' split) <;> first | exact loc_fail | exact loc_cond (loc_val _) loc_fail
theorem loc_memHard (o : Oper) (vs : List Value) : Loc (memHard P C o vs) := by
 unfold memHard
 (repeat' split) <;> first | exact loc_fail | exact loc_capO _ _ _ | exact loc_nilH _ _ _ _ | exact loc_sliceH _ _ _ _ _ _ | exact loc_appO _ _ _ _ _ _ | exact loc_zerO _ _ _ _ _ | exact loc_copO _ _ _ _ _ _
end
section
variable {F : Type} {S : Sig F} {P : Program} {C : Cfg F}
variable {h h' : Tr (Blk F)} {nx nx' : Nat} {R W : List Nat} {r : Ren} {w : World} {x : Nxt}
theorem slice_cases {b off l c : Nat} {v' : Value} (h : VR r (vslice b off l c) v') : ∃ b' c', r.blk b = some b' ∧ v' = vslice b' off l c' ∧
  ((c < capX ∧ c' = c) ∨ ∃ s c0, c = capX * (s + 1) + c0 ∧ c0 < capX ∧ c0 ≤ c' ∧ off + c' * s ≤ r.len b) := by
 unfold vslice at h
 cases h with
 | same p => simp [plain] at p
 | slice hb hc => exact ⟨_, _, hb, rfl, .inl ⟨hc, rfl⟩⟩
 | slicex hb hc h1 h2 => exact ⟨_, _, hb, rfl, .inr ⟨_, _, rfl, hc, h1, h2⟩⟩
theorem eszT_of {e size bytes : Nat} {z : Value} (h : eszT P e = some (size, bytes, z)) : ∃ i, P.info? e = some i ∧ i.zero = some z ∧ i.size = size ∧ i.bytes = bytes ∧ z.cells.size = size ∧ plain2 z = true := by
 unfold eszT at h
 split at h
 case h_2 => cases h
 case h_1 i hi =>
  split at h
  case h_2 => cases h
  case h_1 z' hz =>
   cases hk : (plain2 z' && Nat.beq (cellsOf z').length i.size) with
   | false => rw [hk] at h; cases h
   | true =>
    rw [hk] at h
    simp only [cond_true, Option.some.injEq, Prod.mk.injEq] at h
    obtain ⟨rfl, rfl, rfl⟩ := h
    simp only [Bool.and_eq_true] at hk
    refine ⟨i, hi, hz, rfl, rfl, ?_, hk.1⟩
    rw [← Nat.eq_of_beq_eq_true hk.2, ← cells_list, Array.length_toList]
theorem rowO_ok {b off n : Nat} {l : List Value} {b' : Nat} (e : (rowO b off n : M F _) h nx = .ok l h' nx' R W) (hM : Mod S r h.get w) (hb : r.blk b = some b') :
  h' = h ∧ nx' = nx ∧ W = [] ∧ l.length = n ∧ ∃ l', VsR r l l' ∧ (∀ u ∈ l', u.oneCell' = true) ∧ ∀ j u, l'[j]? = some u → w.cell? ⟨b', off + j, none⟩ = some u := by
 unfold rowO at e
 obtain ⟨y, h1, nx1, R1, W1, R2, W2, e1, e2, rfl, rfl⟩ := bind_ok e
 obtain ⟨hg, rfl, rfl, rfl⟩ := rdAny_ok e1
 cases hr : getRow y.1 off n with
 | none => rw [hr] at e2; simp [fail] at e2
 | some l2 =>
  rw [hr] at e2
  obtain ⟨hk, e3⟩ := cond_ok e2
  obtain ⟨rfl, rfl, rfl, rfl⟩ := ret_ok e3
  obtain ⟨rfl, hl⟩ := getRow_ok hr
  obtain ⟨b3, c', hb3, hh, hc, -⟩ := hM.any hg
  obtain rfl : b3 = b' := by rw [hb] at hb3; injection hb3 with e; exact e.symm
  have hsg := pre_seg hc hl
  refine ⟨rfl, rfl, rfl, hl, _, hsg, hsg.ones hk, fun j u hj => ?_⟩
  simp only [World.cell?, hh]
  rw [List.getElem?_take] at hj
  split at hj
  ·rw [List.getElem?_drop] at hj; simpa using hj
  ·cases hj
theorem rowsO_ok {v' : Value} {base : Option (Nat × Nat)} {n k c size : Nat} {l : List Value} (e : (rowsO base n size : M F _) h nx = .ok l h' nx' R W) (hM : Mod S r h.get w)
  (hv : VR r (.slice (base.map fun y => ⟨y.1, y.2, none⟩) k c) v') : h' = h ∧ nx' = nx ∧ W = [] ∧ l.length = n * size ∧ ∃ a' c' l', v' = .slice a' k c' ∧ VsR r l l' ∧ (∀ u ∈ l', u.oneCell' = true) ∧
   (match a' with | some a => ∀ j u, l'[j]? = some u → w.cell? (a.add j) = some u | none => n = 0 ∧ l' = []) := by
 cases base with
 | none =>
  unfold rowsO at e
  obtain ⟨hk, e3⟩ := cond_ok e
  obtain ⟨rfl, rfl, rfl, rfl⟩ := ret_ok e3
  obtain rfl := Nat.eq_of_beq_eq_true hk
  obtain rfl := VR.nilslc hv
  exact ⟨rfl, rfl, rfl, by simp, none, c, [], rfl, .nil, by simp, rfl, rfl⟩
 | some y =>
  obtain ⟨b, off⟩ := y
  obtain ⟨b', c', hb, rfl, -⟩ := slice_cases (b := b) (off := off) hv
  obtain ⟨rfl, rfl, rfl, hl, l', h1, h2, h3⟩ := rowO_ok (show (rowO b off (n * size) : M F _) h nx = _ from e) hM hb
  exact ⟨rfl, rfl, rfl, hl, _, c', l', rfl, h1, h2, fun j u hj => by rw [add_off]; exact h3 j u hj⟩
theorem byteCells_plain (s : ByteArray) : VsR r (byteCells s) (byteCells s) := by
 unfold byteCells
 generalize s.data.toList = l
 induction l with
 | nil => exact .nil
 | cons a l ih => exact .cons (.same rfl) ih
theorem isStrT_of {t : TypeId} (h : isStrTm P t = true) : P.underlying t = some .string := by
 unfold isStrTm at h
 (repeat' split at h) <;> first | (cases h; done) | assumption
theorem srcO_ok {size : Nat} {tx : TypeId} {v v' : Value} {s : Nat × List Value} (e : srcO P size tx v h nx = .ok s h' nx' R W) (hM : Mod S r h.get w) (hv : VR r v v') :
  h' = h ∧ nx' = nx ∧ W = [] ∧ ∃ l', Src P size tx v' s.1 l' w ∧ VsR r s.2 l' := by
 unfold srcO at e
 cases hs : sliceOf v with
 | some y =>
  rw [hs] at e; simp only at e
  cases ht : sliceT P tx with
  | none => rw [ht] at e; simp [fail] at e
  | some el =>
   rw [ht] at e; simp only at e
   obtain ⟨l, h1, nx1, R1, W1, R2, W2, e1, e2, rfl, rfl⟩ := bind_ok e
   obtain ⟨rfl, rfl, rfl, rfl⟩ := ret_ok e2
   rw [sliceOf_of hs] at hv
   obtain ⟨rfl, rfl, rfl, hl, a', c', l', rfl, g1, g2, g3⟩ := rowsO_ok e1 hM hv
   refine ⟨rfl, rfl, by simp, l', ?_, g1⟩
   cases a' with
   | none => obtain ⟨g4, rfl⟩ := g3; rw [show y.2.1 = 0 from g4]; exact Src.ofNil w (sliceT_of ht) _
   | some a => exact Src.ofSlice w (sliceT_of ht) a _ _ l' (by rw [g1.length, hl]) g3 g2
 | none =>
  rw [hs] at e; simp only at e
  cases v with
  | string t =>
   simp only at e
   obtain ⟨hk, e3⟩ := cond_ok e
   obtain ⟨rfl, rfl, rfl, rfl⟩ := ret_ok e3
   simp only [Bool.and_eq_true] at hk
   obtain rfl := Nat.eq_of_beq_eq_true hk.1
   obtain rfl := hv.str
   exact ⟨rfl, rfl, rfl, _, Src.ofString w (isStrT_of hk.2) t, byteCells_plain t⟩
  | _ => simp [fail] at e
theorem run_room {t tx ty e : TypeId} {i : TypeInfo} (ht : P.underlying t = some (.slice e)) (hi : P.info? e = some i) {b off sLen sCap : Nat} {x : Value} {n : Nat} {news : List Value} {w w' : World} (hs : Src P i.size tx x n news w)
  (hroom : sLen + n ≤ sCap) (hst : (storeCells ⟨b, off + sLen * i.size, none⟩ news).run P w = .ok () w') :
  (Builtin.append_ #[t, tx] ty #[.slice (some ⟨b, off, none⟩) sLen sCap, x]).run P w = .ok (.slice (some ⟨b, off, none⟩) (sLen + n) sCap) w' := by
 rcases hs.kind with ⟨e', hk⟩ | hk <;> simp [Builtin.append_, run_underlying ht, run_underlying hk, sizeOf, typeInfo, hi, hs.len, hroom, hs.cells, Addr.add_lit, hst]
theorem run_store_none {a : Addr} {w : World} : (storeCells a []).run P w = .ok () w := by
 simp [storeCells]
theorem run_room_nil {t tx ty e : TypeId} {i : TypeInfo} (ht : P.underlying t = some (.slice e)) (hi : P.info? e = some i) {sLen sCap : Nat} {x : Value} {news : List Value} {w : World} (hs : Src P i.size tx x 0 news w) (hroom : sLen ≤ sCap) :
  (Builtin.append_ #[t, tx] ty #[.slice none sLen sCap, x]).run P w = .ok (.slice none sLen sCap) w := by
 rcases hs.kind with ⟨e', hk⟩ | hk <;> simp [Builtin.append_, run_underlying ht, run_underlying hk, sizeOf, typeInfo, hi, hs.len, hroom, hs.cells]
theorem roomO_ok {t tx ty e : TypeId} {i : TypeInfo} (ht : P.underlying t = some (.slice e)) (hi : P.info? e = some i) {b off l n c : Nat} {news news' : List Value} {x' v' : Value} {s : Nat} (hsz : i.size = s) (hs : Src P i.size tx x' n news' w) (hn : VsR r news news')
  (e1 : roomO C s b off l n c news h nx = .ok x h' nx' R W) (hG : C.G = S.G) (hC : C.hid = S.hn) (hM : Mod S r h.get w) {b' c' : Nat} (hb : r.blk b = some b') (hv : v' = vslice b' off l c') (hc : l + n ≤ c')
  (hval : ∀ k, VR r (vslice b off k c) (vslice b' off k c')) :
  nx ≤ nx' ∧ ∃ u u' w', x = .val u ∧ (Builtin.append_ #[t, tx] ty #[v', x']).run P w = .ok u' w' ∧ VR r u u' ∧ Ext S r w nx nx' W h'.get r w' := by
 subst hsz
 subst hv
 unfold roomO at e1
 cases hz : Nat.beq n 0 with
 | true =>
  rw [hz] at e1
  obtain ⟨rfl, rfl, rfl, rfl⟩ := val_ok e1
  obtain rfl := Nat.eq_of_beq_eq_true hz
  have h0 : news' = [] := by have := hs.newsLen; simpa using this
  subst h0
  exact ⟨Nat.le_refl _, _, _, w, rfl, run_room ht hi hs hc run_store_none, hval l, Ext.refl _ _ hM⟩
 | false =>
  rw [hz] at e1
  obtain ⟨u, h1, nx1, R1, W1, R2, W2, e2, e3, rfl, rfl⟩ := bind_ok (show bind (storeAt C b (off + l * i.size) news) (fun _ => val (vslice b off (l + n) c)) h nx = _ from e1)
  obtain ⟨rfl, rfl, rfl, rfl⟩ := val_ok e3
  obtain ⟨rfl, w', hrun, hX⟩ := storeAt_ok (P := P) e2 hG hC hM hb hn
  exact ⟨Nat.le_refl _, _, _, w', rfl, run_room ht hi hs hc (hrun ()), hval _, by simpa using hX⟩
theorem zero_len (z : Array Value) (n : Nat) : (Builtin.zeroCells z n).size = n * z.size := by simp [Builtin.zeroCells]
theorem pre_more {c c' : List Value} (hc : VsR r c c') (m : List Value) : VsR r c ((c' ++ m).take c.length) := by
 rw [List.take_append_of_le_length (by rw [hc.length]; exact Nat.le_refl _), List.take_of_length_le (by rw [hc.length]; exact Nat.le_refl _)]; exact hc
theorem fits_of {bytes k old : Nat} (h : roomB bytes k = true) (ho : old < k) : ((k : Nat) : Int) ≤ 9223372036854775807 ∧ Builtin.nextslicecap k old * bytes ≤ 281474976710656 ∧ k < capX := by
 unfold roomB at h
 simp only [Bool.and_eq_true] at h
 have h1 := Nat.le_of_ble_eq_true h.1
 have h2 := Nat.le_of_ble_eq_true h.2
 refine ⟨by omega, growslice_fits ho (by omega), by unfold capX; omega⟩
theorem grow_ok {t tx ty e : TypeId} {i : TypeInfo} {z : Value} (ht : P.underlying t = some (.slice e)) (hi : P.info? e = some i) (hz : i.zero = some z) (hzs : z.cells.size = i.size) {a' : Option Addr} {l n c' : Nat} {olds olds' news news' : List Value} {x' : Value}
  (hs : Src P i.size tx x' n news' w) (hn : VsR r news news') (ho : VsR r olds olds') (hol : olds.length = l * i.size)
  (hold : match a' with | some a => ∀ j u, olds'[j]? = some u → w.cell? (a.add j) = some u | none => l = 0 ∧ olds' = [])
  (hg : c' < l + n) (hf : roomB i.bytes (l + n) = true) (hM : Mod S r h.get w) (hN : New r nx (nx + 1)) :
  ∃ u' r' w', (Builtin.append_ #[t, tx] ty #[.slice a' l c', x']).run P w = .ok u' w' ∧ VR r' (vslice nx 0 (l + n) (capX * (i.size + 1) + (l + n))) u' ∧
   Ext S r w nx (nx + 1) [] (fun k => if k = nx then some (.room (olds ++ news) e) else h.get k) r' w' := by
 obtain ⟨f1, f2, f3⟩ := fits_of hf hg
 have hold' : (Builtin.firstCells i.size l (.slice a' l c')).run P w.drew = .ok olds'.toArray w.drew := by
  cases a' with
  | none => obtain ⟨rfl, rfl⟩ := hold; exact run_firstCells_none w.drew i.size 0 0 c'
  | some a => exact run_firstCells_some w.drew i.size l a l c' olds' (by rw [ho.length, hol]) (by simpa using hold)
 have hrun := run_append_grow_src (P := P) w t tx ty e i z ht hi hz a' l c' olds' hold' x' n news' hs hg f1 f2
 have hge := grownCap_ge w (l + n) c' e
 have hnl := hs.newsLen
 have hlen : ((olds' ++ news').toArray ++ Builtin.zeroCells z.cells (grownCap w (l + n) c' e - (l + n))).size = grownCap w (l + n) c' e * i.size := by
  rw [Array.size_append, zero_len, hzs]
  simp only [List.size_toArray, List.length_append, ho.length, hol, hnl]
  rw [← Nat.add_mul, ← Nat.add_mul]
  congr 1
  omega
 have hcells : ((olds' ++ news').toArray ++ Builtin.zeroCells z.cells (grownCap w (l + n) c' e - (l + n))) = ⟨(olds' ++ news') ++ (Builtin.zeroCells z.cells (grownCap w (l + n) c' e - (l + n))).toList⟩ := by
  apply Array.ext'
  simp
 obtain ⟨r', hX, hb, hlr⟩ := ext_new (w0 := w.drew) (x := .room (olds ++ news) e) (c' := (olds' ++ news') ++ (Builtin.zeroCells z.cells (grownCap w (l + n) c' e - (l + n))).toList) hM hN rfl rfl rfl rfl (.inr ⟨_, rfl, pre_more (ho.append hn) _⟩)
 refine ⟨_, r', _, hrun, .slicex hb f3 hge ?_, ?_⟩
 ·rw [hlr, Nat.zero_add, ← hlen, hcells]
  simp
 ·rw [hcells]; exact hX
end
end Ev
end Go.Proofs.Ytnlhjcfpfapafaa
