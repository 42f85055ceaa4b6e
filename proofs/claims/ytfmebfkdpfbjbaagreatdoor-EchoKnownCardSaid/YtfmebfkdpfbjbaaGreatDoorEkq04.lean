/- Contracts, in this order: The interpreter: what an operation of it answers, the progra -/
import Derived.Test.YtfmebfkdpfbjbaaGreatDoorEkq03
namespace Go.Proofs.YtfmebfkdpfbjbaaGreatDoor
open Go
namespace Ev
theorem pureRun_run {P : Program} : ∀ {α : Type} (s : Sem α) {a : α}, pureRun P s = some a → ∀ w, s.run P w = .ok a w := by
  intro α s
  induction s with
  | pure b => intro a h w; simp only [pureRun, Option.some.injEq] at h; subst h; rfl
  | program k ih => intro a h w; simp only [pureRun] at h; exact ih P h w
  | mark m k ih => intro a h w; simp only [pureRun] at h; exact ih h w
  | _ => intro a h; simp [pureRun] at h
theorem mem_opds {ts : Tr Value} {o : Op} (h : allOpds ts o = true) : ∀ x ∈ o.operands, plain2 (opd ts x) = true := by
  intro x hx
  have : ∀ (l : List Operand), plainL plain2 (l.map (opd ts)) = true → ∀ x ∈ l, plain2 (opd ts x) = true := by
    intro l
    induction l with
    | nil => intro _ x hx; simp at hx
    | cons y l ih =>
      intro h x hx
      simp only [List.map_cons, plainL, Bool.and_eq_true] at h
      rcases List.mem_cons.1 hx with rfl | hx
      · exact h.1
      · exact ih h.2 x hx
  exact this _ h x (by simpa using hx)
section
variable {F : Type} {S : Sig F} {P : Program} {C : Cfg F}
def TR (r : Ren) (ts : Tr Value) (a : Act) : Prop := ∀ t, VR r (opd ts (.tmp t)) (a.eval (.tmp t))
theorem TR.mono {r s : Ren} {ts : Tr Value} {a : Act} (h : TR r ts a) (l : r.le s) : TR s ts a := fun t => (h t).mono l
theorem okOpds_mem {l : List Operand} (h : okOpds C l = true) : ∀ x ∈ l, okOpd C x = true := by
  induction l with
  | nil => intro x hx; simp at hx
  | cons y l ih =>
    intro x hx
    simp only [okOpds, Bool.and_eq_true] at h
    rcases List.mem_cons.1 hx with rfl | hx
    · exact h.1
    · exact ih h.2 x hx
def OR (r : Ren) (ts : Tr Value) (a : Act) (l : List Operand) : Prop := ∀ x ∈ l, VR r (opd ts x) (a.eval x)
theorem opd_ok {r : Ren} {ts : Tr Value} {a : Act} {x : Operand} (h : ∀ t, x = .tmp t → VR r (opd ts (.tmp t)) (a.eval (.tmp t))) (hg : ∀ n, n < C.G → r.blk n = some n) (ho : okOpd C x = true) : VR r (opd ts x) (a.eval x) := by
  cases x with
  | tmp t => exact h t rfl
  | const v => exact VR.same2 ho
  | global g => exact .ptr (hg g (Nat.le_of_ble_eq_true ho))
  | func f => exact .same rfl
theorem size_of {t s : Nat} (h : sizeT P t = some s) (w : World) : (sizeOf t).run P w = .ok s w := by
  unfold sizeT at h
  cases hi : P.info? t with
  | none => rw [hi] at h; cases h
  | some i => rw [hi] at h; simp only [Option.map_some, Option.some.injEq] at h; simp [sizeOf, typeInfo, hi, h]
theorem isAgg_of {t : Nat} {b : Bool} (h : isAggT P t = some b) (w : World) : (isAgg t).run P w = .ok b w := by
  unfold isAggT at h
  unfold isAgg
  cases hu : P.underlying t with
  | none => rw [hu] at h; cases h
  | some d =>
    rw [Sem.run_bind, run_underlying hu w]
    rw [hu] at h
    cases d <;> simp at h <;> subst h <;> rfl
theorem structT_of {t : Nat} {fs : Array Field} (h : structT P t = some fs) : P.underlying t = some (.struct fs) := by
  unfold structT at h
  (repeat' split at h) <;> first | (cases h; done) | (cases h; assumption)
theorem sliceT_of {t e : Nat} (h : sliceT P t = some e) : P.underlying t = some (.slice e) := by
  unfold sliceT at h
  (repeat' split at h) <;> first | (cases h; done) | (cases h; assumption)
theorem arrayT_of {t : Nat} {x : Nat × TypeId} (h : arrayT P t = some x) : P.underlying t = some (.array x.1 x.2) := by
  unfold arrayT at h
  (repeat' split at h) <;> first | (cases h; done) | (cases h; assumption)
theorem zeroT_of {t : Nat} {z : Value} (h : zeroT P t = some z) : plain2 z = true ∧ ∃ i, P.info? t = some i ∧ i.zero = some z := by
  unfold zeroT at h
  split at h
  case h_2 => cases h
  case h_1 i hi =>
    split at h
    case h_2 => cases h
    case h_1 z' hz =>
      cases hp : plain2 z' with
      | false => rw [hp] at h; cases h
      | true => rw [hp] at h; cases h; exact ⟨hp, i, hi, hz⟩
theorem add_off (b off j : Nat) : (⟨b, off, none⟩ : Addr).add j = ⟨b, off + j, none⟩ := by unfold Addr.add; split <;> simp_all
theorem addrOf_of {v : Value} {x : Nat × Nat} (h : addrOf v = some x) : v = vptr x.1 x.2 := by
  cases v with
  | pointer a =>
    cases a with
    | none => simp [addrOf] at h
    | some a =>
      obtain ⟨b, off, sp⟩ := a
      cases sp with
      | none => simp only [addrOf, Option.some.injEq] at h; subst h; rfl
      | some _ => simp [addrOf] at h
  | _ => simp [addrOf] at h
theorem sliceOf_of {v : Value} {x : Option (Nat × Nat) × Nat × Nat} (h : sliceOf v = some x) : v = .slice (x.1.map fun y => ⟨y.1, y.2, none⟩) x.2.1 x.2.2 := by
  cases v with
  | slice a n c =>
    cases a with
    | none => simp only [sliceOf, Option.some.injEq] at h; subst h; rfl
    | some a =>
      obtain ⟨b, off, sp⟩ := a
      cases sp with
      | none => simp only [sliceOf, Option.some.injEq] at h; subst h; rfl
      | some _ => simp [sliceOf] at h
  | _ => simp [sliceOf] at h
theorem natVal_of {v : Value} {n : Nat} (h : natVal v = some n) : ∃ k, v = .int k n := by
  unfold natVal at h
  (repeat' split at h) <;> first | (cases h; done) | skip
  cases h
  exact ⟨_, rfl⟩
theorem VR.int {r : Ren} {k : IntKind} {n : Int} {v : Value} (h : VR r (.int k n) v) : v = .int k n := h.eq_of_plain rfl
theorem VR.bool {r : Ren} {b : Bool} {v : Value} (h : VR r (.bool b) v) : v = .bool b := h.eq_of_plain rfl
theorem VR.str {r : Ren} {s : ByteArray} {v : Value} (h : VR r (.string s) v) : v = .string s := h.eq_of_plain rfl
theorem VR.pointer {r : Ren} {b off : Nat} {v : Value} (h : VR r (vptr b off) v) : ∃ b', r.blk b = some b' ∧ v = vptr b' off := by
  unfold vptr at h
  cases h with
  | same p => simp [plain] at p
  | ptr hb => exact ⟨_, hb, rfl⟩
theorem VR.slc {r : Ren} {b off n c : Nat} {v : Value} (h : VR r (vslice b off n c) v) : ∃ b' c', r.blk b = some b' ∧ v = vslice b' off n c' := by
  unfold vslice at h
  cases h with
  | same p => simp [plain] at p
  | slice hb hc => exact ⟨_, _, hb, rfl⟩
  | slicex hb hc h1 h2 => exact ⟨_, _, hb, rfl⟩
theorem VR.nilslc {r : Ren} {n c : Nat} {v : Value} (h : VR r (.slice none n c) v) : v = .slice none n c := h.eq_of_plain rfl
variable {h h' : Tr (Blk F)} {nx nx' : Nat} {R W : List Nat} {r : Ren} {w : World}
theorem val_ok {v : Value} {x : Nxt} (e : (val v : M F Nxt) h nx = .ok x h' nx' R W) : x = .val v ∧ h' = h ∧ nx' = nx ∧ W = [] := by
  unfold val at e; cases e; exact ⟨rfl, rfl, rfl, rfl⟩
theorem ret_ok {α : Type} {v x : α} (e : (ret v : M F α) h nx = .ok x h' nx' R W) : x = v ∧ h' = h ∧ nx' = nx ∧ W = [] := by
  unfold ret at e; cases e; exact ⟨rfl, rfl, rfl, rfl⟩
theorem optVal_ok {o : Option Value} {x : Nxt} (e : (optVal o : M F Nxt) h nx = .ok x h' nx' R W) : ∃ v, o = some v ∧ x = .val v ∧ h' = h ∧ nx' = nx ∧ W = [] := by
  cases o with
  | none => simp [optVal, fail] at e
  | some v => exact ⟨v, rfl, val_ok e⟩
theorem rdAny_ok {b : Nat} {x : List Value × TypeId × Bool} (e : (rdAny b : M F _) h nx = .ok x h' nx' R W) : h.get b = some (blkOf x.2.2 x.1 x.2.1) ∧ h' = h ∧ nx' = nx ∧ W = [] := by
  unfold rdAny at e
  cases hg : h.get b with
  | none => rw [hg] at e; cases e
  | some y =>
    rw [hg] at e
    cases y with
    | cells c t => cases e; exact ⟨rfl, rfl, rfl, rfl⟩
    | room c t => cases e; exact ⟨rfl, rfl, rfl, rfl⟩
    | fact f => cases e
    | opq => cases e
    | lp s => cases e
    | ow f => cases e
    | ad m x => cases e
theorem Mod.any {b : Nat} {rm : Bool} {c : List Value} {t : TypeId} (hM : Mod S r h.get w) (hg : h.get b = some (blkOf rm c t)) :
    ∃ b' c', r.blk b = some b' ∧ w.heap[b']? = some (.cells ⟨c'⟩ t (0, 0)) ∧ VsR r c (c'.take c.length) ∧ (S.hn b t = false → S.hid b' t = false) ∧ (rm = false → VsR r c c') ∧ (rm = true → r.len b ≤ c'.length) := by
  cases rm with
  | false =>
    obtain ⟨b', c', h1, h2, h3, h4⟩ := hM.cells b c t hg
    exact ⟨b', c', h1, h2, by rw [List.take_of_length_le (Nat.le_of_eq h3.length)]; exact h3, h4, fun _ => h3, fun q => by cases q⟩
  | true =>
    obtain ⟨b', c', h1, h2, h3, h4, h5⟩ := hM.room b c t hg
    exact ⟨b', c', h1, h2, h3, h4, fun q => (by cases q), fun _ => h5⟩
theorem pre_get {c c' : List Value} (hc : VsR r c (c'.take c.length)) {i : Nat} {v : Value} (hi : c[i]? = some v) : ∃ v', c'[i]? = some v' ∧ VR r v v' := by
  obtain ⟨v', h1, h2⟩ := hc.get hi
  have hlt := (List.getElem?_eq_some_iff.1 hi).1
  rw [List.getElem?_take_of_lt hlt] at h1
  exact ⟨v', h1, h2⟩
theorem pre_len {c c' : List Value} (hc : VsR r c (c'.take c.length)) : c.length ≤ c'.length := by
  have := hc.length
  rw [List.length_take] at this; omega
theorem pre_seg {c c' : List Value} {off n : Nat} (hc : VsR r c (c'.take c.length)) (hl : ((c.drop off).take n).length = n) : VsR r ((c.drop off).take n) ((c'.drop off).take n) := by
  have h1 := (hc.drop off).take n
  rw [List.length_take, List.length_drop] at hl
  rw [List.drop_take, List.take_take, Nat.min_eq_left (by omega)] at h1
  exact h1
theorem pre_splice {c c' vs vs' : List Value} {off : Nat} (hc : VsR r c (c'.take c.length)) (hv : VsR r vs vs') (hl : off + vs.length ≤ c.length) :
    VsR r (c.take off ++ vs ++ c.drop (off + vs.length)) ((c'.take off ++ vs' ++ c'.drop (off + vs'.length)).take (c.take off ++ vs ++ c.drop (off + vs.length)).length) := by
  have hle := pre_len hc
  have hlv := hv.length
  have e : (c.take off ++ vs ++ c.drop (off + vs.length)).length = c.length := by simp; omega
  have h1 := (((hc.take off).append hv).append (hc.drop (off + vs.length)))
  rw [e]
  have e2 : (c'.take off ++ vs' ++ c'.drop (off + vs'.length)).take c.length = (c'.take c.length).take off ++ vs' ++ (c'.take c.length).drop (off + vs.length) := by
    rw [List.take_append, List.take_append, List.take_take, List.take_take, List.drop_take, hlv]
    have a1 : min c.length off = off := by omega
    have a2 : min off c.length = off := by omega
    have a3 : (c'.take off).length = off := by rw [List.length_take]; omega
    rw [a1, a2, a3, List.take_of_length_le (l := vs') (by omega), List.length_append, a3, hlv]
  rw [e2]; exact h1
theorem cond_ok {α : Type} {b : Bool} {m : M F α} {x : α} (e : cond b m fail h nx = .ok x h' nx' R W) : b = true ∧ m h nx = .ok x h' nx' R W := by
  cases b with
  | false => simp [fail] at e
  | true => exact ⟨rfl, e⟩
theorem cond_no {α : Type} {b : Bool} {m : M F α} {x : α} (e : cond b fail m h nx = .ok x h' nx' R W) : b = false ∧ m h nx = .ok x h' nx' R W := by
  cases b with
  | true => simp [fail] at e
  | false => exact ⟨rfl, e⟩
theorem getRow_ok {c l : List Value} {o n : Nat} (h : getRow c o n = some l) : l = (c.drop o).take n ∧ ((c.drop o).take n).length = n := by
  unfold getRow at h
  cases hl : Nat.beq ((c.drop o).take n).length n with
  | false => rw [hl] at h; cases h
  | true =>
    rw [hl] at h
    simp only [cond_true, Option.some.injEq] at h
    exact ⟨h.symm, Nat.eq_of_beq_eq_true hl⟩
theorem row_at {b2 off n : Nat} {c' : List Value} {t : TypeId} {z : Nat × Nat} (hh : w.heap[b2]? = some (.cells ⟨c'⟩ t z)) (hl3 : ((c'.drop off).take n).length = n) :
    (loadCells ⟨b2, off, none⟩ n).run P w = .ok ((c'.drop off).take n).toArray w := by
  have hlc := run_loadCells_list (P := P) w ⟨b2, off, none⟩ ((c'.drop off).take n) (fun j v hv => by
    rw [add_off]
    simp only [World.cell?, hh]
    rw [List.getElem?_take] at hv
    split at hv
    · rw [List.getElem?_drop] at hv; simpa using hv
    · cases hv)
  rw [hl3] at hlc
  exact hlc
theorem part_ok {t off : Nat} {cs cs' : List Value} {v : Value} (h : partA P t cs off = some v) (hc : VsR r cs cs') (w : World) : ∃ v', (part t ⟨cs'⟩ off).run P w = .ok v' w ∧ VR r v v' := by
  unfold partA at h
  cases hag : isAggT P t with
  | none => rw [hag] at h; cases h
  | some ag =>
    rw [hag] at h
    have hag' := isAgg_of hag w
    cases ag with
    | true =>
      simp only at h
      cases hs : sizeT P t with
      | none => rw [hs] at h; cases h
      | some s =>
        rw [hs] at h; simp only at h
        have h2 : some (Value.agg ((cs.drop off).take s).toArray) = some v := by
          cases hb : Nat.beq ((cs.drop off).take s).length s with
          | false => rw [hb] at h; cases h
          | true => rw [hb] at h; exact h
        injection h2 with h2
        subst h2
        have hs' := size_of hs w
        refine ⟨.agg ((cs'.drop off).take s).toArray, ?_, .agg ((hc.drop off).take s)⟩
        simp [part, hag', hs', List.extract_eq_take_drop]
    | false =>
      simp only at h
      obtain ⟨v', hv', hvr⟩ := hc.get h
      refine ⟨v', ?_, hvr⟩
      simp [part, hag', hv']
theorem load_ok {t : Nat} {a v : Value} (e : loadA P t a h nx = .ok v h' nx' R W) (hM : Mod S r h.get w) {a' : Value} (ha : VR r a a') :
    h' = h ∧ nx' = nx ∧ W = [] ∧ ∃ v' ad, a' = .pointer (some ad) ∧ (loadVar t ad).run P w = .ok v' w ∧ VR r v v' := by
  unfold loadA at e
  cases hao : addrOf a with
  | none => rw [hao] at e; simp [fail] at e
  | some y =>
    obtain ⟨b, off⟩ := y
    rw [hao] at e
    simp only at e
    rw [addrOf_of hao] at ha
    obtain ⟨b2, hb, rfl⟩ := ha.pointer
    obtain ⟨x, h1, nx1, R1, W1, R2, W2, e1, e2, rfl, rfl⟩ := bind_ok e
    obtain ⟨hg, rfl, rfl, rfl⟩ := rdAny_ok e1
    cases hp : partA P t x.1 off with
    | none => rw [hp] at e2; simp [fail] at e2
    | some y =>
      rw [hp] at e2
      obtain ⟨rfl, rfl, rfl, rfl⟩ := ret_ok e2
      obtain ⟨b3, c', hb3, hh, hc, -⟩ := hM.any hg
      have : b3 = b2 := by
        have hb' : r.blk b = some b2 := hb
        rw [hb'] at hb3; injection hb3 with e; exact e.symm
      subst this
      refine ⟨rfl, rfl, rfl, ?_⟩
      unfold partA at hp
      cases hag : isAggT P t with
      | none => rw [hag] at hp; cases hp
      | some ag =>
        rw [hag] at hp
        have hag' := isAgg_of hag w
        cases ag with
        | true =>
          simp only at hp
          cases hs : sizeT P t with
          | none => rw [hs] at hp; cases hp
          | some s =>
            rw [hs] at hp; simp only at hp
            have hs' := size_of hs w
            cases hrow : Nat.beq ((x.1.drop off).take s).length s with
            | false => rw [hrow] at hp; cases hp
            | true =>
              rw [hrow] at hp; simp only [cond_true, Option.some.injEq] at hp
              subst hp
              have hsg := pre_seg hc (Nat.eq_of_beq_eq_true hrow)
              have hl := row_at (P := P) hh (by rw [hsg.length]; exact Nat.eq_of_beq_eq_true hrow)
              exact ⟨_, _, rfl, by simp [loadVar, hag', hs', hl], .agg hsg⟩
        | false =>
          simp only at hp
          obtain ⟨v', hv', hvr⟩ := pre_get hc hp
          refine ⟨v', _, rfl, ?_, hvr⟩
          simp [loadVar, hag', World.cell?, hh, hv']
theorem loadG_ok {t : Nat} {a v : Value} (e : loadG P C t a h nx = .ok v h' nx' R W) (hM : Mod S r h.get w) (hg : ∀ b cs, C.glob b = some cs → plainL plain cs = true ∧ b < S.G ∧ ∀ w, S.base w → ∃ t z, w.heap[b]? = some (.cells ⟨cs⟩ t z)) {a' : Value} (ha : VR r a a') :
    h' = h ∧ nx' = nx ∧ W = [] ∧ ∃ v' ad, a' = .pointer (some ad) ∧ (loadVar t ad).run P w = .ok v' w ∧ VR r v v' := by
  unfold loadG at e
  cases hgl : globOf C a with
  | none => rw [hgl] at e; exact load_ok e hM ha
  | some x =>
    obtain ⟨cs, off⟩ := x
    rw [hgl] at e
    simp only at e
    unfold globOf at hgl
    cases hao : addrOf a with
    | none => rw [hao] at hgl; cases hgl
    | some y =>
      obtain ⟨b, o2⟩ := y
      rw [hao] at hgl
      simp only at hgl
      cases hc : C.glob b with
      | none => rw [hc] at hgl; cases hgl
      | some cs2 =>
        rw [hc] at hgl
        cases hgl
        obtain ⟨hp, hlt, hw⟩ := hg b cs hc
        obtain ⟨t0, z, hh⟩ := hw w hM.base
        rw [addrOf_of hao] at ha
        obtain ⟨b2, hb, rfl⟩ := ha.pointer
        have hbb : b2 = b := by
          have := hM.glob b hlt
          rw [this] at hb; injection hb with q; exact q.symm
        subst hbb
        cases hpa : partA P t cs off with
        | none => rw [hpa] at e; simp [fail] at e
        | some y =>
          rw [hpa] at e
          obtain ⟨rfl, rfl, rfl, rfl⟩ := ret_ok e
          refine ⟨rfl, rfl, rfl, ?_⟩
          have hcs : VsR r cs cs := VsR.same hp
          unfold partA at hpa
          cases hag : isAggT P t with
          | none => rw [hag] at hpa; cases hpa
          | some ag =>
            rw [hag] at hpa
            have hag' := isAgg_of hag w
            cases ag with
            | true =>
              simp only at hpa
              cases hs : sizeT P t with
              | none => rw [hs] at hpa; cases hpa
              | some s =>
                rw [hs] at hpa; simp only at hpa
                have hs' := size_of hs w
                cases hrow : Nat.beq ((cs.drop off).take s).length s with
                | false => rw [hrow] at hpa; cases hpa
                | true =>
                  rw [hrow] at hpa; simp only [cond_true, Option.some.injEq] at hpa
                  subst hpa
                  have hl := row_at (P := P) hh (Nat.eq_of_beq_eq_true hrow)
                  exact ⟨_, _, rfl, by simp [loadVar, hag', hs', hl], .agg ((hcs.drop off).take s)⟩
            | false =>
              simp only at hpa
              obtain ⟨v', hv', hvr⟩ := hcs.get hpa
              refine ⟨v', _, rfl, ?_, hvr⟩
              simp [loadVar, hag', World.cell?, hh, hv']
theorem splice_eq (l : List Value) (o : Nat) (vs : List Value) : splice l o vs = cond (Nat.ble (o + vs.length) l.length) (some (l.take o ++ vs ++ l.drop (o + vs.length))) none := by
  unfold splice
  cases hk : (Nat.beq o 0 && Nat.beq vs.length l.length) with
  | false => rfl
  | true =>
    simp only [Bool.and_eq_true] at hk
    obtain rfl := Nat.eq_of_beq_eq_true hk.1
    have h2 : vs.length = l.length := Nat.eq_of_beq_eq_true hk.2
    rw [cond_true, Nat.zero_add, h2, Nat.ble_eq_true_of_le (Nat.le_refl _), cond_true, List.take_zero, List.nil_append, List.drop_length, List.append_nil]
theorem storeAt_ok {b off : Nat} {vs vs' : List Value} {u : Unit} (e : storeAt C b off vs h nx = .ok u h' nx' R W) (hG : C.G = S.G) (hC : C.hid = S.hn) (hM : Mod S r h.get w) {b2 : Nat} (hb : r.blk b = some b2) (hv : VsR r vs vs') :
    nx' = nx ∧ ∃ w', (∀ i : Unit, (storeCells ⟨b2, off, none⟩ vs').run P w = .ok () w') ∧ Ext S r w nx nx W h'.get r w' := by
  unfold storeAt at e
  obtain ⟨x, h1, nx1, R1, W1, R2, W2, e1, e2, rfl, rfl⟩ := bind_ok e
  obtain ⟨hg, rfl, rfl, rfl⟩ := rdAny_ok e1
  cases hsp : splice x.1 off vs with
  | none => rw [hsp] at e2; simp [fail] at e2
  | some c2 =>
    rw [hsp] at e2
    obtain ⟨hk, e3⟩ := cond_ok e2
    unfold wr at e3
    rw [hg] at e3
    simp only at e3
    cases e3
    simp only [Bool.and_eq_true] at hk
    obtain ⟨⟨⟨hk1, hk2⟩, hk3⟩, hk4⟩ := hk
    have hmore : x.1 ≠ [] := fun q => by rw [q] at hk3; cases hk3
    obtain ⟨b3, c', hb3, hh, hc, ht, hex, hrm⟩ := hM.any hg
    have : b3 = b2 := by rw [hb] at hb3; injection hb3 with e; exact e.symm
    subst this
    have hlen := hv.length
    have hones := hv.ones hk2
    rw [splice_eq] at hsp
    cases hle : Nat.ble (off + vs.length) x.1.length with
    | false => rw [hle] at hsp; cases hsp
    | true =>
      rw [hle] at hsp
      simp only [cond_true, Option.some.injEq] at hsp
      have hle2 := Nat.le_of_ble_eq_true hle
      have hcl := pre_len hc
      have hrun := run_storeCells_at P b3 off x.2.1 vs' 0 ⟨c'⟩ w hh (by simp only [List.size_toArray]; rw [hlen]; omega) hones
      refine ⟨rfl, w.setRow b3 (c'.take (off + 0) ++ vs' ++ c'.drop (off + 0 + vs'.length)).toArray, fun _ => hrun, ?_⟩
      have hd2 : VsR r c2 ((c'.take off ++ vs' ++ c'.drop (off + vs'.length)).take c2.length) := by rw [← hsp]; exact pre_splice hc hv hle2
      have hX := ext_put (nx := nx') (x := blkOf x.2.2 x.1 x.2.1) (y := blkOf x.2.2 c2 x.2.1) hM hg hb (d := c2) (d' := c'.take off ++ vs' ++ c'.drop (off + vs'.length)) (by
        cases hr : x.2.2 with
        | false =>
          refine .inl ⟨rfl, rfl, ?_⟩
          rw [← hsp, hlen]
          exact (((hex hr).take off).append hv).append ((hex hr).drop _)
        | true => exact .inr ⟨rfl, rfl, hd2⟩) hmore hh (by simp; omega) (by rw [← hG]; exact Nat.le_of_ble_eq_true hk1) (by rw [← hC]; simpa using hk4) (w' := w.setRow b3 (c'.take (off + 0) ++ vs' ++ c'.drop (off + 0 + vs'.length)).toArray) (by
        simp only [Nat.add_zero]
        unfold World.setRow
        simp only
        apply Array.ext
        · simp
        · intro k h1 h2
          rw [Array.getElem_modify, Array.getElem_setIfInBounds]
          · by_cases hkk : b3 = k
            · subst hkk
              have := (Array.getElem?_eq_some_iff.1 hh).2
              simp [this]
            · simp [hkk]
          · simpa using h2) rfl rfl rfl
      refine Ext.congr ?_ (fun n => .inr (Tr.get_set _ _ _ _))
      simpa using hX
theorem store_ok {t : Nat} {a v : Value} {u : Unit} (e : storeA P C t a v h nx = .ok u h' nx' R W) (hG : C.G = S.G) (hC : C.hid = S.hn) (hM : Mod S r h.get w) {a' v' : Value} (ha : VR r a a') (hv : VR r v v') :
    nx' = nx ∧ ∃ ad w', a' = .pointer (some ad) ∧ (storeVar t ad v').run P w = .ok () w' ∧ Ext S r w nx nx W h'.get r w' := by
  unfold storeA at e
  cases hao : addrOf a with
  | none => rw [hao] at e; simp [fail] at e
  | some y =>
    obtain ⟨b, off⟩ := y
    rw [hao] at e
    simp only at e
    rw [addrOf_of hao] at ha
    obtain ⟨b2, hb, rfl⟩ := ha.pointer
    cases hs : sizeT P t with
    | none => rw [hs] at e; simp [fail] at e
    | some s =>
      rw [hs] at e
      obtain ⟨hk, e⟩ := cond_ok e
      simp only [Bool.and_eq_true, Bool.not_eq_true'] at hk
      have hvc := hv.cellsOf hk.2
      obtain ⟨rfl, w', hrun, hX⟩ := storeAt_ok (P := P) e hG hC hM hb hvc
      refine ⟨rfl, _, w', rfl, ?_, hX⟩
      have hs' := size_of hs w
      have hsz : v'.cells.size = s := by rw [← Array.length_toList, hvc.length]; exact (Nat.eq_of_beq_eq_true hk.1).symm
      simp [storeVar, hs', hsz, hrun ()]
end
end Ev
end Go.Proofs.YtfmebfkdpfbjbaaGreatDoor
