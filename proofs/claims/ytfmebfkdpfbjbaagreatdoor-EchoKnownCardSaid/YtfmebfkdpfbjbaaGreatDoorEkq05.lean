/- Contracts, in this order: The interpreter: an operation of it is one of the program's. · The interpreter: an operation of it is one of the program's, -/
import Derived.Test.YtfmebfkdpfbjbaaGreatDoorEkq04
import Derived.Laws.MakeOwn
namespace Go.Proofs.YtfmebfkdpfbjbaaGreatDoor
open Go
namespace Ev
section
variable {r : Ren}
theorem VsR.set : ∀ {l l' : List Value}, VsR r l l' → ∀ {v v' : Value} (_ : VR r v v') (i : Nat), VsR r (l.set i v) (l'.set i v')
  | _, _, .nil, _, _, _, _ => by simpa using VsR.nil
  | _, _, .cons _ b, _, _, h, 0 => by simpa using VsR.cons h b
  | _, _, .cons a b, _, _, h, i + 1 => by simpa using VsR.cons a (VsR.set b h i)
theorem fold_rel (off : Nat) : ∀ {l l' : List Value}, VsR r l l' → ∀ (k : Nat) {cs cs' : Array Value}, VsR r cs.toList cs'.toList →
    VsR r ((l.zipIdx k).foldl (fun cs (x : Value × Nat) => cs.setIfInBounds (off + x.2) x.1) cs).toList ((l'.zipIdx k).foldl (fun cs (x : Value × Nat) => cs.setIfInBounds (off + x.2) x.1) cs').toList
  | _, _, .nil, k, cs, cs', hc => by simpa using hc
  | _, _, .cons (l := l) (l' := l') a b, k, cs, cs', hc => by
    simp only [List.zipIdx_cons, List.foldl_cons]
    refine fold_rel off b (k + 1) ?_
    simp only [Array.toList_setIfInBounds]
    exact hc.set a _
theorem cells_list (v : Value) : v.cells.toList = cellsOf v := by cases v <;> rfl
theorem noJunk_ok {ts : Tr Value} : ∀ {l : List (Nat × Operand)}, noJunk ts l = true → ∀ p ∈ l, isJunk (opd ts p.2) = false
  | [], _, p, hp => by simp at hp
  | q :: l, h, p, hp => by
    simp only [noJunk, Bool.and_eq_true, Bool.not_eq_true'] at h
    rcases List.mem_cons.1 hp with rfl | hp
    · exact h.1
    · exact noJunk_ok h.2 p hp
theorem fill_rel {ρ ρ' : Operand → Value} (place : Nat → Option (Nat × Nat)) : ∀ (ps : List (Nat × Operand)) (_ : ∀ p ∈ ps, VR r (ρ p.2) (ρ' p.2)) (_ : ∀ p ∈ ps, isJunk (ρ p.2) = false) {cs cs' : Array Value}, VsR r cs.toList cs'.toList →
    ∀ {out : Array Value}, Instr.fill place cs (ps.map fun p => (p.1, ρ p.2)) = some out → ∃ out', Instr.fill place cs' (ps.map fun p => (p.1, ρ' p.2)) = some out' ∧ VsR r out.toList out'.toList
  | [], _, _, cs, cs', hc, out, h => by
    simp only [List.map_nil, Instr.fill, Option.some.injEq] at h ⊢
    subst h; exact ⟨cs', rfl, hc⟩
  | p :: ps, hp, hj, cs, cs', hc, out, h => by
    have hv := hp p (by simp)
    have hcl := hv.cellsOf (hj p (by simp))
    rw [← cells_list] at hcl
    have e1 : (ρ' p.2).cells.size = (ρ p.2).cells.size := by rw [← Array.length_toList, ← Array.length_toList, hcl.length]
    have e2 : cs'.size = cs.size := by rw [← Array.length_toList, ← Array.length_toList, hc.length]
    simp only [List.map_cons, Instr.fill] at h ⊢
    cases hpl : place p.1 with
    | none => rw [hpl] at h; cases h
    | some os =>
      obtain ⟨off, sz⟩ := os
      rw [hpl] at h
      simp only [e1, e2] at h ⊢
      split at h
      · cases h
      · rename_i hn
        rw [if_neg hn]
        refine fill_rel place ps (fun q hq => hp q (by simp [hq])) (fun q hq => hj q (by simp [hq])) ?_ h
        have := fold_rel off hcl 0 hc
        simp only [← Array.foldl_toList, Array.toList_zipIdx]
        exact this
theorem map_list (ρ : Operand → Value) (l : Array Operand) : l.map ρ = ⟨l.toList.map ρ⟩ := by apply Array.ext'; simp
theorem junk_plain {z : Value} (h : plain2 z = true) : isJunk z = false := by
  cases z <;> first | rfl | skip
  rename_i m
  cases m <;> first | rfl | (simp [plain2, plain] at h; done)
theorem VR.cells_same {z : Value} (h : plain2 z = true) : VsR r (Ev.cellsOf z) z.cells.toList := (VR.same2 h).cellsOf (junk_plain h)
end
section
variable {F : Type} {S : Sig F} {P : Program} {C : Cfg F}
variable {h h' : Tr (Blk F)} {nx nx' : Nat} {R W : List Nat} {r : Ren} {w : World} {x : Nxt}
def After (S : Sig F) (P : Program) (run : Result Next) (r : Ren) (w : World) (lo hi : Nat) (W : List Nat) (g' : Nat → Option (Blk F)) : Nxt → Prop
  | .val v => ∃ v' w' r', run = .ok (.value v') w' ∧ VR r' v v' ∧ Ext S r w lo hi W g' r' w'
  | .skip => ∃ w' r', run = .ok .skip w' ∧ Ext S r w lo hi W g' r' w'
  | .enter f args => ∃ args', run = (callFunc f ⟨args'⟩).run P w ∧ VsR r args args' ∧ Ext S r w lo hi W g' r w
  | .yld i args => ∃ v' args', r.val i = some v' ∧ VsR r args args' ∧ (∀ b, v' = .func (.yield b) #[] #[] → run = (Instr.yield b ⟨args'⟩).run P w) ∧ Ext S r w lo hi W g' r w
def Just (P : Program) (r : Ren) (w : World) (x : Nxt) (s : Sem Value) (same : Prop) : Prop := ∃ v v', x = .val v ∧ s.run P w = .ok v' w ∧ VR r v v' ∧ same
theorem Just.after {s : Sem Value} {t : Sem Next} (hj : Just P r w x s (h' = h ∧ nx' = nx ∧ W = [])) (hM : Mod S r h.get w) (ht : ∀ v, s.run P w = .ok v w → t.run P w = .ok (.value v) w) : nx ≤ nx' ∧ After S P (t.run P w) r w nx nx' W h'.get x := by
  obtain ⟨v, v', rfl, hs, hv, rfl, rfl, rfl⟩ := hj
  exact ⟨Nat.le_refl _, v', w, r, ht _ hs, hv, Ext.refl _ _ hM⟩
theorem nil_ok {v v' : Value} {o : Oper} {y : Operand} {a : Act} (e : (nilO v : M F Nxt) h nx = .ok x h' nx' R W) (hop : o.op = .nilCheck y) (ha : a.eval y = v') (hv : VR r v v') (hM : Mod S r h.get w) : nx ≤ nx' ∧ After S P ((execOp a.eval o).run P w) r w nx nx' W h'.get x := by
  unfold nilO at e
  cases v with
  | pointer q =>
    cases q with
    | none => simp [fail] at e
    | some q =>
      simp only at e
      obtain ⟨rfl, rfl, rfl, rfl⟩ := val_ok e
      cases hv with
      | same p => simp [plain] at p
      | ptr hb => exact ⟨Nat.le_refl _, _, w, r, by simp only [execOp, hop, ha]; rfl, .ptr hb, Ext.refl _ _ hM⟩
  | func fn l1 l2 =>
    cases fn with
    | func f =>
      simp only at e
      obtain ⟨rfl, rfl, rfl, rfl⟩ := val_ok e
      cases hv with
      | same p => exact ⟨Nat.le_refl _, _, w, r, by simp only [execOp, hop, ha]; rfl, .same p, Ext.refl _ _ hM⟩
      | func h1 h2 => exact ⟨Nat.le_refl _, _, w, r, by simp only [execOp, hop, ha]; rfl, .func h1 h2, Ext.refl _ _ hM⟩
    | _ => simp [fail] at e
  | _ => simp [fail] at e
theorem box_ok {t : TypeId} {v v' : Value} (e : boxO t v h nx = .ok x h' nx' R W) (hM : Mod S r h.get w) (hN : New r nx nx') (hv : isJunk v = false → VsR r (cellsOf v) v'.cells.toList) :
    nx ≤ nx' ∧ ∃ u r', x = .val u ∧ VR r' u (vptr w.heap.size 0) ∧ Ext S r w nx nx' W h'.get r' (w.alloc (.cells v'.cells t)) := by
  unfold boxO at e
  obtain ⟨hj, e⟩ := cond_no e
  obtain ⟨n, h1, nx1, R1, W1, R2, W2, e1, e2, rfl, rfl⟩ := bind_ok e
  obtain ⟨rfl, rfl, rfl, rfl⟩ := val_ok e2
  unfold fresh at e1
  cases e1
  obtain ⟨r', hX, hb⟩ := ext_fresh hM hN (hv hj)
  refine ⟨Nat.le_succ _, _, r', rfl, .ptr hb, ?_⟩
  have : (⟨v'.cells.toList⟩ : Array Value) = v'.cells := rfl
  rw [this] at hX
  simpa using hX.congr fun n => .inr (Tr.get_set _ _ _ _)
theorem faddr_ok {s : TypeId} {v v' : Value} {f : Nat} (e : (faddrO P s v f : M F Nxt) h nx = .ok x h' nx' R W) (hv : VR r v v') : Just P r w x (Instr.fieldAt s v' f) (h' = h ∧ nx' = nx ∧ W = []) := by
  unfold faddrO at e
  cases hs : structT P s with
  | none => rw [hs] at e; simp [fail] at e
  | some fs =>
    rw [hs] at e; simp only at e
    cases hf : fs[f]? with
    | none => rw [hf] at e; simp [fail] at e
    | some fd =>
      rw [hf] at e; simp only at e
      cases hz : sizeT P fd.type with
      | none => rw [hz] at e; simp [fail] at e
      | some n =>
        rw [hz] at e; simp only at e
        obtain ⟨hk, e⟩ := cond_no e
        cases ha : addrOf v with
        | none => rw [ha] at e; simp [fail] at e
        | some y =>
          obtain ⟨b, off⟩ := y
          rw [ha] at e; simp only at e
          obtain ⟨rfl, hs2⟩ := val_ok e
          rw [addrOf_of ha] at hv
          obtain ⟨b', hb, rfl⟩ := hv.pointer
          refine ⟨_, vptr b' (off + fd.offset), rfl, ?_, .ptr hb, hs2⟩
          have hn : n ≠ 0 := fun e0 => by subst e0; simp at hk
          simp [Instr.fieldAt, run_underlying (structT_of hs), hf, Instr.sureAddr, vptr, fieldPlace, size_of hz, hn, add_off]
theorem iaddr_ok {t : TypeId} {v v' i i' : Value} (e : (iaddrO P t v i : M F Nxt) h nx = .ok x h' nx' R W) (hv : VR r v v') (hi : VR r i i') : Just P r w x (Instr.indexAt t v' i') (h' = h ∧ nx' = nx ∧ W = []) := by
  unfold iaddrO at e
  cases hn : natVal i with
  | none => rw [hn] at e; simp [fail] at e
  | some j =>
    rw [hn] at e; simp only at e
    obtain ⟨k, rfl⟩ := natVal_of hn
    have hi' := hi.int
    subst hi'
    cases hs : sliceT P t with
    | some el =>
      rw [hs] at e; simp only at e
      cases hsl : sliceOf v with
      | none => rw [hsl] at e; simp [fail] at e
      | some y =>
        obtain ⟨a, n, c⟩ := y
        rw [hsl] at e
        cases hz : sizeT P el with
        | none => rw [hz] at e; cases a <;> simp [fail] at e
        | some s =>
          rw [hz] at e
          cases a with
          | none => simp [fail] at e
          | some a =>
            obtain ⟨b, off⟩ := a
            simp only at e
            obtain ⟨hk, e⟩ := cond_ok e
            obtain ⟨rfl, hs2⟩ := val_ok e
            rw [sliceOf_of hsl] at hv
            obtain ⟨b', cc, hb, rfl⟩ := VR.slc (b := b) (off := off) hv
            have hlt : j < n := Nat.le_of_ble_eq_true hk
            refine ⟨_, vptr b' (off + j * s), rfl, ?_, .ptr hb, hs2⟩
            have c1 : (0 : Int) ≤ (j : Int) ∧ (j : Int) < (n : Int) := by omega
            simp [Instr.indexAt, asIntOf, run_underlying (sliceT_of hs), vslice, c1, size_of hz, add_off, vptr]
            intro hle; omega
    | none =>
      rw [hs] at e; simp only at e
      cases har : arrayT P t with
      | none => rw [har] at e; simp [fail] at e
      | some y =>
        obtain ⟨n, el⟩ := y
        rw [har] at e; simp only at e
        cases hsl : addrOf v with
        | none => rw [hsl] at e; simp [fail] at e
        | some y =>
          obtain ⟨b, off⟩ := y
          rw [hsl] at e
          cases hz : sizeT P el with
          | none => rw [hz] at e; simp [fail] at e
          | some s =>
            rw [hz] at e; simp only at e
            obtain ⟨hk, e⟩ := cond_ok e
            obtain ⟨rfl, hs2⟩ := val_ok e
            rw [addrOf_of hsl] at hv
            obtain ⟨b', hb, rfl⟩ := hv.pointer
            have hlt : j < n := Nat.le_of_ble_eq_true hk
            refine ⟨_, vptr b' (off + j * s), rfl, ?_, .ptr hb, hs2⟩
            have c1 : (0 : Int) ≤ (j : Int) ∧ (j : Int) < (n : Int) := by omega
            simp [Instr.indexAt, asIntOf, run_underlying (arrayT_of har), vptr, Instr.sureAddr, c1, size_of hz, add_off]
            intro hle; omega
theorem extract_ok {v v' : Value} {i : Nat} (e : (extractO v i : M F Nxt) h nx = .ok x h' nx' R W) (hv : VR r v v') : Just P r w x (Instr.extract v' i) (h' = h ∧ nx' = nx ∧ W = []) := by
  unfold extractO at e
  cases v with
  | tuple vs =>
    simp only at e
    obtain ⟨u, hu, rfl, hs2⟩ := optVal_ok e
    cases hv with
    | same p => simp [plain] at p
    | tuple ha =>
      obtain ⟨u', hu', hur⟩ := ha.get hu
      refine ⟨u, u', rfl, ?_, hur, hs2⟩
      simp [Instr.extract, hu']
  | _ => simp [fail] at e
theorem field_ok {t : TypeId} {v v' : Value} {f : Nat} (e : (fieldO P t v f : M F Nxt) h nx = .ok x h' nx' R W) (hv : VR r v v') : Just P r w x (Instr.field t v' f) (h' = h ∧ nx' = nx ∧ W = []) := by
  unfold fieldO at e
  cases v with
  | agg cs =>
    simp only at e
    cases hs : structT P t with
    | none => rw [hs] at e; simp [fail] at e
    | some fs =>
      rw [hs] at e; simp only at e
      cases hf : fs[f]? with
      | none => rw [hf] at e; simp [fail] at e
      | some fd =>
        rw [hf] at e; simp only at e
        obtain ⟨u, hu, rfl, hs2⟩ := optVal_ok e
        cases hv with
        | same p => simp [plain] at p
        | agg ha =>
          obtain ⟨u', hu', hur⟩ := part_ok hu ha w
          refine ⟨u, u', rfl, ?_, hur, hs2⟩
          simp [Instr.field, run_underlying (structT_of hs), hf, asAgg, hu']
  | _ => simp [fail] at e
theorem index_ok {t : TypeId} {v v' i i' : Value} (e : (indexO P t v i : M F Nxt) h nx = .ok x h' nx' R W) (hv : VR r v v') (hi : VR r i i') : Just P r w x (Instr.index t v' i') (h' = h ∧ nx' = nx ∧ W = []) := by
  unfold indexO at e
  cases v with
  | agg cs =>
    simp only at e
    cases har : arrayT P t with
    | none => rw [har] at e; simp [fail] at e
    | some y =>
      obtain ⟨n, el⟩ := y
      rw [har] at e
      cases hn : natVal i with
      | none => rw [hn] at e; simp [fail] at e
      | some j =>
        rw [hn] at e; simp only at e
        obtain ⟨k, rfl⟩ := natVal_of hn
        have hi' := hi.int
        subst hi'
        cases hz : sizeT P el with
        | none => rw [hz] at e; simp [fail] at e
        | some s =>
          rw [hz] at e; simp only at e
          obtain ⟨hk, e⟩ := cond_ok e
          obtain ⟨u, hu, rfl, hs2⟩ := optVal_ok e
          have hlt : j < n := Nat.le_of_ble_eq_true hk
          have c1 : (0 : Int) ≤ (j : Int) ∧ (j : Int) < (n : Int) := by omega
          cases hv with
          | same p => simp [plain] at p
          | agg ha =>
            obtain ⟨u', hu', hur⟩ := part_ok hu ha w
            refine ⟨u, u', rfl, ?_, hur, hs2⟩
            simp [Instr.index, asIntOf, run_underlying (arrayT_of har), c1, size_of hz, hu']
            intro hle; omega
  | _ => simp [fail] at e
theorem mki_ok {t : TypeId} {v v' : Value} (e : (mkiO P t v : M F Nxt) h nx = .ok x h' nx' R W) (hv : VR r v v') : Just P r w x (Instr.makeInterface t v') (h' = h ∧ nx' = nx ∧ W = []) := by
  unfold mkiO at e
  cases hu : P.underlying t with
  | none => rw [hu] at e; simp [fail] at e
  | some d =>
    rw [hu] at e; simp only at e
    have hrun := run_underlying hu w
    cases d <;> simp only at e <;> first
      | (simp [fail] at e; done)
      | (obtain ⟨rfl, hs2⟩ := val_ok e
         exact ⟨_, .iface t v', rfl, by simp [Instr.makeInterface, hrun], .iface hv, hs2⟩)
theorem mkf_ok {ts : Tr Value} {a : Act} {fn : Fn} {l m : Array Operand} (e : (mkfO ts fn l m : M F Nxt) h nx = .ok x h' nx' R W) (h1 : VsR r (l.toList.map (opd ts)) (l.toList.map a.eval)) (h2 : VsR r (m.toList.map (opd ts)) (m.toList.map a.eval)) :
    Just P r w x (Instr.makeFunc fn (l.map a.eval) (m.map a.eval)) (h' = h ∧ nx' = nx ∧ W = []) := by
  unfold mkfO at e
  obtain ⟨rfl, hs2⟩ := val_ok e
  refine ⟨_, .func fn ⟨l.toList.map a.eval⟩ ⟨m.toList.map a.eval⟩, rfl, ?_, .func h1 h2, hs2⟩
  rw [map_list, map_list]; rfl
theorem build_ok {ts : Tr Value} {a : Act} {t : TypeId} {ps : Array (Nat × Operand)} (e : (buildO P ts t ps : M F Nxt) h nx = .ok x h' nx' R W) (hp : ∀ p ∈ ps.toList, VR r (opd ts p.2) (a.eval p.2)) :
    Just P r w x (Instr.build t (ps.map fun (i, y) => (i, a.eval y))) (h' = h ∧ nx' = nx ∧ W = []) := by
  unfold buildO at e
  cases hz : zeroT P t with
  | none => rw [hz] at e; simp [fail] at e
  | some z =>
  rw [hz] at e; simp only at e
  obtain ⟨hj, e⟩ := cond_ok e
  obtain ⟨hzp, it, hi, hiz⟩ := zeroT_of hz
  cases hb : P.built t (ps.toList.map fun p => (p.1, opd ts p.2)) with
  | none => rw [hb] at e; simp [fail] at e
  | some cs =>
    rw [hb] at e; simp only at e
    obtain ⟨rfl, hs2⟩ := val_ok e
    have key : ∃ cs', P.built t (ps.toList.map fun p => (p.1, a.eval p.2)) = some cs' ∧ VsR r cs.toList cs'.toList := by
      have hz2 : VsR r z.cells.toList z.cells.toList := by
        have := VR.cells_same (r := r) hzp
        rwa [← cells_list] at this
      unfold Program.built at hb ⊢
      rw [hi] at hb ⊢
      cases hu : P.underlying t with
      | none => rw [hu] at hb; cases hb
      | some d =>
        rw [hu] at hb
        cases d with
        | array n el =>
          simp only [hiz] at hb ⊢
          cases hie : P.info? el with
          | none => rw [hie] at hb; cases hb
          | some ie =>
            rw [hie] at hb
            simp only at hb ⊢
            exact fill_rel _ _ hp (noJunk_ok hj) hz2 hb
        | struct fields =>
          simp only [hiz] at hb ⊢
          cases hpl : fields.toList.mapM (fun f => (P.info? f.type).map fun i => (f.offset, i.size)) with
          | none => rw [hpl] at hb; cases hb
          | some pl =>
            rw [hpl] at hb
            simp only at hb ⊢
            exact fill_rel _ _ hp (noJunk_ok hj) hz2 hb
        | _ => simp at hb
    obtain ⟨cs', hc', hr⟩ := key
    refine ⟨_, .agg cs', rfl, ?_, ?_, hs2⟩
    · exact run_build w t _ cs' (by simpa using hc')
    · cases cs; cases cs'; exact .agg hr
theorem range_plain (z : Value) (hz : plain2 z = true) (n : Nat) : VsR r ((Array.range n).map (z.cells[· % z.cells.size]!)).toList ((Array.range n).map (z.cells[· % z.cells.size]!)).toList := by
  have hd : plain (default : Value) = true := rfl
  have hc : ∀ i : Nat, plain2 (z.cells[i]!) = true := by
    intro i
    cases z with
    | agg cs =>
      simp only [Value.cells]
      rcases Nat.lt_or_ge i cs.size with hl | hl
      · rw [getElem!_pos cs i hl]
        have h1 : ∀ (l : List Value), plainL plain l = true → ∀ v ∈ l, plain v = true := by
          intro l
          induction l with
          | nil => intro _ v hv; simp at hv
          | cons y l ih =>
            intro h v hv
            simp only [plainL, Bool.and_eq_true] at h
            rcases List.mem_cons.1 hv with rfl | hv
            · exact h.1
            · exact ih h.2 v hv
        have h2 := h1 cs.toList hz (cs[i]) (by simp)
        generalize cs[i] = v at *
        cases v <;> simp_all [plain2, plain]
      · rw [getElem!_neg cs i (by omega)]; rfl
    | tuple cs =>
      simp only [Value.cells]
      rcases Nat.lt_or_ge i 1 with hl | hl
      · have : i = 0 := by omega
        subst this; exact hz
      · rw [getElem!_neg _ i (by simp; omega)]; rfl
    | _ =>
      simp only [Value.cells]
      rcases Nat.lt_or_ge i 1 with hl | hl
      · have : i = 0 := by omega
        subst this; exact hz
      · rw [getElem!_neg _ i (by simp; omega)]; rfl
  have : ∀ l : List Value, (∀ v ∈ l, plain2 v = true) → VsR r l l := by
    intro l
    induction l with
    | nil => intro _; exact .nil
    | cons y l ih => intro h; exact .cons (VR.same2 (h y (by simp))) (ih fun v hv => h v (by simp [hv]))
  refine this _ fun v hv => ?_
  simp only [Array.toList_map, List.mem_map] at hv
  obtain ⟨i, _, rfl⟩ := hv
  exact hc _
theorem bsl_ok {ts : Tr Value} {a : Act} {t : TypeId} {n : Nat} {ps : Array (Nat × Operand)} (e : (bslO P ts t n ps : M F Nxt) h nx = .ok x h' nx' R W) (hM : Mod S r h.get w) (hN : New r nx nx') (hp : ∀ p ∈ ps.toList, VR r (opd ts p.2) (a.eval p.2)) :
    nx ≤ nx' ∧ ∃ u u' r' w', x = .val u ∧ (Instr.buildSlice t n (ps.map fun (i, y) => (i, a.eval y))).run P w = .ok u' w' ∧ VR r' u u' ∧ Ext S r w nx nx' W h'.get r' w' := by
  unfold bslO at e
  have e9 := cond_ok e
  clear e
  obtain ⟨hj, e⟩ := e9
  cases hs : sliceT P t with
  | none => rw [hs] at e; simp [fail] at e
  | some el =>
    rw [hs] at e; simp only at e
    cases hi : P.info? el with
    | none => rw [hi] at e; simp [fail] at e
    | some ie =>
      rw [hi] at e
      cases hz : zeroT P el with
      | none => rw [hz] at e; simp [fail] at e
      | some z =>
        rw [hz] at e; simp only at e
        obtain ⟨hzp, it, hi2, hiz⟩ := zeroT_of hz
        rw [hi] at hi2
        injection hi2 with hi2
        subst hi2
        cases hn0 : Nat.beq n 0 with
        | true =>
          rw [hn0] at e
          simp only [cond_true] at e
          obtain rfl := Nat.eq_of_beq_eq_true hn0
          obtain ⟨pl⟩ := ps
          cases pl with
          | cons y l => simp [fail] at e
          | nil =>
            simp only at e
            obtain ⟨b, h1, nx1, R1, W1, R2, W2, e1, e2, rfl, rfl⟩ := bind_ok e
            obtain ⟨rfl, rfl, rfl, rfl⟩ := val_ok e2
            unfold fresh at e1
            cases e1
            obtain ⟨r', hX, hb⟩ := ext_fresh (c := []) (c' := []) (t := el) hM hN .nil
            refine ⟨Nat.le_succ _, _, .slice (some ⟨w.heap.size, 0, none⟩) 0 0, r', _, rfl, ?_, .slice hb (by unfold capX; omega), by simpa using hX.congr fun n => .inr (Tr.get_set _ _ _ _)⟩
            have h0 : Array.range 0 = #[] := Array.eq_empty_of_size_eq_zero (by simp)
            simp [Instr.buildSlice, run_underlying (sliceT_of hs), sizeOf, typeInfo, hi, newRow, Instr.fill, h0]
        | false =>
        rw [hn0] at e
        simp only [cond_false] at e
        obtain ⟨hk, e⟩ := cond_ok e
        simp only [Bool.and_eq_true, Bool.not_eq_true'] at hk
        cases hf : Instr.fill (fun i => some (i * ie.size, ie.size)) ((Array.range (n * ie.size)).map (z.cells[· % z.cells.size]!)) (ps.toList.map fun p => (p.1, opd ts p.2)) with
        | none => rw [hf] at e; simp [fail] at e
        | some cs =>
          rw [hf] at e; simp only at e
          obtain ⟨cs', hf', hr⟩ := fill_rel _ ps.toList hp (noJunk_ok hj) (range_plain z hzp _) hf
          obtain ⟨b, h1, nx1, R1, W1, R2, W2, e1, e2, rfl, rfl⟩ := bind_ok e
          obtain ⟨rfl, rfl, rfl, rfl⟩ := val_ok e2
          unfold fresh at e1
          cases e1
          obtain ⟨r', hX, hb⟩ := ext_fresh hM hN hr
          have l1 := Nat.le_of_ble_eq_true hk.1
          have l2 := Nat.le_of_ble_eq_true hk.2
          have hrun := run_buildSlice (P := P) w t el n (ps.map fun (i, y) => (i, a.eval y)) cs' ie z (sliceT_of hs) hi hiz (by omega) (by omega) (by simpa using hf')
          refine ⟨Nat.le_succ _, _, _, r', _, rfl, hrun, .slice hb (by
            have hp : 0 < ie.size := Nat.pos_of_ne_zero (fun q => by rw [q, Nat.mul_zero] at l2; omega)
            have := Nat.le_mul_of_pos_right n hp
            unfold capX; omega), ?_⟩
          have : (⟨cs'.toList⟩ : Array Value) = cs' := rfl
          rw [this] at hX
          simpa using hX.congr fun n => .inr (Tr.get_set _ _ _ _)
theorem msl_ok {t : TypeId} {l c l' c' : Value} (e : (mslO P t l c : M F Nxt) h nx = .ok x h' nx' R W) (hM : Mod S r h.get w) (hN : New r nx nx') (hl : VR r l l') (hc : VR r c c') :
    nx ≤ nx' ∧ ∃ u u' r' w', x = .val u ∧ (Instr.makeSlice t l' c').run P w = .ok u' w' ∧ VR r' u u' ∧ Ext S r w nx nx' W h'.get r' w' := by
  unfold mslO at e
  cases hs : sliceT P t with
  | none => rw [hs] at e; simp [fail] at e
  | some el =>
    rw [hs] at e
    cases hn : natVal l with
    | none => rw [hn] at e; simp [fail] at e
    | some n =>
      rw [hn] at e
      cases hm : natVal c with
      | none => rw [hm] at e; simp [fail] at e
      | some m =>
        rw [hm] at e; simp only at e
        obtain ⟨kl, rfl⟩ := natVal_of hn
        obtain ⟨kc, rfl⟩ := natVal_of hm
        have hl' := hl.int
        have hc' := hc.int
        subst hl'
        subst hc'
        cases hi : P.info? el with
        | none => rw [hi] at e; simp [fail] at e
        | some ie =>
          rw [hi] at e
          cases hz : zeroT P el with
          | none => rw [hz] at e; simp [fail] at e
          | some z =>
            rw [hz] at e; simp only at e
            obtain ⟨hzp, it, hi2, hiz⟩ := zeroT_of hz
            rw [hi] at hi2
            injection hi2 with hi2
            subst hi2
            obtain ⟨hk, e⟩ := cond_ok e
            simp only [Bool.and_eq_true, Bool.not_eq_true'] at hk
            obtain ⟨⟨⟨k2, k3⟩, k4⟩, k5⟩ := hk
            have l1 := Nat.le_of_ble_eq_true k2
            have l2 := Nat.le_of_ble_eq_true k3
            have l3 := Nat.le_of_ble_eq_true k4
            have l4 := Nat.le_of_ble_eq_true k5
            obtain ⟨b, h1, nx1, R1, W1, R2, W2, e1, e2, rfl, rfl⟩ := bind_ok e
            obtain ⟨rfl, rfl, rfl, rfl⟩ := val_ok e2
            unfold fresh at e1
            cases e1
            obtain ⟨r', hX, hb⟩ := ext_fresh hM hN (range_plain z hzp (m * ie.size))
            have hrun := run_makeSlice (P := P) w t el ie z (sliceT_of hs) hi hiz kl kc (n : Int) (m : Int) (by omega) (by omega) (by simp only [Int.toNat_natCast]; omega) (by
              have : (ie.bytes : Int) * (m : Int) = ((ie.bytes * m : Nat) : Int) := by simp
              rw [this]; omega) (by omega)
            refine ⟨Nat.le_succ _, _, _, r', _, rfl, hrun, by simpa [vslice] using VR.slice hb (by unfold capX; omega), ?_⟩
            have hX2 := hX.congr (g' := (h.set nx (.cells ((Array.range (m * ie.size)).map (z.cells[· % z.cells.size]!)).toList el)).get) fun n => .inr (Tr.get_set _ _ _ _)
            have hA : (⟨((Array.range (m * ie.size)).map (z.cells[· % z.cells.size]!)).toList⟩ : Array Value) = madeCells z.cells ((m : Int).toNat * ie.size) := rfl
            rw [hA] at hX2
            exact hX2
theorem lenW_cases {k : M F Nxt} {v : Value} (e : lenW C k v h nx = .ok x h' nx' R W) : (∃ R2, lenO C k v h nx = .ok x h' nx' R2 W) ∨ ∃ R2, k h nx = .ok x h' nx' R2 W := by
  unfold lenW at e
  cases hc : chanI v with
  | none => rw [hc] at e; exact .inl ⟨_, e⟩
  | some i =>
    rw [hc] at e
    obtain ⟨bl, h3, nx3, R3, W3, R4, W4, e3, e4, rfl, rfl⟩ := bind_ok e
    unfold rd at e3
    cases hg : h.get i with
    | none => rw [hg] at e3; cases e3
    | some bl2 =>
      rw [hg] at e3
      cases e3
      cases hb : isOwB bl with
      | true => rw [hb] at e4; exact .inr ⟨_, by simpa using e4⟩
      | false => rw [hb] at e4; exact .inl ⟨_, by simpa using e4⟩
theorem len_cases {k : M F Nxt} {v : Value} (e : lenO C k v h nx = .ok x h' nx' R W) : (lenO C fail v : M F Nxt) h nx = .ok x h' nx' R W ∨ ∃ R2, k h nx = .ok x h' nx' R2 W := by
  unfold lenO at e ⊢
  cases v with
  | chan i =>
    simp only at e ⊢
    obtain ⟨f, h1, nx1, R1, W1, R2, W2, e1, e2, rfl, rfl⟩ := bind_ok e
    cases hln : C.len f with
    | some n =>
      rw [hln] at e2
      left
      exact bind_of e1 (by rw [hln]; exact e2)
    | none =>
      rw [hln] at e2
      right
      cases i with
      | none => simp [fact, fail] at e1
      | some i =>
        simp only [fact] at e1
        obtain ⟨bl, h3, nx3, R3, W3, R4, W4, e3, e4, rfl, rfl⟩ := bind_ok e1
        unfold rd at e3
        cases hg : h.get i with
        | none => rw [hg] at e3; cases e3
        | some bl2 =>
          rw [hg] at e3
          cases e3
          cases bl with
          | cells _ _ => simp [fail] at e4
          | room _ _ => simp [fail] at e4
          | opq => simp [fail] at e4
          | lp _ => simp [fail] at e4
          | ow _ => simp [fail] at e4
          | ad _ _ => simp [fail] at e4
          | fact f2 =>
            simp only at e4
            obtain ⟨rfl, rfl, rfl, rfl⟩ := ret_ok e4
            exact ⟨R2, by simpa using e2⟩
  | _ => exact .inl e
theorem len_ok {t ty : TypeId} {e2 : TypeId} {v v' : Value} (hlen : ∀ f n w v, S.holds f w v → C.len f = some n → ∃ a c, v = .slice a n c) (e : (lenO C fail v : M F Nxt) h nx = .ok x h' nx' R W) (hs : sliceT P t = some e2) (hM : Mod S r h.get w) (hv : VR r v v') :
    Just P r w x (Builtin.len_ #[t] ty #[v']) (h' = h ∧ nx' = nx ∧ W = []) := by
  unfold lenO at e
  have hu := run_underlying (sliceT_of hs) w
  cases v with
  | slice a n c =>
    simp only at e
    obtain ⟨rfl, hs2⟩ := val_ok e
    refine ⟨_, vint n, rfl, ?_, .same rfl, hs2⟩
    cases hv with
    | same p => simp [Builtin.len_, hu, goInt, vint]
    | slice hb hc => simp [Builtin.len_, hu, goInt, vint]
    | slicex hb hc h1 h2 => simp [Builtin.len_, hu, goInt, vint]
  | chan i =>
    simp only at e
    obtain ⟨f, h1, nx1, R1, W1, R2, W2, e1, e2, rfl, rfl⟩ := bind_ok e
    cases i with
    | none => simp [fact, fail] at e1
    | some i =>
      simp only [fact] at e1
      obtain ⟨bl, h3, nx3, R3, W3, R4, W4, e3, e4, rfl, rfl⟩ := bind_ok e1
      unfold rd at e3
      cases hg : h.get i with
      | none => rw [hg] at e3; cases e3
      | some bl2 =>
        rw [hg] at e3
        cases e3
        cases bl with
        | cells _ _ => simp [fail] at e4
        | room _ _ => simp [fail] at e4
        | opq => simp [fail] at e4
        | lp _ => simp [fail] at e4
        | ow _ => simp [fail] at e4
        | ad _ _ => simp [fail] at e4
        | fact f2 =>
          simp only at e4
          obtain ⟨rfl, rfl, rfl, rfl⟩ := ret_ok e4
          cases hln : C.len f with
          | none => rw [hln] at e2; simp [fail] at e2
          | some n =>
            rw [hln] at e2; simp only at e2
            obtain ⟨rfl, rfl, rfl, rfl⟩ := val_ok e2
            obtain ⟨v0, hv0, hh, ho⟩ := hM.fact _ _ hg
            obtain ⟨a, c, rfl⟩ := hlen _ _ _ _ hh hln
            refine ⟨_, vint n, rfl, ?_, .same rfl, rfl, rfl, by simp⟩
            cases hv with
            | same p => simp [plain] at p
            | opq hp _ =>
              rw [hv0] at hp
              injection hp with hp
              subst hp
              simp [Builtin.len_, hu, goInt, vint]
  | _ => simp [fail] at e
theorem quickB_ok {op : BinOp} {u v z : Value} (e : quickB P op u v = some z) (t : TypeId) (x y : Operand) (w : World) : (do eqGuard op t x y u v; binOp op t u v : Sem Value).run P w = .ok z w := by
  unfold quickB at e
  cases u with
  | int k m =>
    cases v with
    | int k' n =>
      simp only at e
      cases hk : decide (k = k') with
      | false => rw [hk] at e; cases e
      | true =>
        rw [hk] at e
        simp only [cond_true] at e
        have hkk : k = k' := of_decide_eq_true hk
        subst hkk
        cases op <;> simp [intO] at e <;> subst e <;> simp [eqGuard, binOp, Op.intArith, Op.intCmp] <;> rfl
    | _ => simp at e
  | float k m =>
    cases v with
    | float k' n =>
      simp only at e
      cases hk : decide (k = k') with
      | false => rw [hk] at e; cases e
      | true =>
        rw [hk] at e
        simp only [cond_true] at e
        have hkk : k = k' := of_decide_eq_true hk
        subst hkk
        cases ha : isArith op with
        | true =>
          rw [ha] at e
          have h1 := pureRun_run _ e w
          cases op <;> simp [isArith] at ha <;> simpa [eqGuard, binOp] using h1
        | false =>
          rw [ha] at e
          cases hc : isCmp op with
          | false => rw [hc] at e; cases e
          | true =>
            rw [hc] at e
            have h1 := pureRun_run _ e w
            cases op <;> simp [isCmp] at hc <;> simpa [eqGuard, binOp] using h1
    | _ => simp at e
  | string a =>
    cases v with
    | string b =>
      simp only at e
      have h1 := pureRun_run _ e w
      cases op <;> first
        | (simpa [eqGuard, binOp] using h1)
        | (simp [Op.stringOp, stuck, pureRun] at e)
    | _ => simp at e
  | _ => simp at e
theorem quickB_plain {op : BinOp} {u v z : Value} (e : quickB P op u v = some z) : plain u = true ∧ plain v = true := by
  unfold quickB at e
  cases u <;> cases v <;> first
    | exact ⟨rfl, rfl⟩
    | (simp at e; done)
theorem exec_soft {ρ ρ' : Operand → Value} {o : Oper} (hs : soft o.op = true) (h : ∀ x ∈ o.op.operands, ρ x = ρ' x) : execOp ρ o = execOp ρ' o := by
  obtain ⟨dst, op, ty, pos, after, gd⟩ := o
  simp only at hs h
  cases op with
  | binOp op t x y yt =>
    have h1 := h x (by simp [Op.operands]); have h2 := h y (by simp [Op.operands])
    simp only [execOp, h1, h2]
  | unOp op t x => have h1 := h x (by simp [Op.operands]); simp only [execOp, h1]
  | convert s d x => have h1 := h x (by simp [Op.operands]); simp only [execOp, h1]
  | index t x y =>
    have h1 := h x (by simp [Op.operands]); have h2 := h y (by simp [Op.operands])
    simp only [execOp, h1, h2]
  | slice t x lo hi mx =>
    have h1 := h x (by simp [Op.operands])
    have h2 : lo.map ρ = lo.map ρ' := by cases lo with
      | none => rfl
      | some y => simp [h y (by simp [Op.operands])]
    have h3 : hi.map ρ = hi.map ρ' := by cases hi with
      | none => rfl
      | some y => simp [h y (by simp [Op.operands])]
    have h4 : mx.map ρ = mx.map ρ' := by cases mx with
      | none => rfl
      | some y => simp [h y (by simp [Op.operands])]
    simp only [execOp, h1, h2, h3, h4]
  | call c =>
    obtain ⟨callee, args, ats⟩ := c
    cases callee with
    | builtin b =>
      have h1 : args.map ρ = args.map ρ' := by
        apply Array.map_congr_left
        intro x hx
        exact h x (by simp [Op.operands, Call.operands, hx])
      simp only [execOp, resolve, h1]
    | _ => simp [soft] at hs
  | _ => simp [soft] at hs
def HardOK (S : Sig F) (P : Program) (C : Cfg F) : Prop := ∀ (o : Oper) (vs : List Value) (h : Tr (Blk F)) (nx : Nat) (x : Nxt) (h' : Tr (Blk F)) (nx' : Nat) (R W : List Nat), hardy o.op = true → C.hard o vs h nx = .ok x h' nx' R W →
  ∀ (r : Ren) (w : World) (ρ : Operand → Value), Mod S r h.get w → New r nx nx' → VsR r vs (o.op.operands.toList.map ρ) → nx ≤ nx' ∧ After S P ((execOp ρ o).run P w) r w nx nx' W h'.get x
theorem or_list {ts : Tr Value} {a : Act} : ∀ {l : List Operand}, OR r ts a l → VsR r (l.map (opd ts)) (l.map a.eval)
  | [], _ => .nil
  | y :: l, hO => .cons (hO y (by simp)) (or_list fun z hz => hO z (by simp [hz]))
theorem hardy_soft {op : Op} (h : soft op = true) : hardy op = true := by
  cases op <;> first | rfl | exact h
theorem hardO_ok {ts : Tr Value} {a : Act} {o : Oper} (hH : HardOK S P C) (hs : hardy o.op = true) (e : (hardO C ts o : M F Nxt) h nx = .ok x h' nx' R W) (hM : Mod S r h.get w) (hN : New r nx nx') (hO : OR r ts a o.op.operands.toList) :
    nx ≤ nx' ∧ After S P ((execOp a.eval o).run P w) r w nx nx' W h'.get x :=
  hH o _ _ _ _ _ _ _ _ hs e r w a.eval hM hN (or_list hO)
theorem softO_ok {ts : Tr Value} {a : Act} {o : Oper} (hH : HardOK S P C) (hs : soft o.op = true) (e : (softO P C ts o : M F Nxt) h nx = .ok x h' nx' R W) (hM : Mod S r h.get w) (hN : New r nx nx') (hO : OR r ts a o.op.operands.toList) :
    nx ≤ nx' ∧ After S P ((execOp a.eval o).run P w) r w nx nx' W h'.get x := by
  unfold softO at e
  cases hk : allOpds ts o.op with
  | false => rw [hk] at e; exact hardO_ok hH (hardy_soft hs) e hM hN hO
  | true =>
    rw [hk] at e
    simp only [cond_true] at e
    have hp := mem_opds hk
    have heq : execOp a.eval o = execOp (opd ts) o := exec_soft hs fun y hy => (hO y (by simpa using hy)).eq_of_plain2 (hp y hy)
    unfold softV at e
    cases hr : pureRun P (execOp (opd ts) o) with
    | none => rw [hr] at e; exact hardO_ok hH (hardy_soft hs) e hM hN hO
    | some n =>
      rw [hr] at e; simp only at e
      cases n with
      | value v =>
        simp only at e
        obtain ⟨hpv, e⟩ := cond_ok e
        obtain ⟨rfl, rfl, rfl, rfl⟩ := val_ok e
        exact ⟨Nat.le_refl _, v, w, r, by rw [heq]; exact pureRun_run _ hr w, VR.same2 hpv, Ext.refl _ _ hM⟩
      | _ => simp [fail] at e
theorem bin_ok {ts : Tr Value} {a : Act} {o : Oper} {op : BinOp} {t yt : TypeId} {p q : Operand} (hH : HardOK S P C) (hop : o.op = .binOp op t p q yt) (e : (binO P C ts o op (opd ts p) (opd ts q) : M F Nxt) h nx = .ok x h' nx' R W) (hM : Mod S r h.get w) (hN : New r nx nx') (hO : OR r ts a o.op.operands.toList) :
    nx ≤ nx' ∧ After S P ((execOp a.eval o).run P w) r w nx nx' W h'.get x := by
  unfold binO at e
  have h1 := hO p (by simp [hop, Op.operands])
  have h2 := hO q (by simp [hop, Op.operands])
  cases hq : quickB P op (opd ts p) (opd ts q) with
  | none => rw [hq] at e; exact softO_ok hH (by rw [hop]; rfl) e hM hN hO
  | some v =>
    rw [hq] at e; simp only at e
    obtain ⟨hpv, e⟩ := cond_ok e
    obtain ⟨rfl, rfl, rfl, rfl⟩ := val_ok e
    obtain ⟨hp1, hp2⟩ := quickB_plain hq
    have e1 := h1.eq_of_plain hp1
    have e2 := h2.eq_of_plain hp2
    have hrun := quickB_ok hq t p q w
    refine ⟨Nat.le_refl _, v, w, r, ?_, .same hpv, Ext.refl _ _ hM⟩
    simp only [execOp, hop, e1, e2]
    rw [Sem.run_bind, hrun]
    rfl
theorem un_ok {ts : Tr Value} {a : Act} {o : Oper} {op : UnOp} {t : TypeId} {p : Operand} (hH : HardOK S P C) (hop : o.op = .unOp op t p) (e : (unO P C ts o op (opd ts p) : M F Nxt) h nx = .ok x h' nx' R W) (hM : Mod S r h.get w) (hN : New r nx nx') (hO : OR r ts a o.op.operands.toList) :
    nx ≤ nx' ∧ After S P ((execOp a.eval o).run P w) r w nx nx' W h'.get x := by
  have hs : soft o.op = true := by rw [hop]; rfl
  unfold unO at e
  cases op with
  | not =>
    simp only at e
    cases hv : opd ts p with
    | bool b =>
      rw [hv] at e; simp only at e
      obtain ⟨rfl, rfl, rfl, rfl⟩ := val_ok e
      have h1 := hO p (by simp [hop, Op.operands])
      rw [hv] at h1
      have e1 := h1.bool
      exact ⟨Nat.le_refl _, .bool (!b), w, r, by simp only [execOp, hop, e1]; rfl, .same rfl, Ext.refl _ _ hM⟩
    | _ => rw [hv] at e; exact softO_ok hH hs e hM hN hO
  | _ => exact softO_ok hH hs e hM hN hO
theorem blt_ok {ts : Tr Value} {a : Act} {o : Oper} {c : Call} {b : Builtin} (hH : HardOK S P C) (hlen : ∀ f n w v, S.holds f w v → C.len f = some n → ∃ a c, v = .slice a n c) (hop : o.op = .call c) (hc : c.callee = .builtin b) (e : (bltO P C ts o c b : M F Nxt) h nx = .ok x h' nx' R W) (hM : Mod S r h.get w) (hN : New r nx nx') (hO : OR r ts a o.op.operands.toList) :
    nx ≤ nx' ∧ After S P ((execOp a.eval o).run P w) r w nx nx' W h'.get x := by
  have hs : soft o.op = true := by rw [hop]; simp [soft, hc]
  unfold bltO at e
  cases b with
  | len =>
    simp only at e
    rcases hargs : c.args.toList with _ | ⟨y, _ | ⟨y2, l2⟩⟩
    · rw [hargs] at e; simp [fail] at e
    · rw [hargs] at e; simp only at e
      cases hst : isStr (opd ts y) with
      | true => rw [hst] at e; exact softO_ok hH hs e hM hN hO
      | false =>
        rw [hst] at e; simp only [cond_false] at e
        cases hsl : (c.argTypes[0]?).bind (sliceT P) with
        | none => rw [hsl] at e; exact hardO_ok hH (hardy_soft hs) e hM hN hO
        | some e2 =>
          rw [hsl] at e; simp only at e
          obtain ⟨t, ht, hsl2⟩ := Option.bind_eq_some_iff.1 hsl
          have hv := hO y (by
            obtain ⟨callee, args, ats⟩ := c
            simp only at hargs hc
            subst hc
            simp [hop, Op.operands, Call.operands, hargs])
          rcases lenW_cases e with ⟨R3, e⟩ | ⟨R3, e⟩
          case inr => exact hardO_ok hH (hardy_soft hs) e hM hN hO
          rcases len_cases e with e | ⟨R2, e⟩
          case inr => exact hardO_ok hH (hardy_soft hs) e hM hN hO
          have hj := len_ok (P := P) (t := t) (ty := o.type) hlen e hsl2 hM hv
          refine hj.after hM fun v hrun => ?_
          obtain ⟨callee, args, ats⟩ := c
          simp only at hargs hc ht
          subst hc
          have hA : args.map a.eval = #[a.eval y] := by
            rw [map_list, hargs]; rfl
          have hlen2 : Builtin.len_ ats o.type #[a.eval y] = Builtin.len_ #[t] o.type #[a.eval y] := by
            simp [Builtin.len_, ht]
          simp only [execOp, hop, resolve, hA, Sem.run_bind, Sem.run_pure, Result.andThen_ok, invoke, builtin, hlen2, hrun]
    · rw [hargs] at e; simp [fail] at e
  | min => exact softO_ok hH hs e hM hN hO
  | max => exact softO_ok hH hs e hM hN hO
  | complex => exact softO_ok hH hs e hM hN hO
  | real => exact softO_ok hH hs e hM hN hO
  | imag => exact softO_ok hH hs e hM hN hO
  | _ => exact hardO_ok hH (hardy_soft hs) e hM hN hO
theorem cal_ok {ts : Tr Value} {a : Act} {o : Oper} {c : Call} {f : Operand} (hop : o.op = .call c) (hc : c.callee = .value f) (e : (calO ts c (opd ts f) : M F Nxt) h nx = .ok x h' nx' R W) (hM : Mod S r h.get w) (hO : OR r ts a o.op.operands.toList) :
    nx ≤ nx' ∧ After S P ((execOp a.eval o).run P w) r w nx nx' W h'.get x := by
  obtain ⟨callee, args, ats⟩ := c
  simp only at hc
  subst hc
  unfold calO at e
  have hf := hO f (by simp [hop, Op.operands, Call.operands])
  have hA : ∀ l : List Operand, (∀ y ∈ l, y ∈ args.toList) → VsR r (l.map (opd ts)) (l.map a.eval) := by
    intro l
    induction l with
    | nil => intro _; exact .nil
    | cons y l ih => exact fun hl => .cons (hO y (by
        have := hl y (by simp)
        simp only [hop, Op.operands, Call.operands]
        simp at this ⊢
        exact .inr this)) (ih fun z hz => hl z (by simp [hz]))
  have hargs := hA args.toList fun _ h => h
  cases hv : opd ts f with
  | func fn l m =>
    rw [hv] at e hf; simp only at e
    cases fn with
    | func g =>
      simp only at e
      obtain ⟨rfl, rfl, rfl, rfl⟩ := ret_ok e
      have key : ∃ l' m', a.eval f = .func (.func g) ⟨l'⟩ ⟨m'⟩ ∧ VsR r l.toList l' ∧ VsR r m.toList m' := by
        generalize a.eval f = vf at hf
        cases hf with
        | same p =>
          simp only [plain, Bool.and_eq_true, Array.isEmpty_iff] at p
          obtain ⟨rfl, rfl⟩ := p
          exact ⟨[], [], rfl, .nil, .nil⟩
        | func h1 h2 => exact ⟨_, _, rfl, h1, h2⟩
      obtain ⟨l', m', hev, h1, h2⟩ := key
      refine ⟨Nat.le_refl _, l' ++ args.toList.map a.eval ++ m', ?_, (h1.append hargs).append h2, Ext.refl _ _ hM⟩
      simp only [execOp, hop, resolve, hev, Deferred.ofValue, Sem.run_bind, Sem.run_pure, Result.andThen_ok, invoke, map_list]
      congr 2
      simp
    | _ => simp [fail] at e
  | chan i =>
    rw [hv] at e hf; simp only at e
    cases i with
    | none => simp [fail] at e
    | some i =>
      simp only at e
      obtain ⟨rfl, rfl, rfl, rfl⟩ := ret_ok e
      have key : ∃ v', a.eval f = v' ∧ r.val i = some v' := by
        generalize a.eval f = vf at hf
        cases hf with
        | same p => simp [plain] at p
        | opq h1 h2 => exact ⟨_, rfl, h1⟩
      obtain ⟨v', hev, h1⟩ := key
      refine ⟨Nat.le_refl _, v', args.toList.map a.eval, h1, hargs, fun b hb => ?_, Ext.refl _ _ hM⟩
      subst hb
      simp only [execOp, hop, resolve, hev, Deferred.ofValue, Sem.run_bind, Sem.run_pure, Result.andThen_ok, invoke, map_list]
      congr 2
      simp
  | _ => rw [hv] at e; simp [fail] at e
end
end Ev
end Go.Proofs.YtfmebfkdpfbjbaaGreatDoor
namespace Go.Proofs.YtfmebfkdpfbjbaaGreatDoor
open Go
namespace Ev
section
variable {F : Type} {S : Sig F} {P : Program} {C : Cfg F}
variable {h h' : Tr (Blk F)} {nx nx' : Nat} {R W : List Nat} {r : Ren} {w : World} {x : Nxt}
structure Fits (S : Sig F) (P : Program) (C : Cfg F) : Prop where
  hid : C.hid = S.hn
  G : C.G = S.G
  len : ∀ f n w v, S.holds f w v → C.len f = some n → ∃ a c, v = .slice a n c
  glob : ∀ b cs, C.glob b = some cs → plainL plain cs = true ∧ b < S.G ∧ ∀ w, S.base w → ∃ t z, w.heap[b]? = some (.cells ⟨cs⟩ t z)
  tab : ∀ f fn, C.tab f = some fn → P.funcs[f]? = some fn ∧ (fn.name == "runtime.NumGoroutine") = false
  mixed : P.follows .mixedOrders = true
  hard : HardOK S P C
theorem condH {α : Type} {b : Bool} {m n : M F α} {y : α} (e : cond b m n h nx = .ok y h' nx' R W) : m h nx = .ok y h' nx' R W ∨ n h nx = .ok y h' nx' R W := by
  cases b
  · exact .inr e
  · exact .inl e
theorem disp_ok {ts : Tr Value} {a : Act} {o : Oper} (hF : Fits S P C) (e : (disp o.op P C o ts : M F Nxt) h nx = .ok x h' nx' R W) (hM : Mod S r h.get w) (hN : New r nx nx') (hO : OR r ts a o.op.operands.toList) :
    nx ≤ nx' ∧ After S P ((execOp a.eval o).run P w) r w nx nx' W h'.get x := by
  have HO : ∀ y, y ∈ o.op.operands → VR r (opd ts y) (a.eval y) := fun y hy => hO y (by simpa using hy)
  cases hop : o.op with
  | move y =>
    rw [hop] at e
    obtain ⟨rfl, rfl, rfl, rfl⟩ := val_ok (show (val (opd ts y) : M F Nxt) h nx = _ from e)
    exact ⟨Nat.le_refl _, _, w, r, by simp only [execOp, hop]; rfl, HO y (by simp [hop, Op.operands]), Ext.refl _ _ hM⟩
  | assign y =>
    rw [hop] at e
    obtain ⟨rfl, rfl, rfl, rfl⟩ := val_ok (show (val (opd ts y) : M F Nxt) h nx = _ from e)
    exact ⟨Nat.le_refl _, _, w, r, by simp only [execOp, hop]; rfl, HO y (by simp [hop, Op.operands]), Ext.refl _ _ hM⟩
  | pick c p q =>
    rw [hop] at e
    have e' : (pickO (opd ts c) (opd ts p) (opd ts q) : M F Nxt) h nx = .ok x h' nx' R W := e
    have hc := HO c (by simp [hop, Op.operands])
    have hp := HO p (by simp [hop, Op.operands])
    have hq := HO q (by simp [hop, Op.operands])
    unfold pickO at e'
    cases hcv : opd ts c with
    | bool b =>
      rw [hcv] at e' hc
      simp only at e'
      obtain ⟨rfl, rfl, rfl, rfl⟩ := val_ok e'
      have hc' := hc.bool
      refine ⟨Nat.le_refl _, if b then a.eval p else a.eval q, w, r, ?_, ?_, Ext.refl _ _ hM⟩
      · simp only [execOp, hop, hc', asBool]; rfl
      · cases b
        · exact hq
        · exact hp
    | _ => rw [hcv] at e'; simp [fail] at e'
  | alloc t =>
    rw [hop] at e
    have e' : (allocO P t : M F Nxt) h nx = .ok x h' nx' R W := e
    unfold allocO at e'
    cases hz : zeroT P t with
    | none => rw [hz] at e'; simp [fail] at e'
    | some z =>
      rw [hz] at e'; simp only at e'
      obtain ⟨hzp, i, hi, hiz⟩ := zeroT_of hz
      obtain ⟨hle, u, r', rfl, hu, hX⟩ := box_ok e' hM hN (fun _ => VR.cells_same hzp)
      refine ⟨hle, _, _, r', ?_, hu, hX⟩
      simp only [execOp, hop, Instr.alloc, Sem.run_bind, zeroValue, typeInfo, hi, hiz, run_program, Result.andThen_ok, Sem.run_pure, newVar, newRow, run_newObj]
      rfl
  | box t y =>
    rw [hop] at e
    have e' : (boxO t (opd ts y) : M F Nxt) h nx = .ok x h' nx' R W := e
    obtain ⟨hle, u, r', rfl, hu, hX⟩ := box_ok e' hM hN (fun hj => (HO y (by simp [hop, Op.operands])).cellsOf hj)
    refine ⟨hle, _, _, r', ?_, hu, hX⟩
    simp only [execOp, hop, Instr.box, Sem.run_bind, Result.andThen_ok, Sem.run_pure, newVar, newRow, run_newObj]
    rfl
  | build t ps =>
    rw [hop] at e
    have e' : (buildO P ts t ps : M F Nxt) h nx = .ok x h' nx' R W := e
    refine (build_ok (w := w) e' fun p hp => HO p.2 ?_).after hM fun v hv => ?_
    · simp only [hop, Op.operands]
      simp
      exact ⟨p.1, by simpa using hp⟩
    · simp only [execOp, hop, Sem.run_bind, hv, Result.andThen_ok, Sem.run_pure]
  | buildSlice t n ps =>
    rw [hop] at e
    have e' : (bslO P ts t n ps : M F Nxt) h nx = .ok x h' nx' R W := e
    obtain ⟨hle, u, u', r', w', rfl, hrun, hu, hX⟩ := bsl_ok (a := a) (P := P) e' hM hN fun p hp => HO p.2 (by
      simp only [hop, Op.operands]
      simp
      exact ⟨p.1, by simpa using hp⟩)
    exact ⟨hle, u', w', r', by simp only [execOp, hop, Sem.run_bind, hrun, Result.andThen_ok, Sem.run_pure], hu, hX⟩
  | load t y =>
    rw [hop] at e
    have e0 : cond (isOpq (opd ts y)) (hardO C ts o) (bind (loadG P C t (opd ts y)) val) h nx = .ok x h' nx' R W := e
    rcases condH e0 with e' | e'
    · exact hardO_ok hF.hard (by rw [hop]; rfl) e' hM hN hO
    obtain ⟨v, h1, nx1, R1, W1, R2, W2, e1, e2, rfl, rfl⟩ := bind_ok e'
    obtain ⟨rfl, rfl, rfl, rfl⟩ := val_ok e2
    obtain ⟨rfl, rfl, rfl, v', ad, hp, hl, hv⟩ := loadG_ok e1 hM hF.glob (HO y (by simp [hop, Op.operands]))
    refine ⟨Nat.le_refl _, v', w, r, ?_, hv, Ext.refl _ _ hM⟩
    simp only [execOp, hop, hp, Instr.loadAt, Instr.sureAddr, Sem.run_bind, Sem.run_pure, Result.andThen_ok, hl]
  | store t y z =>
    rw [hop] at e
    have e0 : cond (isOpq (opd ts y)) (hardO C ts o) (bind (storeA P C t (opd ts y) (opd ts z)) fun _ => ret Nxt.skip) h nx = .ok x h' nx' R W := e
    rcases condH e0 with e' | e'
    · exact hardO_ok hF.hard (by rw [hop]; rfl) e' hM hN hO
    obtain ⟨v, h1, nx1, R1, W1, R2, W2, e1, e2, rfl, rfl⟩ := bind_ok e'
    obtain ⟨rfl, rfl, rfl, rfl⟩ := ret_ok e2
    obtain ⟨rfl, ad, w', hp, hl, hX⟩ := store_ok e1 hF.G hF.hid hM (HO y (by simp [hop, Op.operands])) (HO z (by simp [hop, Op.operands]))
    refine ⟨Nat.le_refl _, w', r, ?_, by simpa using hX⟩
    simp only [execOp, hop, hp, Instr.storeAt, Instr.sureAddr, Sem.run_bind, Sem.run_pure, Result.andThen_ok, hl]
  | nilCheck y =>
    rw [hop] at e
    have e0 : cond (isOpq (opd ts y)) (hardO C ts o) (nilO (opd ts y)) h nx = .ok x h' nx' R W := e
    rcases condH e0 with e' | e'
    · exact hardO_ok hF.hard (by rw [hop]; rfl) e' hM hN hO
    exact nil_ok e' hop rfl (HO y (by simp [hop, Op.operands])) hM
  | binOp op t p q yt =>
    rw [hop] at e
    exact bin_ok hF.hard hop (show (binO P C ts o op (opd ts p) (opd ts q) : M F Nxt) h nx = _ from e) hM hN hO
  | unOp op t p =>
    rw [hop] at e
    exact un_ok hF.hard hop (show (unO P C ts o op (opd ts p) : M F Nxt) h nx = _ from e) hM hN hO
  | convert t u y =>
    rw [hop] at e
    exact softO_ok hF.hard (by rw [hop]; rfl) (show (softO P C ts o : M F Nxt) h nx = _ from e) hM hN hO
  | makeInterface t y =>
    rw [hop] at e
    refine (mki_ok (w := w) (show (mkiO P t (opd ts y) : M F Nxt) h nx = _ from e) (HO y (by simp [hop, Op.operands]))).after hM fun v hv => ?_
    simp only [execOp, hop, Sem.run_bind, hv, Result.andThen_ok, Sem.run_pure]
  | makeFunc fn p q =>
    rw [hop] at e
    have hl : ∀ l : List Operand, (∀ y ∈ l, y ∈ o.op.operands) → VsR r (l.map (opd ts)) (l.map a.eval) := by
      intro l
      induction l with
      | nil => intro _; exact .nil
      | cons y l ih => exact fun h => .cons (HO y (h y (by simp))) (ih fun z hz => h z (by simp [hz]))
    refine (mkf_ok (w := w) (a := a) (show (mkfO ts fn p q : M F Nxt) h nx = _ from e) (hl _ fun y hy => by simp [hop, Op.operands]; exact .inl (by simpa using hy)) (hl _ fun y hy => by simp [hop, Op.operands]; exact .inr (by simpa using hy))).after hM fun v hv => ?_
    simp only [execOp, hop, Sem.run_bind, hv, Result.andThen_ok, Sem.run_pure]
  | makeSlice t l c =>
    rw [hop] at e
    have e0 : cond (isOpq (opd ts l)) (hardO C ts o) (mslO P t (opd ts l) (opd ts c)) h nx = .ok x h' nx' R W := e
    rcases condH e0 with e' | e'
    · exact hardO_ok hF.hard (by rw [hop]; rfl) e' hM hN hO
    obtain ⟨hle, u, u', r', w', rfl, hrun, hu, hX⟩ := msl_ok (P := P) e' hM hN (HO l (by simp [hop, Op.operands])) (HO c (by simp [hop, Op.operands]))
    exact ⟨hle, u', w', r', by simp only [execOp, hop, Sem.run_bind, hrun, Result.andThen_ok, Sem.run_pure], hu, hX⟩
  | slice t y lo hi mx =>
    rw [hop] at e
    exact softO_ok hF.hard (by rw [hop]; rfl) (show (softO P C ts o : M F Nxt) h nx = _ from e) hM hN hO
  | fieldAddr s y f =>
    rw [hop] at e
    have e0 : cond (isOpq (opd ts y)) (hardO C ts o) (faddrO P s (opd ts y) f) h nx = .ok x h' nx' R W := e
    rcases condH e0 with e' | e'
    · exact hardO_ok hF.hard (by rw [hop]; rfl) e' hM hN hO
    refine (faddr_ok (w := w) e' (HO y (by simp [hop, Op.operands]))).after hM fun v hv => ?_
    simp only [execOp, hop, Sem.run_bind, hv, Result.andThen_ok, Sem.run_pure]
  | field t y f =>
    rw [hop] at e
    refine (field_ok (w := w) (show (fieldO P t (opd ts y) f : M F Nxt) h nx = _ from e) (HO y (by simp [hop, Op.operands]))).after hM fun v hv => ?_
    simp only [execOp, hop, Sem.run_bind, hv, Result.andThen_ok, Sem.run_pure]
  | indexAddr t y i =>
    rw [hop] at e
    have e0 : cond (isOpq (opd ts y)) (hardO C ts o) (iaddrO P t (opd ts y) (opd ts i)) h nx = .ok x h' nx' R W := e
    rcases condH e0 with e' | e'
    · exact hardO_ok hF.hard (by rw [hop]; rfl) e' hM hN hO
    refine (iaddr_ok (w := w) e' (HO y (by simp [hop, Op.operands])) (HO i (by simp [hop, Op.operands]))).after hM fun v hv => ?_
    simp only [execOp, hop, Sem.run_bind, hv, Result.andThen_ok, Sem.run_pure]
  | index t y i =>
    rw [hop] at e
    have e' : cond (isStr (opd ts y)) (softO P C ts o) (indexO P t (opd ts y) (opd ts i)) h nx = .ok x h' nx' R W := e
    cases hst : isStr (opd ts y) with
    | true => rw [hst] at e'; exact softO_ok hF.hard (by rw [hop]; rfl) e' hM hN hO
    | false =>
      rw [hst] at e'
      refine (index_ok (w := w) e' (HO y (by simp [hop, Op.operands])) (HO i (by simp [hop, Op.operands]))).after hM fun v hv => ?_
      simp only [execOp, hop, Sem.run_bind, hv, Result.andThen_ok, Sem.run_pure]
  | extract t i =>
    rw [hop] at e
    refine (extract_ok (w := w) (show (extractO (opd ts t) i : M F Nxt) h nx = _ from e) (HO t (by simp [hop, Op.operands]))).after hM fun v hv => ?_
    simp only [execOp, hop, Sem.run_bind, hv, Result.andThen_ok, Sem.run_pure]
  | call c =>
    rw [hop] at e
    have e' : (callO P C ts o c : M F Nxt) h nx = .ok x h' nx' R W := e
    unfold callO at e'
    cases hc : c.callee with
    | value f => rw [hc] at e'; exact cal_ok hop hc e' hM hO
    | builtin b => rw [hc] at e'; exact blt_ok hF.hard hF.len hop hc e' hM hN hO
    | invoke _ _ => rw [hc] at e'; simp [fail] at e'
  | _ => rw [hop] at e; exact absurd (show (fail : M F Nxt) h nx = _ from e) (by simp [fail])
theorem loc_val (v : Value) : Loc (val v : M F Nxt) := loc_ret (Nxt.val v)
end
end Ev
end Go.Proofs.YtfmebfkdpfbjbaaGreatDoor
