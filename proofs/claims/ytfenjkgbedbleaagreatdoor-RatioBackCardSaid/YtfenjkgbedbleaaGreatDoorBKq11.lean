/- Contracts. -/
import Derived.Test.YtfenjkgbedbleaaGreatDoorBKq10
import Derived.Test.YtfenjkgbedbleaaGreatDoorBKq08
import Derived.Laws.Concat
import Derived.Test.YtfenjkgbedbleaaGreatDoorBKq09
namespace Go.Proofs.YtfenjkgbedbleaaGreatDoor
open Go.RowKit
def Grs (w : World) (B : Nat) (v : Value) (gs : List Nat) : Prop := w.ownsRow B 58 1 v gs.length (cellsOf .u64 gs).toList
structure GI (n : Nat) (gs : List Nat) (R : Nat) : Prop where
  ok : Big.Ok Big.G19 gs
  eq : Big.val Big.G19 gs + Big.G19 ^ gs.length * R = n
  top : R = 0 → ∃ r t, gs = r ++ [t] ∧ 1 ≤ t
theorem Tryz.infoU64' : (Tryz.prog.info? 58).map (fun i => (i.zero, i.size, i.bytes)) = some (some (.int .u64 0), 1, 8) := by kernel_rfl
def QW (W : World) (g k : Nat) (L : List Nat) (e : Ending) (w' : World) : Prop := ∃ (r : Nat) (zs : List Nat), e = .returned (.int .u64 (r : Int)) ∧ r < Big.G19 ∧ zs.length = k ∧ Big.Ok Big.M64 zs ∧ Big.val Big.M64 (L.take k) = Big.val Big.M64 zs * Big.G19 + r ∧
  Blk w' g 58 .u64 (zs ++ L.drop k) ∧ Only g W w'
set_option maxHeartbeats 1000000 in
set_option maxRecDepth 100000 in
theorem text_any (w : World) (v : Value) (n K : Nat) (h : NatIn w v n) (hn : Sz K n) (hK : K ≤ 100000000) (htab : Tab w) :
    Calls Tryz.prog 17 #[v] w fun e w' => e = .returned (.string ⟨(Lib.decDigits n).toArray⟩) ∧ Below w.heap.size w w' := by
  obtain ⟨l, hx, ol, nl, rfl⟩ := h
  have hl := len_of_lt nl hn.out
  by_cases h0 : l = []
  · subst h0
    obtain ⟨A, c, rfl, -, -, -⟩ := hx
    have e : Big.val Big.M64 [] = 0 := rfl
    rw [e]
    have HD := Lib.hid (show (⟨(Lib.decDigits 0).toArray⟩ : ByteArray) = ⟨#[48]⟩ by rw [Lib.decDigits_one (by omega)]; rfl)
    clear hn htab ol nl hl e
    go_enter Tryz.func17, Tryz.ntmps17
    go_wp2_with fail
    go_ret
    exact ⟨by rw [HD.out]; rfl, Below.refl _ _⟩
  have hne : Big.val Big.M64 l ≠ 0 := fun e => h0 (Big.norm_zero Big.M64_pos l nl e)
  have HX := Lib.hid hx; have OL := Lib.hid (And.intro ol nl); have HT := Lib.hid htab; have HS := Lib.hid hn
  have t0 : ((l.length : Int) == 0) = false := beq_eq_false_iff_ne.2 (by have := List.length_pos_iff.2 h0; omega)
  obtain ⟨A, c, rfl, -, -, -⟩ := hx
  obtain ⟨i0, hi, hz0, hz1, hz2⟩ := info_parts Tryz.infoU64'
  obtain ⟨N, hN⟩ : ∃ N, Big.val Big.M64 l = N := ⟨_, rfl⟩
  rw [hN] at hne HS ⊢
  have HN := Lib.hid hN
  clear ol nl htab hn hN h0
  go_enter Tryz.func17, Tryz.ntmps17
  go_wp2_with fail
  refine (clone_any w _ l HX.out (by omega)).mono ?_
  rintro e w1 ⟨rfl, hk1, hk2⟩
  have HP := Lib.hid (own_clone hk1 OL.out.1 OL.out.2 (by omega))
  rw [HN.out] at HP
  have HB := Lib.hid hk2
  have HG := Lib.hid hk1.lt
  clear hk1 hk2
  have hw1 : w.heap.size ≤ w1.heap.size := HB.out.size
  go_wp2_with fail
  have CW := Lib.hid (fun W L k c' (hb : Blk W w.heap.size 58 .u64 L) (a1 : k ≤ L.length) (a2 : k ≤ c') (a3 : Big.Ok Big.M64 L) (a4 : k ≤ 1000000000000) =>
    show Calls Tryz.prog 35 #[.slice (some ⟨w.heap.size, 0, none⟩) k c', .int .u64 10000000000000000000] W (QW W w.heap.size k L) from quoWord_any W w.heap.size k c' Big.G19 L hb a1 a2 a3 Big.G19_pos (by unfold Big.G19 Big.M64; omega) a4)
  go_loopw [3, 4] (fun gv rv wr => ∃ (gs : List Nat) (R : Nat), Hid (OwnNat wr rv w.heap.size (l.length + 1) R) ∧ Hid (Grs wr (w.heap.size + 1) gv gs) ∧ Hid (GI N gs R) ∧ Hid (Below w.heap.size w wr)) (fun _ rv wr => numAt wr rv)
  case atStart => exact ⟨[], N, HP, Lib.hid (World.ownsRow_nil _ _ _ _), Lib.hid ⟨Big.Ok.nil, by simp [Big.val], fun e => absurd e hne⟩, HB⟩
  case round =>
    obtain ⟨gs, R, HO, HGr, HI, HBr⟩ := hrel
    obtain ⟨k, X, rfl, hb, hk, hcX, hcl, oX, nX, lX, hv⟩ := HO.out.len
    have HX1 := Lib.hid (And.intro hb (And.intro oX (And.intro nX (And.intro lX hv)))); have HX2 := Lib.hid (And.intro hk (And.intro hcX hcl))
    have hkR : k = 0 ↔ R = 0 := by
      rw [← hv]
      constructor
      · intro e; subst e; rfl
      · intro e; have := Big.norm_zero Big.M64_pos _ nX e; rw [this] at lX; simpa using lX.symm
    have hnum := numAt_own HO.out
    have HNUM := Lib.hid hnum
    have hgl := hb.lt
    clear hb oX nX lX hv hcX hcl hnum
    rcases Nat.eq_zero_or_pos k with hk0 | hk0
    · have hR0 := hkR.1 hk0
      subst hk0 hR0
      obtain ⟨r, t, hgs, ht1⟩ := HI.out.top rfl
      have hval : Big.val Big.G19 gs = N := by have := HI.out.eq; rw [Nat.mul_zero, Nat.add_zero] at this; exact this
      obtain ⟨m, hm⟩ : ∃ m, r.length = m := ⟨_, rfl⟩
      have hlenM : gs.length = m + 1 := by rw [hgs]; simp [hm]
      have hmb : m ≤ 2 * K := by
        rcases Nat.eq_zero_or_pos m with e | e
        · omega
        · have h1 := Big.groups_few (gs := r) (R := t) (n := N) (K := K) (by rw [← hval, hgs, Big.val_snoc]) ht1 HS.out.out
          omega
      have hG := HGr.out
      rcases hG.2 with ⟨_, e⟩ | ⟨gb, cap, cur, hu3, hgb, hblk, -⟩
      · omega
      subst hu3
      have hcell : ∀ j, j < m + 1 → wr.cell? ⟨gb, j, none⟩ = some (.int .u64 ((Big.nth gs j : Nat) : Int)) := fun j hj => by
        rw [World.ownsRow.cellAt hG j (by omega), ← cellsOf_get .u64 gs j (by omega)]; simp
      have hgbl : gb < wr.heap.size := (Array.getElem?_eq_some_iff.1 hblk).1
      have hnth : Big.nth gs m = t := by rw [hgs]; unfold Big.nth; rw [List.getD_eq_getElem?_getD, List.getElem?_append_right (by omega), hm]; simp
      have c0 := hcell m (by omega)
      rw [hnth] at c0
      have htG : t < Big.G19 := by rw [← hnth]; exact HI.out.ok.nth Big.G19_pos m
      have HCELL := Lib.hid hcell
      have HGS := Lib.hid (And.intro hgs (And.intro hm (And.intro hlenM (And.intro hval HI.out.ok))))
      have HTG := Lib.hid (And.intro ht1 htG)
      have hdrop : Big.val Big.G19 (gs.drop m) = t := by rw [hgs, List.drop_append_of_le_length (by omega), ← hm, List.drop_length]; simp [Big.val]
      have HDR := Lib.hid hdrop
      have CA := Lib.hid (fun hB => appendUint_any wr.heap.size 0 t (by unfold Big.G19 at htG; omega) (.slice none 0 0) [] wr (World.ownsRow_nil _ _ _ _) hB (by omega) (HT.out.keep HBr.out))
      have hle20 : (Lib.decDigits t).length ≤ 20 := by
        rw [Lib.decDigits_length]
        have := Lib.numDigits_eq t ht1 (by unfold Big.G19 at htG; omega); split at this <;> omega
      have HLE := Lib.hid hle20
      obtain ⟨M, hM⟩ : ∃ M, gs.length = M := ⟨_, rfl⟩
      rw [hM] at hlenM ⊢
      have i1 : (M : Int) - 1 = (m : Int) := by omega
      have i2 : (m : Int) < (M : Int) := by omega
      have i3 : M ≤ 1000000001 := by omega
      clear hgs hval hm hG hblk hcell hnth htG hdrop hle20 hM hlenM HO HNUM HX1 HX2 HGr HI hkR ht1
      go_wp2_with fail
      refine (CA.out (Nat.le_refl _)).mono ?_
      rintro e w5 ⟨v5, rfl, hv5, hw5⟩
      have HV5 := Lib.hid (show Row w5 wr.heap.size v5 (0 + (Lib.decDigits t).length) (Lib.decDigits t) from hv5)
      have HW5 := Lib.hid hw5
      clear hv5 hw5 CA c0
      go_wp2_with fail
      go_loopw [6, 7] (fun s i wq => ∃ (j nb : Nat), j ≤ m ∧ i = .int .i64 ((j : Int) - 1) ∧ nb ≤ 20 * (m + 1 - j) ∧ Hid (Row wq wr.heap.size s nb (Lib.decDigits (Big.val Big.G19 (gs.drop j)))) ∧ Hid (Below wr.heap.size wr wq)) (fun _ i _ => (intOf i + 1).toNat)
      case atStart => exact ⟨m, 0 + (Lib.decDigits t).length, Nat.le_refl _, rfl, by have := HLE.out; omega, Lib.hid (by rw [HDR.out]; exact HV5.out), HW5⟩
      case round =>
        obtain ⟨j, nb, hj, rfl, hnb, HR, HBq⟩ := hrel
        rename World => wq
        rcases Nat.eq_zero_or_pos j with hj0 | hj0
        · subst hj0
          have hR := HR.out
          rw [List.drop_zero, HGS.out.2.2.2.1] at hR
          have hlen := hR.1
          rw [Nat.mul_one, Lib.byteCells_length] at hlen
          rcases hR.2 with ⟨_, e⟩ | ⟨gs', cap', cur', hu6, hgb', hblk', -⟩
          · exfalso
            rw [← hlen] at e
            exact Big.dec_ne N (List.length_eq_zero_iff.1 e)
          subst hu6
          have hcv := run_convert_bytes_back (P := Tryz.prog) wq 68 9 5 ⟨gs', 0, none⟩ cap' (Lib.decDigits N) Tryz.underlying68 Tryz.underlying5 Tryz.underlying9 (fun i hi => by
            rw [Lib.add_plain, Nat.zero_add, World.ownsRow.cellAt hR i (by omega)]
            simp [Lib.byteCells, hi])
          rw [hlen] at hcv
          have HEND := Lib.hid (HBr.out.trans (HBq.out.mono HBr.out.size))
          clear hR hlen hblk'
          go_wp2_with fail
          go_ret
          exact ⟨rfl, HEND.out⟩
        · obtain ⟨j', rfl⟩ : ∃ j', j = j' + 1 := ⟨j - 1, by omega⟩
          have e1 : (((j' + 1 : Nat) : Int) - 1) = (j' : Int) := by omega
          rw [e1]
          have hjm : (j' : Int) < (M : Int) := by omega
          have hj0' : (0 : Int) ≤ (j' : Int) := by omega
          have c0 := (HBq.out.cell (p := ⟨gb, j', none⟩) hgbl).trans (HCELL.out j' (by omega))
          have hposd : 1 ≤ Big.val Big.G19 (gs.drop (j' + 1)) := by
            rw [HGS.out.1]
            exact Big.val_drop_pos HTG.out.1 (by have := HGS.out.2.1; simp; omega)
          have HDG := Lib.hid (Big.dec_groups HGS.out.2.2.2.2 (show j' < gs.length by have := HGS.out.2.2.1; omega) hposd)
          have hgG := HGS.out.2.2.2.2.nth Big.G19_pos j'
          obtain ⟨x, hx⟩ : ∃ x, Big.nth gs j' = x := ⟨_, rfl⟩
          rw [hx] at c0 HDG hgG
          have CG := Lib.hid (appendGroup_any wr.heap.size nb x hgG u6 _ wq HR.out HBq.out.size (by omega) (HT.out.keep (HBr.out.trans (HBq.out.mono HBr.out.size))))
          clear hposd hgG hx e1
          go_wp2_with fail
          refine CG.out.mono ?_
          rintro e w7 ⟨v7, rfl, hv7, hw7⟩
          have HV7 := Lib.hid hv7; have HB7 := Lib.hid (HBq.out.trans hw7)
          clear hv7 hw7
          go_wp2_with fail
          go_roundw
          case rel => exact ⟨j', nb + 19, by omega, rfl, by omega, Lib.hid (by rw [HDG.out]; exact HV7.out), HB7⟩
          case measure => first | (simp [intOf]; done) | (simp [intOf]; omega)
    · have hkI : (k : Int) > 0 := by omega
      have hR1 : 1 ≤ R := by
        rcases Nat.eq_zero_or_pos R with e | e
        · exact absurd (hkR.2 e) (by omega)
        · exact e
      go_wp2_with fail
      refine (CW.out _ X k _ HX1.out.1 (by have := HX2.out; omega) HX2.out.1 HX1.out.2.1 (by have := HX2.out; omega)).mono ?_
      rintro e w2 ⟨r, zs, rfl, hrl, hzl, hzo, hzv, hzb, hzw⟩
      have HZ := Lib.hid (And.intro hzl (And.intro hzo (And.intro hzv hrl)))
      have HZB := Lib.hid hzb
      have HGr2 := Lib.hid (show Grs w2 (w.heap.size + 1) u3 gs from World.ownsRow.kept HGr.out hzw (by
        rcases hv : u3.ownBlock with _ | kk
        · exact Or.inl rfl
        · exact Or.inr (by have := (HGr.out.lt kk hv).1; intro e; injection e with e; omega)))
      have HBr2 := Lib.hid (hzw.below HBr.out (Nat.le_refl _) HBr.out.size)
      have hgl2 := hzb.lt
      clear hzl hzo hzv hzb hzw hrl
      have hlenb : gs.length < 2 * K := by have hi := HI.out.eq; exact Big.groups_few hi hR1 (by rw [← HN.out] at HS; have h1 := HS.out.out; rw [HN.out] at h1; exact h1)
      have HO3 := Lib.hid (HGr2.out.alloc (.cells #[.int .u64 (r : Int)] 58))
      have HBr3 := Lib.hid (below_alloc HBr2.out (Nat.le_refl _) (.cells #[.int .u64 (r : Int)] 58))
      have HZ3 := Lib.hid (HZB.out.alloc' (.cells #[.int .u64 (r : Int)] 58))
      have hbs : w.heap.size + 1 ≤ w2.heap.size + 1 := by omega
      go_wp2_with (at_builtin; refine wpList_append_own _ rfl _ _ 39 rfl (w.heap.size + 1) 58 i0 (.int .u64 0) 1 8 Tryz.underlying39 hi hz0 hz1 hz2 rfl (by decide) _ _ _ rfl HO3.out ⟨_, 0, none⟩ 1 1 [Value.int .u64 (r : Int)] rfl rfl (by intro j u' hj; match j, hj with | 0, hj => simp at hj; subst hj; simp [Addr.add]) (by intro u' hu'; simp at hu'; subst hu'; rfl) (by unfold maxLen; omega) (by omega) (by simp; omega) ?_)
      intro v4 w4 hown4 hgrow4 _
      have HGr4 := Lib.hid (show Grs w4 (w.heap.size + 1) v4 (gs ++ [r]) by
        unfold Grs; rw [List.length_append, List.length_singleton, cellsOf_toList, List.map_append, ← cellsOf_toList]; exact hown4)
      have HB4 := Lib.hid (HBr3.out.grown hgrow4 HBr3.out.size (fun kk hk => by have := (HO3.out.lt kk hk).1; omega))
      have HZ4 := Lib.hid (show Blk w4 w.heap.size 58 .u64 (zs ++ X.drop k) from (hgrow4.block w.heap.size HZ3.out.lt (by
        intro e; have := (HO3.out.lt w.heap.size e.symm).1; omega)).trans HZ3.out)
      have T := trimmed HZ4.out HZ.out.1 HX2.out.2.1 HX2.out.1 HX2.out.2.2 HZ.out.2.1 HX1.out.2.1
      have HTr := Lib.hid T
      have CT := Lib.hid (trim_call T.1 HZ.out.1)
      clear hown4 hgrow4 T HBr3 HZ3 HO3 HZB HBr2 HGr2 hbs
      go_wp2_with fail
      refine CT.out.mono ?_
      rintro e w' ⟨rfl, rfl⟩
      go_wp2_with fail
      have eq1 : R = Big.val Big.M64 zs * Big.G19 + r := by have h1 := HZ.out.2.2.1; rw [HX1.out.2.2.2.2] at h1; exact h1
      go_roundw
      case rel =>
        refine ⟨gs ++ [r], Big.val Big.M64 zs, Lib.hid HTr.out.2, HGr4, Lib.hid ⟨HI.out.ok.append (Big.Ok.cons HZ.out.2.2.2 Big.Ok.nil), Big.val_snoc_group HI.out.eq eq1, fun e => ⟨gs, r, rfl, ?_⟩⟩, HB4⟩
        rw [e, Nat.zero_mul, Nat.zero_add] at eq1
        omega
      case measure =>
        rw [numAt_own HTr.out.2, HNUM.out, eq1]
        have h2 : Big.val Big.M64 zs * 2 ≤ Big.val Big.M64 zs * Big.G19 := Nat.mul_le_mul_left _ (by unfold Big.G19; omega)
        omega
def txQ (q : Rat) : List UInt8 := (if Big.ng q = true then [45] else []) ++ Lib.decDigits (Big.nu q) ++ (if Big.de q = 1 then [] else 47 :: Lib.decDigits (Big.de q))
theorem textB {P : Program} {f : FuncId} {args : Array Value} {b W : World} {v : Value} (h : Below b.heap.size b W) (c : Calls P f args W fun e w' => e = .returned v ∧ Below W.heap.size W w') :
    Calls P f args W fun e w' => e = .returned v ∧ Below b.heap.size b w' :=
  c.mono fun _ _ ⟨h1, h2⟩ => ⟨h1, h.trans (h2.mono h.size)⟩
theorem add_bytes {P : Program} (a b : List UInt8) (ha : a.length ≤ 1000000) (hb : b.length ≤ 1000000) (W : World) : (Op.stringOp .add ⟨a.toArray⟩ ⟨b.toArray⟩).run P W = .ok (.string ⟨(a ++ b).toArray⟩) W := by
  rw [run_string_add_sum W _ _ (by simp [ByteArray.size]; omega)]
  have e : (⟨a.toArray⟩ : ByteArray) ++ ⟨b.toArray⟩ = ⟨(a ++ b).toArray⟩ := by
    apply ByteArray.ext
    simp
  rw [e]
set_option maxRecDepth 100000 in
set_option maxHeartbeats 4000000 in
theorem raText_any (w : World) (q : Rat) (hq : Fit q) (htab : Tab w) :
    Calls Tryz.prog 5 #[.agg #[.bool (Big.ng q), .string (bst (Big.nu q)), .string (bst (Big.de q))]] w (Ret2 w (.string ⟨(txQ q).toArray⟩) 0) := by
  have HS := Lib.hid hq.sm; have HT := Lib.hid htab
  have CT1 := Lib.hid (fun b W v (h : NatIn W v (Big.nu q)) (ht : Tab W) (hb : Below b.heap.size b W) => textB hb (text_any W v (Big.nu q) 64 h HS.out.nu (by omega) ht))
  have CT2 := Lib.hid (fun b W v (h : NatIn W v (Big.de q)) (ht : Tab W) (hb : Below b.heap.size b W) => textB hb (text_any W v (Big.de q) 64 h HS.out.de (by omega) ht))
  have HTX := Lib.hid (show txQ q = (if Big.ng q = true then [45] else []) ++ Lib.decDigits (Big.nu q) ++ (if Big.de q = 1 then [] else 47 :: Lib.decDigits (Big.de q)) from rfl)
  have HSG := Lib.hid (show (sgQ q < 0) ↔ Big.ng q = true by
    unfold sgQ; split
    · rename_i h; simp [h]
    · rename_i h; simp [h]; split <;> omega)
  clear htab
  have HRD := Lib.hid (fun W g (h : AtL W g 23 #[.bool (Big.ng q), .string (bst (Big.nu q)), .string (bst (Big.de q))]) => read1_any W g q h hq)
  have HB1 := Lib.hid (below_alloc (box1_below w (.cells #[.bool (Big.ng q), .string (bst (Big.nu q)), .string (bst (Big.de q))] 23)) (Nat.le_refl _) (.cells #[.bool (Big.ng q), .string (bst (Big.nu q)), .string (bst (Big.de q))] 23))
  have HN1 := AtL.new (w.alloc (.cells #[.bool (Big.ng q), .string (bst (Big.nu q)), .string (bst (Big.de q))] 23)) 23 #[.bool (Big.ng q), .string (bst (Big.nu q)), .string (bst (Big.de q))]
  rw [alloc_size] at HN1
  have HN1 := Lib.hid HN1
  clear hq
  go_enter Tryz.func5, Tryz.ntmps5
  go_wp2_with fail
  refine (HRD.out _ _ HN1.out).mono ?_
  generalize (w.alloc (.cells #[.bool (Big.ng q), .string (bst (Big.nu q)), .string (bst (Big.de q))] 23)).alloc (.cells #[.bool (Big.ng q), .string (bst (Big.nu q)), .string (bst (Big.de q))] 23) = wa at *
  rintro e w1 ⟨v1, rfl, ⟨g, a, b, rfl, hat, hnq⟩, hw1⟩
  have HB2 := Lib.hid (HB1.out.trans (hw1.mono HB1.out.size))
  obtain ⟨A, l, cc, B, m, dd, e1, -, -⟩ := hnq.is_agg
  simp only [Value.agg.injEq] at e1
  have e1a : a = .slice A l cc := by have := congrArg (fun z : Array Value => z[1]?) e1; simpa using this
  have e1b : b = .slice B m dd := by have := congrArg (fun z : Array Value => z[2]?) e1; simpa using this
  subst e1a e1b
  have HAT := Lib.hid hat; have HNQ := Lib.hid hnq
  clear e1 hat hnq hw1 HB1 HN1 HRD
  have c0 := HAT.out.cell 0 rfl; have c1 := HAT.out.cell 1 rfl; have c2 := HAT.out.cell 2 rfl
  have KX := Lib.hid (fun W (h : Below w1.heap.size w1 W) => And.intro ((HAT.out.keep h).cell 0 rfl) (And.intro ((HAT.out.keep h).cell 1 rfl) ((HAT.out.keep h).cell 2 rfl)))
  have CS := Lib.hid (fun W (h : Below w1.heap.size w1 W) => textB h (exSign_any W _ q (HNQ.out.keep h)))
  have CW := Lib.hid (fun W (h : Below w1.heap.size w1 W) => textB h (exIsWhole_any W _ q (HNQ.out.keep h)))
  have CN := Lib.hid (fun W (h : Below w1.heap.size w1 W) => lift2 h (exNum_any W _ q (HNQ.out.keep h)))
  have CD := Lib.hid (fun W (h : Below w1.heap.size w1 W) => lift2 h (exDen_any W _ q (HNQ.out.keep h)))
  have T1 := Lib.hid (fun W (h : Below w1.heap.size w1 W) => HT.out.keep (HB2.out.trans (h.mono HB2.out.size)))
  go_wp2_with fail
  refine (CN.out _ (Below.refl _ _)).mono ?_
  rintro e w2 ⟨v2, rfl, hv2, hw2, -⟩
  go_wp2_with fail
  refine (CT1.out w1 _ _ hv2 (T1.out _ hw2) hw2).mono ?_
  rintro e w3 ⟨rfl, hw3⟩
  obtain ⟨S1, hS1⟩ : ∃ z, Lib.decDigits (Big.nu q) = z := ⟨_, rfl⟩
  obtain ⟨S2, hS2⟩ : ∃ z, Lib.decDigits (Big.de q) = z := ⟨_, rfl⟩
  have L1 : S1.length ≤ 20 * 64 := by rw [← hS1]; exact Big.dec_len_words (by omega) HS.out.nu.out
  have L2 : S2.length ≤ 20 * 64 := by rw [← hS2]; exact Big.dec_len_words (by omega) HS.out.de.out
  rw [hS1, hS2] at HTX
  rw [hS1]
  rw [hS2] at CT2
  have H1 := Lib.hid hS1; have H2 := Lib.hid hS2
  clear c0 c1 c2 hv2 hw2 hS1 hS2 CT1 CN
  have c0 := (KX.out _ hw3).1; have c1 := (KX.out _ hw3).2.1; have c2 := (KX.out _ hw3).2.2
  go_wp2_with fail
  refine (CS.out _ hw3).mono ?_
  rintro e w4 ⟨rfl, hw4⟩
  clear c0 c1 c2 hw3 CS
  have c0 := (KX.out _ hw4).1; have c1 := (KX.out _ hw4).2.1; have c2 := (KX.out _ hw4).2.2
  obtain ⟨sg, hsg⟩ : ∃ z, sgQ q = z := ⟨_, rfl⟩
  rw [hsg] at HSG ⊢
  clear hsg
  obtain ⟨TX, hTX⟩ : ∃ z, txQ q = z := ⟨_, rfl⟩
  rw [hTX] at HTX
  obtain ⟨dq, hdq⟩ : ∃ z, decide (Big.de q = 1) = z := ⟨_, rfl⟩
  rw [hdq] at CW
  have HDQ := Lib.hid hdq; have HTX2 := Lib.hid hTX
  clear hdq hTX
  by_cases hneg : sg < 0
  · have hnn : Big.ng q = true := HSG.out.1 hneg
    have HNN := Lib.hid hnn
    clear hnn
    have a1 : ∀ W, (Op.stringOp .add ⟨#[45]⟩ ⟨S1.toArray⟩).run Tryz.prog W = .ok (.string ⟨(45 :: S1).toArray⟩) W := fun W => add_bytes [45] S1 (by simp) (by omega) W
    have a2 : ∀ W, (Op.stringOp .add ⟨#[47]⟩ ⟨S2.toArray⟩).run Tryz.prog W = .ok (.string ⟨(47 :: S2).toArray⟩) W := fun W => add_bytes [47] S2 (by simp) (by omega) W
    have a3 : ∀ W, (Op.stringOp .add ⟨(45 :: S1).toArray⟩ ⟨(47 :: S2).toArray⟩).run Tryz.prog W = .ok (.string ⟨(45 :: S1 ++ 47 :: S2).toArray⟩) W := fun W => add_bytes (45 :: S1) (47 :: S2) (by simp; omega) (by simp; omega) W
    have a4 : ∀ W, (Op.stringOp .add ⟨S1.toArray⟩ ⟨(47 :: S2).toArray⟩).run Tryz.prog W = .ok (.string ⟨(S1 ++ 47 :: S2).toArray⟩) W := fun W => add_bytes S1 (47 :: S2) (by omega) (by simp; omega) W
    have t1 : (sg < 0) := hneg
    go_wp2_with fail
    refine (CW.out _ hw4).mono ?_
    rintro e w5 ⟨rfl, hw5⟩
    clear c0 c1 c2 hw4 CW
    have c0 := (KX.out _ hw5).1; have c1 := (KX.out _ hw5).2.1; have c2 := (KX.out _ hw5).2.2
    cases dq
    · go_wp2_with fail
      refine (CD.out _ hw5).mono ?_
      rintro e w6 ⟨v6, rfl, hv6, hw6, -⟩
      go_wp2_with fail
      refine (CT2.out w1 _ _ hv6 (T1.out _ hw6) hw6).mono ?_
      rintro e w7 ⟨rfl, hw7⟩
      have HB7 := Lib.hid (HB2.out.trans (hw7.mono HB2.out.size))
      clear c0 c1 c2 hw5 hw6 hw7 hv6
      go_wp2_with fail
      go_ret2
      refine ⟨?_, HB7.out⟩
      have hd := of_decide_eq_false HDQ.out
      rw [HTX2.out, HTX.out, if_pos HNN.out, if_neg hd]
      first
        | rfl
        | (rw [List.append_nil]; rfl)
    · have HB7 := Lib.hid (HB2.out.trans (hw5.mono HB2.out.size))
      clear hw5
      go_wp2_with fail
      go_ret2
      refine ⟨?_, HB7.out⟩
      have hd := of_decide_eq_true HDQ.out
      rw [HTX2.out, HTX.out, if_pos HNN.out, if_pos hd]
      first
        | rfl
        | (rw [List.append_nil]; rfl)
  · have hnn : ¬ Big.ng q = true := fun e => hneg (HSG.out.2 e)
    have HNN := Lib.hid hnn
    clear hnn
    have a1 : ∀ W, (Op.stringOp .add ⟨#[45]⟩ ⟨S1.toArray⟩).run Tryz.prog W = .ok (.string ⟨(45 :: S1).toArray⟩) W := fun W => add_bytes [45] S1 (by simp) (by omega) W
    have a2 : ∀ W, (Op.stringOp .add ⟨#[47]⟩ ⟨S2.toArray⟩).run Tryz.prog W = .ok (.string ⟨(47 :: S2).toArray⟩) W := fun W => add_bytes [47] S2 (by simp) (by omega) W
    have a3 : ∀ W, (Op.stringOp .add ⟨(45 :: S1).toArray⟩ ⟨(47 :: S2).toArray⟩).run Tryz.prog W = .ok (.string ⟨(45 :: S1 ++ 47 :: S2).toArray⟩) W := fun W => add_bytes (45 :: S1) (47 :: S2) (by simp; omega) (by simp; omega) W
    have a4 : ∀ W, (Op.stringOp .add ⟨S1.toArray⟩ ⟨(47 :: S2).toArray⟩).run Tryz.prog W = .ok (.string ⟨(S1 ++ 47 :: S2).toArray⟩) W := fun W => add_bytes S1 (47 :: S2) (by omega) (by simp; omega) W
    have t1 : ¬ (sg < 0) := hneg
    go_wp2_with fail
    refine (CW.out _ hw4).mono ?_
    rintro e w5 ⟨rfl, hw5⟩
    clear c0 c1 c2 hw4 CW
    have c0 := (KX.out _ hw5).1; have c1 := (KX.out _ hw5).2.1; have c2 := (KX.out _ hw5).2.2
    cases dq
    · go_wp2_with fail
      refine (CD.out _ hw5).mono ?_
      rintro e w6 ⟨v6, rfl, hv6, hw6, -⟩
      go_wp2_with fail
      refine (CT2.out w1 _ _ hv6 (T1.out _ hw6) hw6).mono ?_
      rintro e w7 ⟨rfl, hw7⟩
      have HB7 := Lib.hid (HB2.out.trans (hw7.mono HB2.out.size))
      clear c0 c1 c2 hw5 hw6 hw7 hv6
      go_wp2_with fail
      go_ret2
      refine ⟨?_, HB7.out⟩
      have hd := of_decide_eq_false HDQ.out
      rw [HTX2.out, HTX.out, if_neg HNN.out, if_neg hd]
      first
        | rfl
        | (rw [List.append_nil]; rfl)
    · have HB7 := Lib.hid (HB2.out.trans (hw5.mono HB2.out.size))
      clear hw5
      go_wp2_with fail
      go_ret2
      refine ⟨?_, HB7.out⟩
      have hd := of_decide_eq_true HDQ.out
      rw [HTX2.out, HTX.out, if_neg HNN.out, if_pos hd]
      first
        | rfl
        | (rw [List.append_nil]; rfl)
def Int2 (w : World) (z : Int × Bool) (e : Ending) (w' : World) : Prop := e = .returned (.tuple #[.int .i64 z.1, .bool z.2]) ∧ Below w.heap.size w w'
theorem word_num (w : World) (v : Value) (n : Nat) (h : NatIn w v n) (hn : n < Big.M64) :
    Calls Tryz.prog 27 #[v] w fun e w' => e = .returned (.tuple #[.int .u64 ((n : Nat) : Int), .bool true]) ∧ Below w.heap.size w w' :=
  (word2_any w v n h).mono fun _ _ ⟨h1, h2⟩ => ⟨by rw [h1, if_pos hn, decide_eq_true hn], h2 ▸ Below.refl _ _⟩
set_option maxRecDepth 100000 in
set_option maxHeartbeats 2000000 in
theorem int64_neg (w : World) (q : Rat) (hq : Fit q) (hde : Big.de q = 1) (hw : Big.nu q < Big.M64) (hm : (Big.nu q : Int) ≤ 9223372036854775807) (hng : Big.ng q = true) :
    Calls Tryz.prog 10 #[.agg #[.bool (Big.ng q), .string (bst (Big.nu q)), .string (bst (Big.de q))]] w (Int2 w (-(Big.nu q : Int), true)) := by
  have HS := Lib.hid hq.sm
  have Hhde := Lib.hid hde
  clear hde
  have Hhw := Lib.hid hw
  clear hw
  have Hhng := Lib.hid hng
  clear hng
  have HRD := Lib.hid (fun W g (h : AtL W g 23 #[.bool (Big.ng q), .string (bst (Big.nu q)), .string (bst (Big.de q))]) => read1_any W g q h hq)
  have HB1 := Lib.hid (below_alloc (box1_below w (.cells #[.bool (Big.ng q), .string (bst (Big.nu q)), .string (bst (Big.de q))] 23)) (Nat.le_refl _) (.cells #[.bool (Big.ng q), .string (bst (Big.nu q)), .string (bst (Big.de q))] 23))
  have HN1 := AtL.new (w.alloc (.cells #[.bool (Big.ng q), .string (bst (Big.nu q)), .string (bst (Big.de q))] 23)) 23 #[.bool (Big.ng q), .string (bst (Big.nu q)), .string (bst (Big.de q))]
  rw [alloc_size] at HN1
  have HN1 := Lib.hid HN1
  clear hq
  go_enter Tryz.func10, Tryz.ntmps10
  go_wp2_with fail
  refine (HRD.out _ _ HN1.out).mono ?_
  generalize (w.alloc (.cells #[.bool (Big.ng q), .string (bst (Big.nu q)), .string (bst (Big.de q))] 23)).alloc (.cells #[.bool (Big.ng q), .string (bst (Big.nu q)), .string (bst (Big.de q))] 23) = wa at *
  rintro e w1 ⟨v1, rfl, ⟨g, a, b, rfl, hat, hnq⟩, hw1⟩
  have HB2 := Lib.hid (HB1.out.trans (hw1.mono HB1.out.size))
  obtain ⟨A, l, cc, B, m, dd, e1, -, -⟩ := hnq.is_agg
  simp only [Value.agg.injEq] at e1
  have e1a : a = .slice A l cc := by have := congrArg (fun z : Array Value => z[1]?) e1; simpa using this
  have e1b : b = .slice B m dd := by have := congrArg (fun z : Array Value => z[2]?) e1; simpa using this
  subst e1a e1b
  have HAT := Lib.hid hat; have HNQ := Lib.hid hnq
  clear e1 hat hnq hw1 HB1 HN1 HRD
  have c0 := HAT.out.cell 0 rfl; have c1 := HAT.out.cell 1 rfl; have c2 := HAT.out.cell 2 rfl
  have KX := Lib.hid (fun W (h : Below w1.heap.size w1 W) => And.intro ((HAT.out.keep h).cell 0 rfl) (And.intro ((HAT.out.keep h).cell 1 rfl) ((HAT.out.keep h).cell 2 rfl)))
  have CS := Lib.hid (fun W (h : Below w1.heap.size w1 W) => textB h (exSign_any W _ q (HNQ.out.keep h)))
  have CW := Lib.hid (fun W (h : Below w1.heap.size w1 W) => textB h (exIsWhole_any W _ q (HNQ.out.keep h)))
  have CN := Lib.hid (fun W (h : Below w1.heap.size w1 W) => lift2 h (exNum_any W _ q (HNQ.out.keep h)))
  rw [decide_eq_true Hhde.out] at CW
  have CD := Lib.hid (fun W v (h : NatIn W v (Big.nu q)) (hb : Below w1.heap.size w1 W) => textB hb (word_num W v _ h Hhw.out))
  have sgv : sgQ q = -1 := by unfold sgQ; rw [if_pos Hhng.out]
  rw [sgv] at CS
  clear sgv
  have hbr := Below.refl w1.heap.size w1
  go_wp2_with (first
    | (go_at_call 19; refine (CW.out _ (by assumption)).mono ?_; rintro e w2 ⟨rfl, hw2⟩; have c0 := (KX.out _ hw2).1; have c1 := (KX.out _ hw2).2.1; have c2 := (KX.out _ hw2).2.2)
    | (go_at_call 16; refine (CN.out _ (by assumption)).mono ?_; rintro e w3 ⟨v3, rfl, hv3, hw3, -⟩; have c0 := (KX.out _ hw3).1; have c1 := (KX.out _ hw3).2.1; have c2 := (KX.out _ hw3).2.2)
    | (go_at_call 27; refine (CD.out _ _ hv3 (by assumption)).mono ?_; rintro e w4 ⟨rfl, hw4⟩; have c0 := (KX.out _ hw4).1; have c1 := (KX.out _ hw4).2.1; have c2 := (KX.out _ hw4).2.2)
    | (go_at_call 18; refine (CS.out _ (by assumption)).mono ?_; rintro e w5 ⟨rfl, hw5⟩; have c0 := (KX.out _ hw5).1; have c1 := (KX.out _ hw5).2.1; have c2 := (KX.out _ hw5).2.2)
    | fail)
  go_ret2
  refine ⟨by rfl, ?_⟩
  first
    | exact HB2.out.trans (hw5.mono HB2.out.size)
    | exact HB2.out.trans (hw4.mono HB2.out.size)
    | exact HB2.out.trans (hw3.mono HB2.out.size)
    | exact HB2.out.trans (hw2.mono HB2.out.size)
set_option maxRecDepth 100000 in
set_option maxHeartbeats 2000000 in
theorem int64_pos (w : World) (q : Rat) (hq : Fit q) (hde : Big.de q = 1) (hw : Big.nu q < Big.M64) (hm : (Big.nu q : Int) ≤ 9223372036854775807) (hng : ¬ Big.ng q = true) :
    Calls Tryz.prog 10 #[.agg #[.bool (Big.ng q), .string (bst (Big.nu q)), .string (bst (Big.de q))]] w (Int2 w ((Big.nu q : Int), true)) := by
  have HS := Lib.hid hq.sm
  have Hhde := Lib.hid hde
  clear hde
  have Hhw := Lib.hid hw
  clear hw
  have Hhng := Lib.hid hng
  clear hng
  have HRD := Lib.hid (fun W g (h : AtL W g 23 #[.bool (Big.ng q), .string (bst (Big.nu q)), .string (bst (Big.de q))]) => read1_any W g q h hq)
  have HB1 := Lib.hid (below_alloc (box1_below w (.cells #[.bool (Big.ng q), .string (bst (Big.nu q)), .string (bst (Big.de q))] 23)) (Nat.le_refl _) (.cells #[.bool (Big.ng q), .string (bst (Big.nu q)), .string (bst (Big.de q))] 23))
  have HN1 := AtL.new (w.alloc (.cells #[.bool (Big.ng q), .string (bst (Big.nu q)), .string (bst (Big.de q))] 23)) 23 #[.bool (Big.ng q), .string (bst (Big.nu q)), .string (bst (Big.de q))]
  rw [alloc_size] at HN1
  have HN1 := Lib.hid HN1
  clear hq
  go_enter Tryz.func10, Tryz.ntmps10
  go_wp2_with fail
  refine (HRD.out _ _ HN1.out).mono ?_
  generalize (w.alloc (.cells #[.bool (Big.ng q), .string (bst (Big.nu q)), .string (bst (Big.de q))] 23)).alloc (.cells #[.bool (Big.ng q), .string (bst (Big.nu q)), .string (bst (Big.de q))] 23) = wa at *
  rintro e w1 ⟨v1, rfl, ⟨g, a, b, rfl, hat, hnq⟩, hw1⟩
  have HB2 := Lib.hid (HB1.out.trans (hw1.mono HB1.out.size))
  obtain ⟨A, l, cc, B, m, dd, e1, -, -⟩ := hnq.is_agg
  simp only [Value.agg.injEq] at e1
  have e1a : a = .slice A l cc := by have := congrArg (fun z : Array Value => z[1]?) e1; simpa using this
  have e1b : b = .slice B m dd := by have := congrArg (fun z : Array Value => z[2]?) e1; simpa using this
  subst e1a e1b
  have HAT := Lib.hid hat; have HNQ := Lib.hid hnq
  clear e1 hat hnq hw1 HB1 HN1 HRD
  have c0 := HAT.out.cell 0 rfl; have c1 := HAT.out.cell 1 rfl; have c2 := HAT.out.cell 2 rfl
  have KX := Lib.hid (fun W (h : Below w1.heap.size w1 W) => And.intro ((HAT.out.keep h).cell 0 rfl) (And.intro ((HAT.out.keep h).cell 1 rfl) ((HAT.out.keep h).cell 2 rfl)))
  have CS := Lib.hid (fun W (h : Below w1.heap.size w1 W) => textB h (exSign_any W _ q (HNQ.out.keep h)))
  have CW := Lib.hid (fun W (h : Below w1.heap.size w1 W) => textB h (exIsWhole_any W _ q (HNQ.out.keep h)))
  have CN := Lib.hid (fun W (h : Below w1.heap.size w1 W) => lift2 h (exNum_any W _ q (HNQ.out.keep h)))
  rw [decide_eq_true Hhde.out] at CW
  have CD := Lib.hid (fun W v (h : NatIn W v (Big.nu q)) (hb : Below w1.heap.size w1 W) => textB hb (word_num W v _ h Hhw.out))
  have sgv : ¬ sgQ q < 0 := by unfold sgQ; rw [if_neg Hhng.out]; split <;> omega
  generalize sgQ q = sg at *
  have hbr := Below.refl w1.heap.size w1
  go_wp2_with (first
    | (go_at_call 19; refine (CW.out _ (by assumption)).mono ?_; rintro e w2 ⟨rfl, hw2⟩; have c0 := (KX.out _ hw2).1; have c1 := (KX.out _ hw2).2.1; have c2 := (KX.out _ hw2).2.2)
    | (go_at_call 16; refine (CN.out _ (by assumption)).mono ?_; rintro e w3 ⟨v3, rfl, hv3, hw3, -⟩; have c0 := (KX.out _ hw3).1; have c1 := (KX.out _ hw3).2.1; have c2 := (KX.out _ hw3).2.2)
    | (go_at_call 27; refine (CD.out _ _ hv3 (by assumption)).mono ?_; rintro e w4 ⟨rfl, hw4⟩; have c0 := (KX.out _ hw4).1; have c1 := (KX.out _ hw4).2.1; have c2 := (KX.out _ hw4).2.2)
    | (go_at_call 18; refine (CS.out _ (by assumption)).mono ?_; rintro e w5 ⟨rfl, hw5⟩; have c0 := (KX.out _ hw5).1; have c1 := (KX.out _ hw5).2.1; have c2 := (KX.out _ hw5).2.2)
    | fail)
  go_ret2
  refine ⟨by rfl, ?_⟩
  first
    | exact HB2.out.trans (hw5.mono HB2.out.size)
    | exact HB2.out.trans (hw4.mono HB2.out.size)
    | exact HB2.out.trans (hw3.mono HB2.out.size)
    | exact HB2.out.trans (hw2.mono HB2.out.size)
set_option maxRecDepth 100000 in
set_option maxHeartbeats 2000000 in
theorem int64_least (w : World) (q : Rat) (hq : Fit q) (hde : Big.de q = 1) (hw : Big.nu q < Big.M64) (hm : ¬ (Big.nu q : Int) ≤ 9223372036854775807) (he : ((Big.nu q : Int) == 9223372036854775808) = true) (hng : Big.ng q = true) :
    Calls Tryz.prog 10 #[.agg #[.bool (Big.ng q), .string (bst (Big.nu q)), .string (bst (Big.de q))]] w (Int2 w (-9223372036854775808, true)) := by
  have HS := Lib.hid hq.sm
  have Hhde := Lib.hid hde
  clear hde
  have Hhw := Lib.hid hw
  clear hw
  have Hhng := Lib.hid hng
  clear hng
  have Hhe := Lib.hid he
  clear he
  have HRD := Lib.hid (fun W g (h : AtL W g 23 #[.bool (Big.ng q), .string (bst (Big.nu q)), .string (bst (Big.de q))]) => read1_any W g q h hq)
  have HB1 := Lib.hid (below_alloc (box1_below w (.cells #[.bool (Big.ng q), .string (bst (Big.nu q)), .string (bst (Big.de q))] 23)) (Nat.le_refl _) (.cells #[.bool (Big.ng q), .string (bst (Big.nu q)), .string (bst (Big.de q))] 23))
  have HN1 := AtL.new (w.alloc (.cells #[.bool (Big.ng q), .string (bst (Big.nu q)), .string (bst (Big.de q))] 23)) 23 #[.bool (Big.ng q), .string (bst (Big.nu q)), .string (bst (Big.de q))]
  rw [alloc_size] at HN1
  have HN1 := Lib.hid HN1
  clear hq
  go_enter Tryz.func10, Tryz.ntmps10
  go_wp2_with fail
  refine (HRD.out _ _ HN1.out).mono ?_
  generalize (w.alloc (.cells #[.bool (Big.ng q), .string (bst (Big.nu q)), .string (bst (Big.de q))] 23)).alloc (.cells #[.bool (Big.ng q), .string (bst (Big.nu q)), .string (bst (Big.de q))] 23) = wa at *
  rintro e w1 ⟨v1, rfl, ⟨g, a, b, rfl, hat, hnq⟩, hw1⟩
  have HB2 := Lib.hid (HB1.out.trans (hw1.mono HB1.out.size))
  obtain ⟨A, l, cc, B, m, dd, e1, -, -⟩ := hnq.is_agg
  simp only [Value.agg.injEq] at e1
  have e1a : a = .slice A l cc := by have := congrArg (fun z : Array Value => z[1]?) e1; simpa using this
  have e1b : b = .slice B m dd := by have := congrArg (fun z : Array Value => z[2]?) e1; simpa using this
  subst e1a e1b
  have HAT := Lib.hid hat; have HNQ := Lib.hid hnq
  clear e1 hat hnq hw1 HB1 HN1 HRD
  have c0 := HAT.out.cell 0 rfl; have c1 := HAT.out.cell 1 rfl; have c2 := HAT.out.cell 2 rfl
  have KX := Lib.hid (fun W (h : Below w1.heap.size w1 W) => And.intro ((HAT.out.keep h).cell 0 rfl) (And.intro ((HAT.out.keep h).cell 1 rfl) ((HAT.out.keep h).cell 2 rfl)))
  have CS := Lib.hid (fun W (h : Below w1.heap.size w1 W) => textB h (exSign_any W _ q (HNQ.out.keep h)))
  have CW := Lib.hid (fun W (h : Below w1.heap.size w1 W) => textB h (exIsWhole_any W _ q (HNQ.out.keep h)))
  have CN := Lib.hid (fun W (h : Below w1.heap.size w1 W) => lift2 h (exNum_any W _ q (HNQ.out.keep h)))
  rw [decide_eq_true Hhde.out] at CW
  have CD := Lib.hid (fun W v (h : NatIn W v (Big.nu q)) (hb : Below w1.heap.size w1 W) => textB hb (word_num W v _ h Hhw.out))
  have sgv : sgQ q = -1 := by unfold sgQ; rw [if_pos Hhng.out]
  rw [sgv] at CS
  clear sgv
  have he := Hhe.out
  have hbr := Below.refl w1.heap.size w1
  go_wp2_with (first
    | (go_at_call 19; refine (CW.out _ (by assumption)).mono ?_; rintro e w2 ⟨rfl, hw2⟩; have c0 := (KX.out _ hw2).1; have c1 := (KX.out _ hw2).2.1; have c2 := (KX.out _ hw2).2.2)
    | (go_at_call 16; refine (CN.out _ (by assumption)).mono ?_; rintro e w3 ⟨v3, rfl, hv3, hw3, -⟩; have c0 := (KX.out _ hw3).1; have c1 := (KX.out _ hw3).2.1; have c2 := (KX.out _ hw3).2.2)
    | (go_at_call 27; refine (CD.out _ _ hv3 (by assumption)).mono ?_; rintro e w4 ⟨rfl, hw4⟩; have c0 := (KX.out _ hw4).1; have c1 := (KX.out _ hw4).2.1; have c2 := (KX.out _ hw4).2.2)
    | (go_at_call 18; refine (CS.out _ (by assumption)).mono ?_; rintro e w5 ⟨rfl, hw5⟩; have c0 := (KX.out _ hw5).1; have c1 := (KX.out _ hw5).2.1; have c2 := (KX.out _ hw5).2.2)
    | fail)
  go_ret2
  refine ⟨by rfl, ?_⟩
  first
    | exact HB2.out.trans (hw5.mono HB2.out.size)
    | exact HB2.out.trans (hw4.mono HB2.out.size)
    | exact HB2.out.trans (hw3.mono HB2.out.size)
    | exact HB2.out.trans (hw2.mono HB2.out.size)
set_option maxRecDepth 100000 in
set_option maxHeartbeats 2000000 in
theorem int64_over (w : World) (q : Rat) (hq : Fit q) (hde : Big.de q = 1) (hw : Big.nu q < Big.M64) (hm : ¬ (Big.nu q : Int) ≤ 9223372036854775807) (he : ((Big.nu q : Int) == 9223372036854775808) = true) (hng : ¬ Big.ng q = true) :
    Calls Tryz.prog 10 #[.agg #[.bool (Big.ng q), .string (bst (Big.nu q)), .string (bst (Big.de q))]] w (Int2 w (0, false)) := by
  have HS := Lib.hid hq.sm
  have Hhde := Lib.hid hde
  clear hde
  have Hhw := Lib.hid hw
  clear hw
  have Hhng := Lib.hid hng
  clear hng
  have Hhe := Lib.hid he
  clear he
  have HRD := Lib.hid (fun W g (h : AtL W g 23 #[.bool (Big.ng q), .string (bst (Big.nu q)), .string (bst (Big.de q))]) => read1_any W g q h hq)
  have HB1 := Lib.hid (below_alloc (box1_below w (.cells #[.bool (Big.ng q), .string (bst (Big.nu q)), .string (bst (Big.de q))] 23)) (Nat.le_refl _) (.cells #[.bool (Big.ng q), .string (bst (Big.nu q)), .string (bst (Big.de q))] 23))
  have HN1 := AtL.new (w.alloc (.cells #[.bool (Big.ng q), .string (bst (Big.nu q)), .string (bst (Big.de q))] 23)) 23 #[.bool (Big.ng q), .string (bst (Big.nu q)), .string (bst (Big.de q))]
  rw [alloc_size] at HN1
  have HN1 := Lib.hid HN1
  clear hq
  go_enter Tryz.func10, Tryz.ntmps10
  go_wp2_with fail
  refine (HRD.out _ _ HN1.out).mono ?_
  generalize (w.alloc (.cells #[.bool (Big.ng q), .string (bst (Big.nu q)), .string (bst (Big.de q))] 23)).alloc (.cells #[.bool (Big.ng q), .string (bst (Big.nu q)), .string (bst (Big.de q))] 23) = wa at *
  rintro e w1 ⟨v1, rfl, ⟨g, a, b, rfl, hat, hnq⟩, hw1⟩
  have HB2 := Lib.hid (HB1.out.trans (hw1.mono HB1.out.size))
  obtain ⟨A, l, cc, B, m, dd, e1, -, -⟩ := hnq.is_agg
  simp only [Value.agg.injEq] at e1
  have e1a : a = .slice A l cc := by have := congrArg (fun z : Array Value => z[1]?) e1; simpa using this
  have e1b : b = .slice B m dd := by have := congrArg (fun z : Array Value => z[2]?) e1; simpa using this
  subst e1a e1b
  have HAT := Lib.hid hat; have HNQ := Lib.hid hnq
  clear e1 hat hnq hw1 HB1 HN1 HRD
  have c0 := HAT.out.cell 0 rfl; have c1 := HAT.out.cell 1 rfl; have c2 := HAT.out.cell 2 rfl
  have KX := Lib.hid (fun W (h : Below w1.heap.size w1 W) => And.intro ((HAT.out.keep h).cell 0 rfl) (And.intro ((HAT.out.keep h).cell 1 rfl) ((HAT.out.keep h).cell 2 rfl)))
  have CS := Lib.hid (fun W (h : Below w1.heap.size w1 W) => textB h (exSign_any W _ q (HNQ.out.keep h)))
  have CW := Lib.hid (fun W (h : Below w1.heap.size w1 W) => textB h (exIsWhole_any W _ q (HNQ.out.keep h)))
  have CN := Lib.hid (fun W (h : Below w1.heap.size w1 W) => lift2 h (exNum_any W _ q (HNQ.out.keep h)))
  rw [decide_eq_true Hhde.out] at CW
  have CD := Lib.hid (fun W v (h : NatIn W v (Big.nu q)) (hb : Below w1.heap.size w1 W) => textB hb (word_num W v _ h Hhw.out))
  have sgv : ¬ sgQ q < 0 := by unfold sgQ; rw [if_neg Hhng.out]; split <;> omega
  generalize sgQ q = sg at *
  have he := Hhe.out
  have hbr := Below.refl w1.heap.size w1
  go_wp2_with (first
    | (go_at_call 19; refine (CW.out _ (by assumption)).mono ?_; rintro e w2 ⟨rfl, hw2⟩; have c0 := (KX.out _ hw2).1; have c1 := (KX.out _ hw2).2.1; have c2 := (KX.out _ hw2).2.2)
    | (go_at_call 16; refine (CN.out _ (by assumption)).mono ?_; rintro e w3 ⟨v3, rfl, hv3, hw3, -⟩; have c0 := (KX.out _ hw3).1; have c1 := (KX.out _ hw3).2.1; have c2 := (KX.out _ hw3).2.2)
    | (go_at_call 27; refine (CD.out _ _ hv3 (by assumption)).mono ?_; rintro e w4 ⟨rfl, hw4⟩; have c0 := (KX.out _ hw4).1; have c1 := (KX.out _ hw4).2.1; have c2 := (KX.out _ hw4).2.2)
    | (go_at_call 18; refine (CS.out _ (by assumption)).mono ?_; rintro e w5 ⟨rfl, hw5⟩; have c0 := (KX.out _ hw5).1; have c1 := (KX.out _ hw5).2.1; have c2 := (KX.out _ hw5).2.2)
    | fail)
  go_ret2
  refine ⟨by rfl, ?_⟩
  first
    | exact HB2.out.trans (hw5.mono HB2.out.size)
    | exact HB2.out.trans (hw4.mono HB2.out.size)
    | exact HB2.out.trans (hw3.mono HB2.out.size)
    | exact HB2.out.trans (hw2.mono HB2.out.size)
set_option maxRecDepth 100000 in
set_option maxHeartbeats 4000000 in
theorem Add1_any (b w : World) (vx vy : Value) (q r : Rat) (hx : NumIn w vx q) (hy : NumIn w vy r) (sx : Sm 64 q) (sy : Sm 64 r) (hbw : Below b.heap.size b w) :
    Calls Tryz.prog 25 #[vx, vy] w (NumE b w (q + r)) := by
  have C := Lib.hid (fun W a c (h : NumIn W a q) (i : NumIn W c r) => exAdd_any W a c q r 64 h i sx sy (by omega))
  have HQ := Lib.hid hx; have HR := Lib.hid hy; have HBW := Lib.hid hbw
  obtain ⟨A, l, c, A2, l2, c2, rfl, -, -⟩ := hx.is_agg
  obtain ⟨B, m, d, B2, m2, d2, rfl, -, -⟩ := hy.is_agg
  clear hx hy sx sy hbw
  obtain ⟨X0, Y0, R0, B0⟩ := boxed3 w 42 42 (.bool (Big.ng q)) (.slice A l c) (.slice A2 l2 c2) (.bool (Big.ng r)) (.slice B m d) (.slice B2 m2 d2) (.bool false) (.slice none 0 0) (.slice none 0 0)
  have HR0 := Lib.hid R0; have HB0 := Lib.hid B0
  have HXX := Lib.hid X0; have HYY := Lib.hid Y0
  clear X0 Y0 R0 B0
  go_enter Tryz.func25, Tryz.ntmps25
  go_wp2_with fail
  generalize ((w.alloc (.cells #[.bool (Big.ng q), .slice A l c, .slice A2 l2 c2] 42)).alloc (.cells #[.bool (Big.ng r), .slice B m d, .slice B2 m2 d2] 42)).alloc (.cells #[.bool false, .slice none 0 0, .slice none 0 0] 42) = w0 at *
  refine (C.out _ _ _ (HQ.out.keep HB0.out) (HR.out.keep HB0.out)).mono ?_
  rintro e w1 ⟨v1, rfl, hv1, hw1⟩
  have B1 := HB0.out.trans (hw1.mono HB0.out.size)
  have R1 := HR0.out.keep hw1
  obtain ⟨A8, l8, c8, A9, l9, c9, rfl, h8, h9⟩ := hv1.is_agg
  have HH := Lib.hid (And.intro h8 h9); have HB1 := Lib.hid B1
  have k0 := R1.c0; have k1 := R1.c1; have k2 := R1.c2; have f0 := R1.frozen 0; have f1 := R1.frozen 1; have f2 := R1.frozen 2
  obtain ⟨nz, hnz⟩ : ∃ z, Big.ng (q + r) = z := ⟨_, rfl⟩
  rw [hnz]
  have HNZ := Lib.hid hnz
  have RR := R1
  clear hv1 h8 h9 hw1 hnz B1 R1 C HQ HR HR0 HB0
  go_wp2_with fail
  obtain ⟨D1, D2, D3⟩ := num_done (bb := nz) (show NumRes w1 _ _ from RR) HB1.out (by omega) HH.out.1 HH.out.2 HNZ.out.symm
  have HD1 := Lib.hid D1; have HD2 := Lib.hid D2; have HD3 := Lib.hid D3
  clear D1 D2 D3 k0 k1 k2 f0 f1 f2 RR
  generalize (((w1.setCell ⟨w.heap.size + 1 + 1, 0, none⟩ (.bool (nz))).setCell ⟨w.heap.size + 1 + 1, 1, none⟩ (.slice A8 l8 c8)).setCell ⟨w.heap.size + 1 + 1, 2, none⟩ (.slice A9 l9 c9)) = wz at HD1 HD2 HD3 ⊢
  have r0 := HD1.out.c0; have r1 := HD1.out.c1; have r2 := HD1.out.c2
  exact bodyPost_ret (v := .tuple #[.agg #[.bool (nz), .slice A8 l8 c8, .slice A9 l9 c9], .int .i64 0]) (by simp [results, Tryz.results25, go_sem, r0, r1, r2]) rfl ⟨_, rfl, HD2.out, HBW.out.trans (HD3.out.mono HBW.out.size), HD3.out⟩
set_option maxRecDepth 100000 in
set_option maxHeartbeats 600000 in
theorem reckonAdd_fit (w : World) (q r z : Rat) (k : Nat) (hq : Fit q) (hr : Fit r) (hz : Fit z) (sz : Sm k z) (hk : k ≤ 10000000)
    (hF : ∀ b W v u, NumIn W v q → NumIn W u r → Below b.heap.size b W → Calls Tryz.prog 25 #[v, u] W (NumE b W z)) :
    Calls Tryz.prog 24 #[.func (.func 25) #[] #[], .agg #[.bool (Big.ng q), .string (bst (Big.nu q)), .string (bst (Big.de q))], .agg #[.bool (Big.ng r), .string (bst (Big.nu r)), .string (bst (Big.de r))]] w (Ret2 w (fracV z) 0) := by
  have HRD := Lib.hid (fun W g (h : AtL W g 23 #[.bool (Big.ng q), .string (bst (Big.nu q)), .string (bst (Big.de q)), .bool (Big.ng r), .string (bst (Big.nu r)), .string (bst (Big.de r))]) => read2_any W g q r h hq hr)
  have HF := Lib.hid hF
  have CA := Lib.hid (fun W v (h : NumIn W v z) => answer_fit W v z k h sz hk hz)
  obtain ⟨X0, Y0, R0, B0⟩ := boxed3 w 23 23 (.bool (Big.ng q)) (.string (bst (Big.nu q))) (.string (bst (Big.de q))) (.bool (Big.ng r)) (.string (bst (Big.nu r))) (.string (bst (Big.de r))) (.bool false) (.string ⟨#[]⟩) (.string ⟨#[]⟩)
  have HR0 := Lib.hid R0; have HB0 := Lib.hid B0
  have x0 := X0.c0; have x1 := X0.c1; have x2 := X0.c2
  have y0 := Y0.c0; have y1 := Y0.c1; have y2 := Y0.c2
  clear hF hz sz hq hr X0 Y0 R0 B0
  go_enter Tryz.func24, Tryz.ntmps24
  go_wp2_with fail
  have hs : (((w.alloc (.cells #[.bool (Big.ng q), .string (bst (Big.nu q)), .string (bst (Big.de q))] 23)).alloc (.cells #[.bool (Big.ng r), .string (bst (Big.nu r)), .string (bst (Big.de r))] 23)).alloc (.cells #[.bool false, .string ⟨#[]⟩, .string ⟨#[]⟩] 23)).heap.size = w.heap.size + 1 + 1 + 1 := by rw [alloc_size, alloc_size, alloc_size]
  generalize ((w.alloc (.cells #[.bool (Big.ng q), .string (bst (Big.nu q)), .string (bst (Big.de q))] 23)).alloc (.cells #[.bool (Big.ng r), .string (bst (Big.nu r)), .string (bst (Big.de r))] 23)).alloc (.cells #[.bool false, .string ⟨#[]⟩, .string ⟨#[]⟩] 23) = w0 at *
  have HN := AtL.new w0 23 #[.bool (Big.ng q), .string (bst (Big.nu q)), .string (bst (Big.de q)), .bool (Big.ng r), .string (bst (Big.nu r)), .string (bst (Big.de r))]
  rw [hs] at HN
  have HN := Lib.hid HN
  clear hs
  have HB1 := Lib.hid (below_alloc HB0.out (Nat.le_refl _) (.cells #[.bool (Big.ng q), .string (bst (Big.nu q)), .string (bst (Big.de q)), .bool (Big.ng r), .string (bst (Big.nu r)), .string (bst (Big.de r))] 23))
  have HR1 := Lib.hid (HR0.out.alloc' (.cells #[.bool (Big.ng q), .string (bst (Big.nu q)), .string (bst (Big.de q)), .bool (Big.ng r), .string (bst (Big.nu r)), .string (bst (Big.de r))] 23))
  refine (HRD.out _ _ HN.out).mono ?_
  generalize w0.alloc (.cells #[.bool (Big.ng q), .string (bst (Big.nu q)), .string (bst (Big.de q)), .bool (Big.ng r), .string (bst (Big.nu r)), .string (bst (Big.de r))] 23) = wa at *
  rintro e w1 ⟨v1, rfl, ⟨g, a, b, c, d, rfl, hat, hnq, hnr⟩, hw1⟩
  have HB2 := Lib.hid (HB1.out.trans (hw1.mono HB1.out.size))
  have HR2 := Lib.hid (HR1.out.keep hw1)
  obtain ⟨A, l, cc, B, m, dd, e1, -, -⟩ := hnq.is_agg
  obtain ⟨A2, l2, cc2, B2, m2, dd2, e2, -, -⟩ := hnr.is_agg
  simp only [Value.agg.injEq] at e1 e2
  have e1a : a = .slice A l cc := by have := congrArg (fun z : Array Value => z[1]?) e1; simpa using this
  have e1b : b = .slice B m dd := by have := congrArg (fun z : Array Value => z[2]?) e1; simpa using this
  have e2a : c = .slice A2 l2 cc2 := by have := congrArg (fun z : Array Value => z[1]?) e2; simpa using this
  have e2b : d = .slice B2 m2 dd2 := by have := congrArg (fun z : Array Value => z[2]?) e2; simpa using this
  subst e1a e1b e2a e2b
  have KX := Lib.hid (fun W (h : Below w1.heap.size w1 W) => And.intro ((hat.keep h).cell 0 rfl) (And.intro ((hat.keep h).cell 1 rfl) (And.intro ((hat.keep h).cell 2 rfl) (And.intro ((hat.keep h).cell 3 rfl) (And.intro ((hat.keep h).cell 4 rfl) ((hat.keep h).cell 5 rfl))))))
  have hgl := hat.lt
  have KQ := Lib.hid (fun W x y z' (h : Below w1.heap.size w1 W) (_ : g < w1.heap.size) => And.intro (put_cell (g := w1.heap.size) (KX.out W h).1 (by omega) x y z') (And.intro (put_cell (g := w1.heap.size) (KX.out W h).2.1 (by omega) x y z') (And.intro (put_cell (g := w1.heap.size) (KX.out W h).2.2.1 (by omega) x y z') (And.intro (put_cell (g := w1.heap.size) (KX.out W h).2.2.2.1 (by omega) x y z') (And.intro (put_cell (g := w1.heap.size) (KX.out W h).2.2.2.2.1 (by omega) x y z') (put_cell (g := w1.heap.size) (KX.out W h).2.2.2.2.2 (by omega) x y z'))))))
  have CF := Lib.hid (fun W (h : Below w1.heap.size w1 W) => HF.out w1 W _ _ (hnq.keep h) (hnr.keep h) h)
  clear e1 e2 hat hnq hnr hw1 HB1 HR1 HN HRD x0 x1 x2 y0 y1 y2
  go_wp2_with fail
  go_region_held3 (fun w' => w'.cell? ⟨g, 0, none⟩ = some (.bool (Big.ng q)) ∧ w'.cell? ⟨g, 1, none⟩ = some (.slice A l cc) ∧ w'.cell? ⟨g, 2, none⟩ = some (.slice B m dd) ∧ w'.cell? ⟨g, 3, none⟩ = some (.bool (Big.ng r)) ∧ w'.cell? ⟨g, 4, none⟩ = some (.slice A2 l2 cc2) ∧ w'.cell? ⟨g, 5, none⟩ = some (.slice B2 m2 dd2))
    (first | exact KX.out _ (by first | assumption | exact Below.refl _ _ | exact below_drew (Below.refl _ _) | exact below_drew (by assumption) | exact below_drew (below_alloc (Below.refl _ _) (Nat.le_refl _) _) | exact below_alloc (by assumption) (Nat.le_refl _) _ | exact below_alloc (Below.refl _ _) (Nat.le_refl _) _) | exact KX.out _ (below_alloc (by first | assumption | exact Below.refl _ _ | exact below_drew (Below.refl _ _) | exact below_drew (by assumption)) (Nat.le_refl _) _) | exact KQ.out _ _ _ _ (by assumption) hgl)
    (first
      | (go_at_call 25; (with_reducible refine (CF.out _ (by first | assumption | exact Below.refl _ _ | exact below_drew (Below.refl _ _) | exact below_drew (by assumption) | exact below_drew (below_alloc (Below.refl _ _) (Nat.le_refl _) _) | exact below_alloc (by assumption) (Nat.le_refl _) _ | exact below_alloc (Below.refl _ _) (Nat.le_refl _) _)).mono ?_); rintro e w3 ⟨v3, rfl, hv3, hw3, hw3'⟩; obtain ⟨A3, l3, c3, B3, m3, d3, rfl, hq3, hr3⟩ := hv3.is_agg; have hlt3 := hw3.size; try (have R3 := At3.keep (show At3 ((w1.alloc (.cells #[.bool false, .slice none 0 0, .slice none 0 0] 42)).drew) w1.heap.size 42 (.bool false) (.slice none 0 0) (.slice none 0 0) from At3.new w1 _ _ _ _) hw3'; have k0 := R3.c0; have k1 := R3.c1; have k2 := R3.c2; have f0 := R3.frozen 0; have f1 := R3.frozen 1; have f2 := R3.frozen 2))
      | fail)
  all_goals
    have HB3 := HB2.out.trans (hw3.mono HB2.out.size)
    have RW3 := HR2.out.keep hw3
    have hne : w.heap.size + 1 + 1 ≠ w1.heap.size := by have := HR2.out.lt; omega
    have hge : w.heap.size ≤ w1.heap.size := by have := HR2.out.lt; omega
    have HFR := Lib.hid (And.intro HB3 (And.intro RW3 (And.intro hne hge)))
    clear HB3 RW3 hne hge
    go_wp2_with fail
    refine (CA.out _ _ ?_).mono ?_
    · first
        | exact hv3.keep (box1_below _ _)
        | exact hv3.only (NumRes.no_int (show NumRes w3 _ _ from R3)) (put_only _ _ _ _ _)
    rintro e w4 ⟨rfl, hw4⟩
    have R4 : At3 w4 (w.heap.size + 1 + 1) 23 (.bool false) (.string ⟨#[]⟩) (.string ⟨#[]⟩) := by
      first
        | exact (HFR.out.2.1.alloc' _).keep hw4
        | exact (((HFR.out.2.1.far HFR.out.2.2.1 _).far HFR.out.2.2.1 _).far HFR.out.2.2.1 _).keep hw4
    have B4 : Below w.heap.size w w4 := by
      first
        | exact (below_alloc HFR.out.1 (Nat.le_refl _) _).trans (hw4.mono (below_alloc HFR.out.1 (Nat.le_refl _) _).size)
        | exact (put_below HFR.out.1 HFR.out.2.2.2 _ _ _).trans (hw4.mono (put_below HFR.out.1 HFR.out.2.2.2 _ _ _).size)
    unfold fracV
    clear hw4 HFR hv3 hw3 hw3' hq3 hr3 hlt3
    try clear R3 k0 k1 k2 f0 f1 f2
    have HD := Lib.hid (At3.put R4 (.bool (Big.ng z)) (.string (bst (Big.nu z))) (.string (bst (Big.de z))))
    have HE := Lib.hid (put_below B4 (show w.heap.size ≤ w.heap.size + 1 + 1 by omega) (.bool (Big.ng z)) (.string (bst (Big.nu z))) (.string (bst (Big.de z))))
    have k0 := R4.c0; have k1 := R4.c1; have k2 := R4.c2; have f0 := R4.frozen 0; have f1 := R4.frozen 1; have f2 := R4.frozen 2
    clear R4 B4
    go_wp2_with fail
    generalize (((w4.setCell ⟨w.heap.size + 1 + 1, 0, none⟩ (.bool (Big.ng z))).setCell ⟨w.heap.size + 1 + 1, 1, none⟩ (.string (bst (Big.nu z)))).setCell ⟨w.heap.size + 1 + 1, 2, none⟩ (.string (bst (Big.de z)))) = wz at HD HE ⊢
    clear k0 k1 k2 f0 f1 f2
    have r0 := HD.out.c0; have r1 := HD.out.c1; have r2 := HD.out.c2
    exact bodyPost_ret (v := .tuple #[.agg #[.bool (Big.ng z), .string (bst (Big.nu z)), .string (bst (Big.de z))], .int .i64 0]) (by simp [results, Tryz.results24, go_sem, r0, r1, r2]) rfl ⟨rfl, HE.out⟩
set_option maxRecDepth 100000 in
set_option maxHeartbeats 4000000 in
theorem raAdd_fit (w : World) (q r : Rat) (hq : Fit q) (hr : Fit r) (hz : Fit (q + r)) :
    Calls Tryz.prog 9 #[.agg #[.bool (Big.ng q), .string (bst (Big.nu q)), .string (bst (Big.de q))], .agg #[.bool (Big.ng r), .string (bst (Big.nu r)), .string (bst (Big.de r))]] w (Ret2 w (fracV (q + r)) 0) := by
  have sz : Sm (2 * 64 + 2 * 64 + 1) (q + r) := (hq.sm.add hr.sm)
  have C := Lib.hid (fun W => reckonAdd_fit W q r (q + r) _ hq hr hz sz (by omega) (fun b W' v u h i hb => Add1_any b W' v u q r h i hq.sm hr.sm hb))
  obtain ⟨X0, Y0, R0, B0⟩ := boxed3 w 23 23 (.bool (Big.ng q)) (.string (bst (Big.nu q))) (.string (bst (Big.de q))) (.bool (Big.ng r)) (.string (bst (Big.nu r))) (.string (bst (Big.de r))) (.bool false) (.string ⟨#[]⟩) (.string ⟨#[]⟩)
  have HR0 := Lib.hid R0; have HB0 := Lib.hid B0
  clear X0 Y0 R0 B0 hq hr hz sz
  obtain ⟨Z, hZ⟩ : ∃ Z, q + r = Z := ⟨_, rfl⟩
  rw [hZ] at C ⊢
  clear hZ
  go_enter Tryz.func9, Tryz.ntmps9
  go_wp2_with fail
  refine (C.out _).mono ?_
  generalize ((w.alloc (.cells #[.bool (Big.ng q), .string (bst (Big.nu q)), .string (bst (Big.de q))] 23)).alloc (.cells #[.bool (Big.ng r), .string (bst (Big.nu r)), .string (bst (Big.de r))] 23)).alloc (.cells #[.bool false, .string ⟨#[]⟩, .string ⟨#[]⟩] 23) = w0 at *
  rintro e w4 ⟨rfl, hw4⟩
  unfold fracV
  have R4 := HR0.out.keep hw4
  have HD := Lib.hid (At3.put R4 (.bool (Big.ng Z)) (.string (bst (Big.nu Z))) (.string (bst (Big.de Z))))
  have HE := Lib.hid (put_below (HB0.out.trans (hw4.mono HB0.out.size)) (show w.heap.size ≤ w.heap.size + 1 + 1 by omega) (.bool (Big.ng Z)) (.string (bst (Big.nu Z))) (.string (bst (Big.de Z))))
  have k0 := R4.c0; have k1 := R4.c1; have k2 := R4.c2; have f0 := R4.frozen 0; have f1 := R4.frozen 1; have f2 := R4.frozen 2
  clear R4 hw4 HR0 HB0 C
  go_wp2_with fail
  generalize (((w4.setCell ⟨w.heap.size + 1 + 1, 0, none⟩ (.bool (Big.ng Z))).setCell ⟨w.heap.size + 1 + 1, 1, none⟩ (.string (bst (Big.nu Z)))).setCell ⟨w.heap.size + 1 + 1, 2, none⟩ (.string (bst (Big.de Z)))) = wz at HD HE ⊢
  clear k0 k1 k2 f0 f1 f2
  have r0 := HD.out.c0; have r1 := HD.out.c1; have r2 := HD.out.c2
  exact bodyPost_ret (v := .tuple #[.agg #[.bool (Big.ng Z), .string (bst (Big.nu Z)), .string (bst (Big.de Z))], .int .i64 0]) (by simp [results, Tryz.results9, go_sem, r0, r1, r2]) rfl ⟨rfl, HE.out⟩
set_option maxRecDepth 100000 in
set_option maxHeartbeats 4000000 in
theorem lworks_any (w : World) (htab : Tab w) :
    Calls Tryz.prog 11 #[] w fun e w' => e = .returned (.bool true) ∧ Below w.heap.size w w' := by
  have q1 : ofQ 1 2 + ofQ 1 3 = ofQ 5 6 := by decide +kernel
  have tx : txQ (ofQ 5 6) = [53, 47, 54] := by
    unfold txQ
    have e1 : Big.ng (ofQ 5 6) = false := by decide +kernel
    have e2 : Big.nu (ofQ 5 6) = 5 := by decide +kernel
    have e3 : Big.de (ofQ 5 6) = 6 := by decide +kernel
    rw [e1, e2, e3, if_neg (by simp), if_neg (by omega), Lib.decDigits_one (by omega), Lib.decDigits_one (by omega)]
    rfl
  have f1 : Fit (ofQ 1 2) := (ofQ_by (k := 1) (by omega) (by omega) (by omega)).fit (by omega)
  have f2 : Fit (ofQ 1 3) := (ofQ_by (k := 1) (by omega) (by omega) (by omega)).fit (by omega)
  have f3 : Fit (ofQ 5 6) := (ofQ_by (k := 1) (by omega) (by omega) (by omega)).fit (by omega)
  have C1 := Lib.hid (fun W => raOf_any W 1 2 (by omega) (by omega) (by omega) (by omega) (by omega))
  have C2 := Lib.hid (fun W => raOf_any W 1 3 (by omega) (by omega) (by omega) (by omega) (by omega))
  have C3 := Lib.hid (fun W => raAdd_fit W _ _ f1 f2 (by rw [q1]; exact f3))
  have C4 := Lib.hid (fun W h => raText_any W _ f3 h)
  rw [q1] at C3
  rw [tx] at C4
  have HT := Lib.hid htab
  clear q1 tx f1 f2 f3 htab
  obtain ⟨x, hx⟩ : ∃ z, ofQ 1 2 = z := ⟨_, rfl⟩
  obtain ⟨y, hy⟩ : ∃ z, ofQ 1 3 = z := ⟨_, rfl⟩
  obtain ⟨z, hz⟩ : ∃ z, ofQ 5 6 = z := ⟨_, rfl⟩
  rw [hx] at C1 C3; rw [hy] at C2 C3; rw [hz] at C3 C4
  clear hx hy hz
  go_enter Tryz.func11, Tryz.ntmps11
  go_wp2_with fail
  refine (C1.out _).mono ?_
  rintro e w1 ⟨rfl, hw1⟩
  unfold fracV
  go_wp2_with fail
  have HA1 := Lib.hid (At3.new w1 23 (.bool (Big.ng x)) (.string (bst (Big.nu x))) (.string (bst (Big.de x)))); have HB1 := Lib.hid (below_alloc hw1 (Nat.le_refl _) (.cells #[.bool (Big.ng x), .string (bst (Big.nu x)), .string (bst (Big.de x))] 23))
  refine (C2.out _).mono ?_
  generalize w1.alloc (.cells #[.bool (Big.ng x), .string (bst (Big.nu x)), .string (bst (Big.de x))] 23) = wa at *
  rintro e w2 ⟨rfl, hw2⟩
  unfold fracV
  have HA2 := Lib.hid (HA1.out.keep hw2)
  have HB2 := Lib.hid (HB1.out.trans (hw2.mono HB1.out.size))
  clear hw1 hw2 HA1 HB1
  have x0 := (HA2.out.alloc' (.cells #[.bool (Big.ng y), .string (bst (Big.nu y)), .string (bst (Big.de y))] 23)).c0; have x1 := (HA2.out.alloc' (.cells #[.bool (Big.ng y), .string (bst (Big.nu y)), .string (bst (Big.de y))] 23)).c1; have x2 := (HA2.out.alloc' (.cells #[.bool (Big.ng y), .string (bst (Big.nu y)), .string (bst (Big.de y))] 23)).c2
  have HB3 := Lib.hid (below_alloc HB2.out (Nat.le_refl _) (.cells #[.bool (Big.ng y), .string (bst (Big.nu y)), .string (bst (Big.de y))] 23))
  go_wp2_with fail
  refine (C3.out _).mono ?_
  generalize w2.alloc (.cells #[.bool (Big.ng y), .string (bst (Big.nu y)), .string (bst (Big.de y))] 23) = wb at *
  rintro e w3 ⟨rfl, hw3⟩
  unfold fracV
  have HB4 := Lib.hid (HB3.out.trans (hw3.mono HB3.out.size))
  clear x0 x1 x2 hw3 HA2 HB2 HB3
  have HB5 := Lib.hid (below_alloc HB4.out (Nat.le_refl _) (.cells #[.bool (Big.ng z), .string (bst (Big.nu z)), .string (bst (Big.de z))] 23))
  go_wp2_with fail
  refine (C4.out _ (HT.out.keep HB5.out)).mono ?_
  generalize w3.alloc (.cells #[.bool (Big.ng z), .string (bst (Big.nu z)), .string (bst (Big.de z))] 23) = wc at *
  rintro e w4 ⟨rfl, hw4⟩
  have HB6 := Lib.hid (HB5.out.trans (hw4.mono HB5.out.size))
  clear hw4
  go_wp2_with fail
  go_ret
  exact ⟨rfl, HB6.out⟩
end Go.Proofs.YtfenjkgbedbleaaGreatDoor
