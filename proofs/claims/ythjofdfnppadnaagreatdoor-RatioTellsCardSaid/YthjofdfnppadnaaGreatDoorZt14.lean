/- Contracts, in this order: nat: Text. · The interpreter with natural numbers that are not looked int · The interpreter: package nat's functions, of what is known. · The interpreter: package nat's texts, and what it answers in · The interpreter: from a run to what the program does. · The interpreter: calls of plain values whose answers are kno · YthjofdfnppadnaaGreatDoorRl -/
import Derived.Test.YthjofdfnppadnaaGreatDoorZt13
import Derived.Test.YthjofdfnppadnaaGreatDoorZt05
import Derived.Test.YthjofdfnppadnaaGreatDoorZt12
import Derived.Test.YthjofdfnppadnaaGreatDoorZt10
namespace Go.Proofs.YthjofdfnppadnaaGreatDoor
open Go.RowKit
def Grs (w : World) (B : Nat) (v : Value) (gs : List Nat) : Prop := w.ownsRow B 87 1 v gs.length (cellsOf .u64 gs).toList
structure GI (n : Nat) (gs : List Nat) (R : Nat) : Prop where
  ok : Big.Ok Big.G19 gs
  eq : Big.val Big.G19 gs + Big.G19 ^ gs.length * R = n
  top : R = 0 → ∃ r t, gs = r ++ [t] ∧ 1 ≤ t
theorem Tryz.infoU64' : (Tryz.prog.info? 87).map (fun i => (i.zero, i.size, i.bytes)) = some (some (.int .u64 0), 1, 8) := by kernel_rfl
def QW (W : World) (g k : Nat) (L : List Nat) (e : Ending) (w' : World) : Prop := ∃ (r : Nat) (zs : List Nat), e = .returned (.int .u64 (r : Int)) ∧ r < Big.G19 ∧ zs.length = k ∧ Big.Ok Big.M64 zs ∧ Big.val Big.M64 (L.take k) = Big.val Big.M64 zs * Big.G19 + r ∧
  Blk w' g 87 .u64 (zs ++ L.drop k) ∧ Only g W w'
set_option maxHeartbeats 1000000 in
set_option maxRecDepth 100000 in
theorem text_any (w : World) (v : Value) (n K : Nat) (h : NatIn w v n) (hn : Sz K n) (hK : K ≤ 100000000) (htab : Tab w) :
    Calls Tryz.prog 53 #[v] w fun e w' => e = .returned (.string ⟨(Lib.decDigits n).toArray⟩) ∧ Below w.heap.size w w' := by
  obtain ⟨l, hx, ol, nl, rfl⟩ := h
  have hl := len_of_lt nl hn.out
  by_cases h0 : l = []
  · subst h0
    obtain ⟨A, c, rfl, -, -, -⟩ := hx
    have e : Big.val Big.M64 [] = 0 := rfl
    rw [e]
    have HD := Lib.hid (show (⟨(Lib.decDigits 0).toArray⟩ : ByteArray) = ⟨#[48]⟩ by rw [Lib.decDigits_one (by omega)]; rfl)
    clear hn htab ol nl hl e
    go_enter Tryz.func53, Tryz.ntmps53
    go_wp2_with fail
    go_ret
    exact ⟨by rw [HD.out]; rfl, Below.refl _ _⟩
  have hne : Big.val Big.M64 l ≠ 0 := fun e => h0 (Big.norm_zero Big.M64_pos l nl e)
  have HX := Lib.hid hx; have OL := Lib.hid (And.intro ol nl); have HT := Lib.hid htab; have HS := Lib.hid hn
  have t0 : ((l.length : Int) == 0) = false := beq_eq_false_iff_ne.2 (by have := List.length_pos_iff.2 h0; omega)
  obtain ⟨A, c, rfl, -, -, -⟩ := hx
  obtain ⟨i0, hi, hz0, hz1, hz2⟩ := info_parts Tryz.infoU64'
  obtain ⟨N, hN⟩ : ∃ N, Big.val Big.M64 l = N := ⟨_, rfl⟩
  rw [hN] at hne HS ⊢
  have HN := Lib.hid hN
  clear ol nl htab hn hN h0
  go_enter Tryz.func53, Tryz.ntmps53
  go_wp2_with fail
  refine (clone_any w _ l HX.out (by omega)).mono ?_
  rintro e w1 ⟨rfl, hk1, hk2⟩
  have HP := Lib.hid (own_clone hk1 OL.out.1 OL.out.2 (by omega))
  rw [HN.out] at HP
  have HB := Lib.hid hk2
  have HG := Lib.hid hk1.lt
  clear hk1 hk2
  have hw1 : w.heap.size ≤ w1.heap.size := HB.out.size
  go_wp2_with fail
  have CW := Lib.hid (fun W L k c' (hb : Blk W w.heap.size 87 .u64 L) (a1 : k ≤ L.length) (a2 : k ≤ c') (a3 : Big.Ok Big.M64 L) (a4 : k ≤ 1000000000000) =>
    show Calls Tryz.prog 123 #[.slice (some ⟨w.heap.size, 0, none⟩) k c', .int .u64 10000000000000000000] W (QW W w.heap.size k L) from quoWord_any W w.heap.size k c' Big.G19 L hb a1 a2 a3 Big.G19_pos (by unfold Big.G19 Big.M64; omega) a4)
  go_loopw [3, 4] (fun gv rv wr => ∃ (gs : List Nat) (R : Nat), Hid (OwnNat wr rv w.heap.size (l.length + 1) R) ∧ Hid (Grs wr (w.heap.size + 1) gv gs) ∧ Hid (GI N gs R) ∧ Hid (Below w.heap.size w wr)) (fun _ rv wr => numAt wr rv)
  case atStart => exact ⟨[], N, HP, Lib.hid (World.ownsRow_nil _ _ _ _), Lib.hid ⟨Big.Ok.nil, by simp [Big.val], fun e => absurd e hne⟩, HB⟩
  case round =>
    obtain ⟨gs, R, HO, HGr, HI, HBr⟩ := hrel
    obtain ⟨k, X, rfl, hb, hk, hcX, hcl, oX, nX, lX, hv⟩ := HO.out.len
    have HX1 := Lib.hid (And.intro hb (And.intro oX (And.intro nX (And.intro lX hv)))); have HX2 := Lib.hid (And.intro hk (And.intro hcX hcl))
    have hkR : k = 0 ↔ R = 0 := by
      rw [← hv]
      constructor
      · intro e; subst e; rfl
      · intro e; have := Big.norm_zero Big.M64_pos _ nX e; rw [this] at lX; simpa using lX.symm
    have hnum := numAt_own HO.out
    have HNUM := Lib.hid hnum
    have hgl := hb.lt
    clear hb oX nX lX hv hcX hcl hnum
    rcases Nat.eq_zero_or_pos k with hk0 | hk0
    · have hR0 := hkR.1 hk0
      subst hk0 hR0
      obtain ⟨r, t, hgs, ht1⟩ := HI.out.top rfl
      have hval : Big.val Big.G19 gs = N := by have := HI.out.eq; rw [Nat.mul_zero, Nat.add_zero] at this; exact this
      obtain ⟨m, hm⟩ : ∃ m, r.length = m := ⟨_, rfl⟩
      have hlenM : gs.length = m + 1 := by rw [hgs]; simp [hm]
      have hmb : m ≤ 2 * K := by
        rcases Nat.eq_zero_or_pos m with e | e
        · omega
        · have h1 := Big.groups_few (gs := r) (R := t) (n := N) (K := K) (by rw [← hval, hgs, Big.val_snoc]) ht1 HS.out.out
          omega
      have hG := HGr.out
      rcases hG.2 with ⟨_, e⟩ | ⟨gb, cap, cur, hu3, hgb, hblk, -⟩
      · omega
      subst hu3
      have hcell : ∀ j, j < m + 1 → wr.cell? ⟨gb, j, none⟩ = some (.int .u64 ((Big.nth gs j : Nat) : Int)) := fun j hj => by
        rw [World.ownsRow.cellAt hG j (by omega), ← cellsOf_get .u64 gs j (by omega)]; simp
      have hgbl : gb < wr.heap.size := (Array.getElem?_eq_some_iff.1 hblk).1
      have hnth : Big.nth gs m = t := by rw [hgs]; unfold Big.nth; rw [List.getD_eq_getElem?_getD, List.getElem?_append_right (by omega), hm]; simp
      have c0 := hcell m (by omega)
      rw [hnth] at c0
      have htG : t < Big.G19 := by rw [← hnth]; exact HI.out.ok.nth Big.G19_pos m
      have HCELL := Lib.hid hcell
      have HGS := Lib.hid (And.intro hgs (And.intro hm (And.intro hlenM (And.intro hval HI.out.ok))))
      have HTG := Lib.hid (And.intro ht1 htG)
      have hdrop : Big.val Big.G19 (gs.drop m) = t := by rw [hgs, List.drop_append_of_le_length (by omega), ← hm, List.drop_length]; simp [Big.val]
      have HDR := Lib.hid hdrop
      have CA := Lib.hid (fun hB => appendUint_any wr.heap.size 0 t (by unfold Big.G19 at htG; omega) (.slice none 0 0) [] wr (World.ownsRow_nil _ _ _ _) hB (by omega) (HT.out.keep HBr.out))
      have hle20 : (Lib.decDigits t).length ≤ 20 := by
        rw [Lib.decDigits_length]
        have := Lib.numDigits_eq t ht1 (by unfold Big.G19 at htG; omega); split at this <;> omega
      have HLE := Lib.hid hle20
      obtain ⟨M, hM⟩ : ∃ M, gs.length = M := ⟨_, rfl⟩
      rw [hM] at hlenM ⊢
      have i1 : (M : Int) - 1 = (m : Int) := by omega
      have i2 : (m : Int) < (M : Int) := by omega
      have i3 : M ≤ 1000000001 := by omega
      clear hgs hval hm hG hblk hcell hnth htG hdrop hle20 hM hlenM HO HNUM HX1 HX2 HGr HI hkR ht1
      go_wp2_with fail
      refine (CA.out (Nat.le_refl _)).mono ?_
      rintro e w5 ⟨v5, rfl, hv5, hw5⟩
      have HV5 := Lib.hid (show Row w5 wr.heap.size v5 (0 + (Lib.decDigits t).length) (Lib.decDigits t) from hv5)
      have HW5 := Lib.hid hw5
      clear hv5 hw5 CA c0
      go_wp2_with fail
      go_loopw [6, 7] (fun s i wq => ∃ (j nb : Nat), j ≤ m ∧ i = .int .i64 ((j : Int) - 1) ∧ nb ≤ 20 * (m + 1 - j) ∧ Hid (Row wq wr.heap.size s nb (Lib.decDigits (Big.val Big.G19 (gs.drop j)))) ∧ Hid (Below wr.heap.size wr wq)) (fun _ i _ => (intOf i + 1).toNat)
      case atStart => exact ⟨m, 0 + (Lib.decDigits t).length, Nat.le_refl _, rfl, by have := HLE.out; omega, Lib.hid (by rw [HDR.out]; exact HV5.out), HW5⟩
      case round =>
        obtain ⟨j, nb, hj, rfl, hnb, HR, HBq⟩ := hrel
        rename World => wq
        rcases Nat.eq_zero_or_pos j with hj0 | hj0
        · subst hj0
          have hR := HR.out
          rw [List.drop_zero, HGS.out.2.2.2.1] at hR
          have hlen := hR.1
          rw [Nat.mul_one, Lib.byteCells_length] at hlen
          rcases hR.2 with ⟨_, e⟩ | ⟨gs', cap', cur', hu6, hgb', hblk', -⟩
          · exfalso
            rw [← hlen] at e
            exact Big.dec_ne N (List.length_eq_zero_iff.1 e)
          subst hu6
          have hcv := run_convert_bytes_back (P := Tryz.prog) wq 140 9 5 ⟨gs', 0, none⟩ cap' (Lib.decDigits N) Tryz.underlying140 Tryz.underlying5 Tryz.underlying9 (fun i hi => by
            rw [Lib.add_plain, Nat.zero_add, World.ownsRow.cellAt hR i (by omega)]
            simp [Lib.byteCells, hi])
          rw [hlen] at hcv
          have HEND := Lib.hid (HBr.out.trans (HBq.out.mono HBr.out.size))
          clear hR hlen hblk'
          go_wp2_with fail
          go_ret
          exact ⟨rfl, HEND.out⟩
        · obtain ⟨j', rfl⟩ : ∃ j', j = j' + 1 := ⟨j - 1, by omega⟩
          have e1 : (((j' + 1 : Nat) : Int) - 1) = (j' : Int) := by omega
          rw [e1]
          have hjm : (j' : Int) < (M : Int) := by omega
          have hj0' : (0 : Int) ≤ (j' : Int) := by omega
          have c0 := (HBq.out.cell (p := ⟨gb, j', none⟩) hgbl).trans (HCELL.out j' (by omega))
          have hposd : 1 ≤ Big.val Big.G19 (gs.drop (j' + 1)) := by
            rw [HGS.out.1]
            exact Big.val_drop_pos HTG.out.1 (by have := HGS.out.2.1; simp; omega)
          have HDG := Lib.hid (Big.dec_groups HGS.out.2.2.2.2 (show j' < gs.length by have := HGS.out.2.2.1; omega) hposd)
          have hgG := HGS.out.2.2.2.2.nth Big.G19_pos j'
          obtain ⟨x, hx⟩ : ∃ x, Big.nth gs j' = x := ⟨_, rfl⟩
          rw [hx] at c0 HDG hgG
          have CG := Lib.hid (appendGroup_any wr.heap.size nb x hgG u6 _ wq HR.out HBq.out.size (by omega) (HT.out.keep (HBr.out.trans (HBq.out.mono HBr.out.size))))
          clear hposd hgG hx e1
          go_wp2_with fail
          refine CG.out.mono ?_
          rintro e w7 ⟨v7, rfl, hv7, hw7⟩
          have HV7 := Lib.hid hv7; have HB7 := Lib.hid (HBq.out.trans hw7)
          clear hv7 hw7
          go_wp2_with fail
          go_roundw
          case rel => exact ⟨j', nb + 19, by omega, rfl, by omega, Lib.hid (by rw [HDG.out]; exact HV7.out), HB7⟩
          case measure => first | (simp [intOf]; done) | (simp [intOf]; omega)
    · have hkI : (k : Int) > 0 := by omega
      have hR1 : 1 ≤ R := by
        rcases Nat.eq_zero_or_pos R with e | e
        · exact absurd (hkR.2 e) (by omega)
        · exact e
      go_wp2_with fail
      refine (CW.out _ X k _ HX1.out.1 (by have := HX2.out; omega) HX2.out.1 HX1.out.2.1 (by have := HX2.out; omega)).mono ?_
      rintro e w2 ⟨r, zs, rfl, hrl, hzl, hzo, hzv, hzb, hzw⟩
      have HZ := Lib.hid (And.intro hzl (And.intro hzo (And.intro hzv hrl)))
      have HZB := Lib.hid hzb
      have HGr2 := Lib.hid (show Grs w2 (w.heap.size + 1) u3 gs from World.ownsRow.kept HGr.out hzw (by
        rcases hv : u3.ownBlock with _ | kk
        · exact Or.inl rfl
        · exact Or.inr (by have := (HGr.out.lt kk hv).1; intro e; injection e with e; omega)))
      have HBr2 := Lib.hid (hzw.below HBr.out (Nat.le_refl _) HBr.out.size)
      have hgl2 := hzb.lt
      clear hzl hzo hzv hzb hzw hrl
      have hlenb : gs.length < 2 * K := by have hi := HI.out.eq; exact Big.groups_few hi hR1 (by rw [← HN.out] at HS; have h1 := HS.out.out; rw [HN.out] at h1; exact h1)
      have HO3 := Lib.hid (HGr2.out.alloc (.cells #[.int .u64 (r : Int)] 87))
      have HBr3 := Lib.hid (below_alloc HBr2.out (Nat.le_refl _) (.cells #[.int .u64 (r : Int)] 87))
      have HZ3 := Lib.hid (HZB.out.alloc' (.cells #[.int .u64 (r : Int)] 87))
      have hbs : w.heap.size + 1 ≤ w2.heap.size + 1 := by omega
      go_wp2_with (at_builtin; refine wpList_append_own _ rfl _ _ 68 rfl (w.heap.size + 1) 87 i0 (.int .u64 0) 1 8 Tryz.underlying68 hi hz0 hz1 hz2 rfl (by decide) _ _ _ rfl HO3.out ⟨_, 0, none⟩ 1 1 [Value.int .u64 (r : Int)] rfl rfl (by intro j u' hj; match j, hj with | 0, hj => simp at hj; subst hj; simp [Addr.add]) (by intro u' hu'; simp at hu'; subst hu'; rfl) (by unfold maxLen; omega) (by omega) (by simp; omega) ?_)
      intro v4 w4 hown4 hgrow4 _
      have HGr4 := Lib.hid (show Grs w4 (w.heap.size + 1) v4 (gs ++ [r]) by
        unfold Grs; rw [List.length_append, List.length_singleton, cellsOf_toList, List.map_append, ← cellsOf_toList]; exact hown4)
      have HB4 := Lib.hid (HBr3.out.grown hgrow4 HBr3.out.size (fun kk hk => by have := (HO3.out.lt kk hk).1; omega))
      have HZ4 := Lib.hid (show Blk w4 w.heap.size 87 .u64 (zs ++ X.drop k) from (hgrow4.block w.heap.size HZ3.out.lt (by
        intro e; have := (HO3.out.lt w.heap.size e.symm).1; omega)).trans HZ3.out)
      have T := trimmed HZ4.out HZ.out.1 HX2.out.2.1 HX2.out.1 HX2.out.2.2 HZ.out.2.1 HX1.out.2.1
      have HTr := Lib.hid T
      have CT := Lib.hid (trim_call T.1 HZ.out.1)
      clear hown4 hgrow4 T HBr3 HZ3 HO3 HZB HBr2 HGr2 hbs
      go_wp2_with fail
      refine CT.out.mono ?_
      rintro e w' ⟨rfl, rfl⟩
      go_wp2_with fail
      have eq1 : R = Big.val Big.M64 zs * Big.G19 + r := by have h1 := HZ.out.2.2.1; rw [HX1.out.2.2.2.2] at h1; exact h1
      go_roundw
      case rel =>
        refine ⟨gs ++ [r], Big.val Big.M64 zs, Lib.hid HTr.out.2, HGr4, Lib.hid ⟨HI.out.ok.append (Big.Ok.cons HZ.out.2.2.2 Big.Ok.nil), Big.val_snoc_group HI.out.eq eq1, fun e => ⟨gs, r, rfl, ?_⟩⟩, HB4⟩
        rw [e, Nat.zero_mul, Nat.zero_add] at eq1
        omega
      case measure =>
        rw [numAt_own HTr.out.2, HNUM.out, eq1]
        have h2 : Big.val Big.M64 zs * 2 ≤ Big.val Big.M64 zs * Big.G19 := Nat.mul_le_mul_left _ (by unfold Big.G19; omega)
        omega
end Go.Proofs.YthjofdfnppadnaaGreatDoor
namespace Go.Proofs.YthjofdfnppadnaaGreatDoor
open Go Go.RowKit
namespace Ev
def wordsN (n : Nat) : Nat := if n = 0 then 0 else Nat.log2 n / 64 + 1
theorem words_of {l : List Nat} (ol : Big.Ok Big.M64 l) (nl : Big.Norm l) : l.length = wordsN (Big.val Big.M64 l) := by
  unfold wordsN
  by_cases h0 : Big.val Big.M64 l = 0
  · rw [if_pos h0, Big.norm_zero Big.M64_pos l nl h0]; rfl
  · rw [if_neg h0]
    have hne : l ≠ [] := by intro e; subst e; exact h0 rfl
    have h1 := Big.norm_ge (B := Big.M64) l nl hne
    have h2 := Big.val_lt l ol
    generalize Big.val Big.M64 l = n at *
    have hM : ∀ k, Big.M64 ^ k = 2 ^ (64 * k) := fun k => by rw [Nat.pow_mul]; rfl
    rw [hM] at h1 h2
    have h3 := Nat.log2_self_le h0
    have h4 : n < 2 ^ (Nat.log2 n + 1) := Nat.lt_log2_self
    have hl : 0 < l.length := List.length_pos_iff.2 hne
    have h5 : Nat.log2 n < 64 * l.length := (Nat.pow_lt_pow_iff_right (by omega : 1 < 2)).1 (Nat.lt_of_le_of_lt h3 h2)
    have h6 : 64 * (l.length - 1) < Nat.log2 n + 1 := (Nat.pow_lt_pow_iff_right (by omega : 1 < 2)).1 (Nat.lt_of_le_of_lt h1 h4)
    omega
theorem nat_slice {w : World} {v : Value} {n : Nat} (h : NatIn w v n) : ∃ a c, v = .slice a (wordsN n) c := by
  obtain ⟨l, ⟨A, c, e, -, -, -⟩, ol, nl, rfl⟩ := h
  exact ⟨A, c, by rw [e, words_of ol nl]⟩
theorem nat_one {w : World} {v : Value} {n : Nat} (h : NatIn w v n) : isOne v = true := by
  obtain ⟨a, c, rfl⟩ := nat_slice h; rfl
theorem nat_stable {n : Nat} {w w' : World} {v : Value} (h : NatIn w v n) (hk : ∀ (b : Nat) (c : Array Value) (t : TypeId) (z : Nat × Nat), w.heap[b]? = some (.cells c t z) → Nat.beq t 87 = true → w'.heap[b]? = some (.cells c t z)) : NatIn w' v n := by
  obtain ⟨l, ⟨A, c, e, h1, h2, h3⟩, ol, nl, hv⟩ := h
  refine ⟨l, ⟨A, c, e, h1, h2, fun hp => ?_⟩, ol, nl, hv⟩
  obtain ⟨b, o, ea, hlt, hc, cs, hcs⟩ := h3 hp
  have hcs' := hk b cs _ _ hcs (Nat.beq_refl _)
  refine ⟨b, o, ea, (Array.getElem?_eq_some_iff.1 hcs').1, fun i hi => ?_, cs, hcs'⟩
  rw [← hc i hi]
  exact World.cell?_of_block (hcs'.trans hcs.symm)
theorem tab_at : ∃ g, g < Tryz.prog.globals.size ∧ Tryz.prog.globalNamed "internal/strconv.uint64pow10" = some g := by
  have h : (match Tryz.prog.globalNamed "internal/strconv.uint64pow10" with | some g => Nat.ble (g + 1) Tryz.prog.globals.size | none => false) = true := by kernel_rfl
  cases e : Tryz.prog.globalNamed "internal/strconv.uint64pow10" with
  | none => rw [e] at h; cases h
  | some g => rw [e] at h; exact ⟨g, Nat.le_of_ble_eq_true h, rfl⟩
noncomputable def natSig : Sig Nat where
  holds n w v := NatIn w v n
  hid t := Nat.beq t 87
  G := Tryz.prog.globals.size
  base := Tab
  baseS := by
    intro w w' h hk
    obtain ⟨g, hg, hn⟩ := tab_at
    unfold Tab Lib.TabIs World.var? at *
    rw [hn] at h ⊢
    simp only [Option.bind_some] at h ⊢
    cases hq : w.heap[g]? with
    | none => rw [hq] at h; cases h
    | some o => rw [hk g o hg hq]; rw [hq] at h; exact h
  stable := fun _ _ _ _ h hk => nat_stable h hk
noncomputable def natCfg : Cfg Nat where
  hid t := Nat.beq t 87
  G := Tryz.prog.globals.size
  tab f := Tryz.prog.funcs[f]?
  len n := some (wordsN n)
  hard _ _ := fail
instance natHard : HardLoc natCfg := ⟨fun _ _ => loc_fail⟩
theorem natFits : Fits natSig Tryz.prog natCfg where
  hid := rfl
  G := rfl
  len := fun f n w v h e => by
    have e' : wordsN f = n := Option.some.inj e
    obtain ⟨a, c, rfl⟩ := nat_slice h
    exact ⟨a, c, by rw [e']⟩
  tab := fun f fn h => by
    refine ⟨h, ?_⟩
    have hall : (Tryz.prog.funcs.all fun fn => !(fn.name == "runtime.NumGoroutine")) = true := by kernel_rfl
    have h1 := Array.all_eq_true_iff_forall_mem.1 hall fn (Array.mem_of_getElem? h)
    simpa using h1
  mixed := by kernel_rfl
  hard := fun o vs h nx x h' nx' R W _ e => by cases (show (fail : M Nat Nxt) h nx = _ from e)
section
variable {F : Type} {S : Sig F}
theorem ext_below {r : Ren} {g : Nat → Option (Blk F)} {w w' : World} (hM : Mod S r g w) (hb : Below w.heap.size w w') (nx : Nat) : Ext S r w nx nx [] g r w' := by
  have hk : ∀ (b : Nat) (o : Obj), w.heap[b]? = some o → w'.heap[b]? = some o := fun b o hbo => (hb.block b (Array.getElem?_eq_some_iff.1 hbo).1).trans hbo
  refine ⟨.refl r, ⟨hM.inj, fun n b hn => Nat.lt_of_lt_of_le (hM.lt n b hn) hb.size, fun n c t hn => ?_, fun n f hn => ?_, S.baseS w w' hM.base fun b o _ => hk b o, hM.glob⟩, fun _ h => .inl h, fun _ _ h => .inl h, fun b o hbo _ => hk b o hbo, hb.size, hb.os, hb.tape, hb.output⟩
  · obtain ⟨b, c', h1, h2, h3, h4⟩ := hM.cells n c t hn
    exact ⟨b, c', h1, hk b _ h2, h3, h4⟩
  · obtain ⟨v, h1, h2, h3⟩ := hM.fact n f hn
    exact ⟨v, h1, S.stable f w w' v h2 fun b c t z hbo _ => hk b _ hbo, h3⟩
theorem ext_fact {r : Ren} {g : Nat → Option (Blk F)} {w w' : World} {nx : Nat} {f : F} {v' : Value} (hM : Mod S r g w) (hb : Below w.heap.size w w') (hN : New r nx (nx + 1)) (hh : S.holds f w' v') (ho : isOne v' = true) :
    ∃ r', Ext S r w nx (nx + 1) [] (fun n => if n = nx then some (.fact f) else g n) r' w' ∧ r'.val nx = some v' := by
  have hno := hN nx (Nat.le_refl _) (Nat.lt_succ_self _)
  have hX := ext_below hM hb nx
  have hle : r.le ⟨r.blk, fun n => if n = nx then some v' else r.val n⟩ := by
    refine ⟨fun _ _ e => e, fun n v e => ?_⟩
    have : n ≠ nx := fun h => by rw [h, hno.2] at e; cases e
    simp only [if_neg this, e]
  refine ⟨⟨r.blk, fun n => if n = nx then some v' else r.val n⟩, ⟨hle, ⟨hM.inj, hX.mod.lt, fun n c t hn => ?_, fun n f' hn => ?_, hX.mod.base, hM.glob⟩, fun n hn => ?_, fun _ _ h => .inl h, hX.keep, hX.size, hX.os, hX.tape, hX.output⟩, by simp⟩
  · by_cases h : n = nx
    · simp only [if_pos h, Option.some.injEq] at hn; cases hn
    · simp only [if_neg h] at hn
      obtain ⟨b, c', h1, h2, h3, h4⟩ := hX.mod.cells n c t hn
      exact ⟨b, c', h1, h2, h3.mono hle, h4⟩
  · by_cases h : n = nx
    · simp only [if_pos h, Option.some.injEq, Blk.fact.injEq] at hn
      subst hn
      exact ⟨v', by simp [h], hh, ho⟩
    · simp only [if_neg h] at hn
      obtain ⟨v, h1, h2, h3⟩ := hX.mod.fact n f' hn
      exact ⟨v, by simp only [if_neg h, h1], h2, h3⟩
  · by_cases h : n = nx
    · exact .inr ⟨by omega, by omega⟩
    · simp only [if_neg h] at hn; exact .inl hn
end
noncomputable def isNilV : Value → Bool
  | .slice a n c => match a with
    | none => Nat.beq n 0 && Nat.beq c 0
    | some _ => false
  | _ => false
noncomputable def natV (v : Value) : M Nat Nat := cond (isNilV v) (ret 0) (fact v)
theorem loc_natV (v : Value) : Loc (natV v) := loc_cond (loc_ret _) (loc_fact v)
theorem fact_ok {F : Type} {S : Sig F} {v v' : Value} {f : F} {h h' : Tr (Blk F)} {nx nx' : Nat} {R W : List Nat} {r : Ren} {w : World} (e : (fact v : M F F) h nx = .ok f h' nx' R W) (hv : VR r v v') (hM : Mod S r h.get w) : h' = h ∧ nx' = nx ∧ W = [] ∧ S.holds f w v' := by
  unfold fact at e
  cases v with
  | chan i =>
    cases i with
    | none => simp [fail] at e
    | some i =>
      simp only at e
      obtain ⟨bl, h3, nx3, R3, W3, R4, W4, e3, e4, rfl, rfl⟩ := bind_ok e
      unfold rd at e3
      cases hg : h.get i with
      | none => rw [hg] at e3; cases e3
      | some bl2 =>
        rw [hg] at e3
        cases e3
        cases bl with
        | cells _ _ => simp [fail] at e4
        | fact f2 =>
          simp only at e4
          obtain ⟨rfl, rfl, rfl, rfl⟩ := ret_ok e4
          obtain ⟨v0, hv0, hh, ho⟩ := hM.fact _ _ hg
          refine ⟨rfl, rfl, by simp, ?_⟩
          cases hv with
          | same p => simp [plain] at p
          | opq hp _ => rw [hv0] at hp; injection hp with hp; subst hp; exact hh
  | _ => simp [fail] at e
theorem natV_ok {v v' : Value} {n : Nat} {h h' : Tr (Blk Nat)} {nx nx' : Nat} {R W : List Nat} {r : Ren} {w : World} (e : natV v h nx = .ok n h' nx' R W) (hv : VR r v v') (hM : Mod natSig r h.get w) : h' = h ∧ nx' = nx ∧ W = [] ∧ NatIn w v' n := by
  unfold natV at e
  cases hi : isNilV v with
  | true =>
    rw [hi] at e
    obtain ⟨rfl, rfl, rfl, rfl⟩ := ret_ok e
    refine ⟨rfl, rfl, rfl, ?_⟩
    cases v with
    | slice a m c =>
      cases a with
      | some _ => simp [isNilV] at hi
      | none =>
        simp only [isNilV, Bool.and_eq_true] at hi
        have h1 := Nat.eq_of_beq_eq_true hi.1
        have h2 := Nat.eq_of_beq_eq_true hi.2
        subst h1; subst h2
        rw [hv.nilslc]
        exact NatIn.nil_ w
    | _ => simp [isNilV] at hi
  | false =>
    rw [hi] at e
    exact fact_ok e hv hM
def SumF {F : Type} (S : Sig F) (P : Program) (f : FuncId) (g : List Value → Option (M F Value)) : Prop := ∀ args m, g args = some m → Loc m ∧ ∀ h nx v h' nx' R W, m h nx = .ok v h' nx' R W →
  ∀ (r : Ren) (w : World) (args' : List Value), VsR r args args' → Mod S r h.get w → New r nx nx' → Calls P f ⟨args'⟩ w fun e w' => ∃ v' r', e = .returned v' ∧ VR r' v v' ∧ Ext S r w nx nx' W h'.get r' w'
noncomputable def mkTab {G : Type} : List (Nat × G) → Tr G
  | [] => .nil
  | x :: l => (mkTab l).set x.1 x.2
theorem mkTab_get {G : Type} {f : Nat} {g : G} : ∀ {l : List (Nat × G)}, (mkTab l).get f = some g → (f, g) ∈ l
  | [], h => by simp [mkTab, Tr.get_nil] at h
  | x :: l, h => by
    rw [mkTab, Tr.get_set] at h
    by_cases e : f = x.1
    · rw [if_pos e] at h
      injection h with h
      obtain ⟨a, b⟩ := x
      simp only at e h
      subst e; subst h
      exact List.mem_cons_self
    · rw [if_neg e] at h
      exact List.mem_cons_of_mem _ (mkTab_get h)
noncomputable def sumsOf {F : Type} (t : Tr (List Value → Option (M F Value))) : Sums F := fun f args => match t.get f with
  | some g => g args
  | none => none
theorem sumsOf_ok {F : Type} {S : Sig F} {P : Program} {l : List (Nat × (List Value → Option (M F Value)))} (h : ∀ x ∈ l, SumF S P x.1 x.2) : SumOK S P (sumsOf (mkTab l)) := by
  have key : ∀ f args m, sumsOf (mkTab l) f args = some m → ∃ g, SumF S P f g ∧ g args = some m := by
    intro f args m e
    unfold sumsOf at e
    cases hg : (mkTab l).get f with
    | none => rw [hg] at e; cases e
    | some g => rw [hg] at e; exact ⟨g, h _ (mkTab_get hg), e⟩
  refine ⟨fun f args m e => ?_, fun f args m e h nx v h' nx' R W hr r w args' ha hM hN => ?_⟩
  · obtain ⟨g, hs, hg⟩ := key f args m e
    exact (hs args m hg).1
  · obtain ⟨g, hs, hg⟩ := key f args m e
    exact (hs args m hg).2 _ _ _ _ _ _ _ hr.ok r w args' ha hM hN
end Ev
end Go.Proofs.YthjofdfnppadnaaGreatDoor
namespace Go.Proofs.YthjofdfnppadnaaGreatDoor
open Go Go.RowKit
namespace Ev
section
variable {h h' : Tr (Blk Nat)} {nx nx' : Nat} {R W : List Nat} {r : Ren} {w : World} {v : Value}
def Goes (f : FuncId) (args' : List Value) (r : Ren) (w : World) (nx nx' : Nat) (W : List Nat) (g' : Nat → Option (Blk Nat)) (v : Value) : Prop :=
  Calls Tryz.prog f ⟨args'⟩ w fun e w' => ∃ v' r', e = .returned v' ∧ VR r' v v' ∧ Ext natSig r w nx nx' W g' r' w'
theorem goes_new {N : Nat} {f : FuncId} {args' : List Value} (e : (newFact N : M Nat Value) h nx = .ok v h' nx' R W) (hM : Mod natSig r h.get w) (hN : New r nx nx') (c : Calls Tryz.prog f ⟨args'⟩ w (Nat1 w N)) : Goes f args' r w nx nx' W h'.get v := by
  obtain ⟨i, h1, nx1, R1, W1, R2, W2, e1, e2, rfl, rfl⟩ := bind_ok e
  obtain ⟨rfl, rfl, rfl, rfl⟩ := ret_ok e2
  unfold fresh at e1
  cases e1
  refine c.mono ?_
  rintro en w' ⟨v', rfl, hv, hb⟩
  obtain ⟨r', hX, hr⟩ := ext_fact (S := natSig) (f := N) hM hb hN hv (nat_one hv)
  exact ⟨v', r', rfl, .opq hr (nat_one hv), by simpa using hX.congr fun n => .inr (Tr.get_set _ _ _ _)⟩
theorem goes_val {u : Value} {f : FuncId} {args' : List Value} (e : (ret u : M Nat Value) h nx = .ok v h' nx' R W) (hp : plain2 u = true) (hM : Mod natSig r h.get w) (c : Calls Tryz.prog f ⟨args'⟩ w fun e w' => e = .returned u ∧ Below w.heap.size w w') : Goes f args' r w nx nx' W h'.get v := by
  obtain ⟨rfl, rfl, rfl, rfl⟩ := ret_ok e
  refine c.mono ?_
  rintro en w' ⟨rfl, hb⟩
  exact ⟨_, r, rfl, VR.same2 hp, ext_below hM hb _⟩
theorem same_below {f : FuncId} {args' : List Value} {u : Value} (c : Calls Tryz.prog f ⟨args'⟩ w fun e w' => e = .returned u ∧ w = w') : Calls Tryz.prog f ⟨args'⟩ w fun e w' => e = .returned u ∧ Below w.heap.size w w' :=
  c.mono fun _ _ ⟨h1, h2⟩ => ⟨h1, h2 ▸ Below.refl _ _⟩
theorem drew_below {f : FuncId} {args' : List Value} {u : Value} (c : Calls Tryz.prog f ⟨args'⟩ w fun e w' => e = .returned u ∧ Drew w w') : Calls Tryz.prog f ⟨args'⟩ w fun e w' => e = .returned u ∧ Below w.heap.size w w' :=
  c.mono fun _ _ ⟨h1, h2⟩ => ⟨h1, h2.below _⟩
noncomputable def small (n : Nat) : Bool := Nat.ble (Nat.log2 n) 60000
theorem m64_log {n k : Nat} (h : Nat.log2 n + 1 ≤ 64 * k) : n < Big.M64 ^ k := by
  have hM : ∀ k, Big.M64 ^ k = 2 ^ (64 * k) := fun k => by rw [Nat.pow_mul]; rfl
  rw [hM]
  exact Nat.lt_of_lt_of_le Nat.lt_log2_self (Nat.pow_le_pow_right (by omega) h)
theorem sz_log {n k : Nat} (h : Nat.log2 n + 1 ≤ 64 * k) : Sz k n := ⟨m64_log h⟩
theorem sz_small {n : Nat} (h : small n = true) : Sz 1000 n := by
  have h1 := Nat.le_of_ble_eq_true h
  exact sz_log (by omega)
noncomputable def two (args : List Value) (k : Nat → Nat → M Nat Value) : Option (M Nat Value) := match args with
  | [a, b] => some (bind (natV a) fun n => bind (natV b) fun m => cond (small n && small m) (k n m) fail)
  | _ => none
noncomputable def one (args : List Value) (k : Nat → M Nat Value) : Option (M Nat Value) := match args with
  | [a] => some (bind (natV a) fun n => cond (small n) (k n) fail)
  | _ => none
theorem two_ok {f : FuncId} {k : Nat → Nat → M Nat Value} (hl : ∀ n m, Loc (k n m)) (hk : ∀ n m (h : Tr (Blk Nat)) nx v h' nx' R W, k n m h nx = .ok v h' nx' R W → ∀ r w a b, NatIn w a n → NatIn w b m → Sz 1000 n → Sz 1000 m → Mod natSig r h.get w → New r nx nx' → Goes f [a, b] r w nx nx' W h'.get v) :
    SumF natSig Tryz.prog f (fun args => two args k) := by
  intro args m e
  unfold two at e
  rcases args with _ | ⟨a, _ | ⟨b, _ | ⟨c, l⟩⟩⟩ <;> simp only [reduceCtorEq, Option.some.injEq] at e
  subst e
  refine ⟨loc_bind (loc_natV a) fun n => loc_bind (loc_natV b) fun m => loc_cond (hl n m) loc_fail, ?_⟩
  intro h nx v h' nx' R W e r w args' ha hM hN
  cases ha with
  | cons ha1 ha2 =>
    cases ha2 with
    | cons hb1 hb2 =>
      cases hb2
      obtain ⟨n, h1, nx1, R1, W1, R2, W2, e1, e2, rfl, rfl⟩ := bind_ok e
      obtain ⟨rfl, rfl, rfl, hn⟩ := natV_ok e1 ha1 hM
      obtain ⟨m, h2, nx2, R3, W3, R4, W4, e3, e4, rfl, rfl⟩ := bind_ok e2
      obtain ⟨rfl, rfl, rfl, hm⟩ := natV_ok e3 hb1 hM
      obtain ⟨hs, e5⟩ := cond_ok e4
      simp only [Bool.and_eq_true] at hs
      simpa [Goes] using hk n m _ _ _ _ _ _ _ e5 r w _ _ hn hm (sz_small hs.1) (sz_small hs.2) hM hN
theorem one_ok {f : FuncId} {k : Nat → M Nat Value} (hl : ∀ n, Loc (k n)) (hk : ∀ n (h : Tr (Blk Nat)) nx v h' nx' R W, k n h nx = .ok v h' nx' R W → ∀ r w a, NatIn w a n → Sz 1000 n → Mod natSig r h.get w → New r nx nx' → Goes f [a] r w nx nx' W h'.get v) :
    SumF natSig Tryz.prog f (fun args => one args k) := by
  intro args m e
  unfold one at e
  rcases args with _ | ⟨a, _ | ⟨c, l⟩⟩ <;> simp only [reduceCtorEq, Option.some.injEq] at e
  subst e
  refine ⟨loc_bind (loc_natV a) fun n => loc_cond (hl n) loc_fail, ?_⟩
  intro h nx v h' nx' R W e r w args' ha hM hN
  cases ha with
  | cons ha1 ha2 =>
    cases ha2
    obtain ⟨n, h1, nx1, R1, W1, R2, W2, e1, e2, rfl, rfl⟩ := bind_ok e
    obtain ⟨rfl, rfl, rfl, hn⟩ := natV_ok e1 ha1 hM
    obtain ⟨hs, e5⟩ := cond_ok e2
    simpa [Goes] using hk n _ _ _ _ _ _ _ e5 r w _ hn (sz_small hs) hM hN
theorem sum_add : SumF natSig Tryz.prog 132 (fun args => two args fun n m => newFact (Nat.add n m)) :=
  two_ok (fun _ _ => loc_newFact _) fun n m h nx v h' nx' R W e r w a b hn hm sn sm hM hN => goes_new e hM hN (add_num w a b n m _ _ hn hm sn sm (by omega) (by omega))
theorem sum_sub : SumF natSig Tryz.prog 194 (fun args => two args fun n m => newFact (Nat.sub n m)) :=
  two_ok (fun _ _ => loc_newFact _) fun n m h nx v h' nx' R W e r w a b hn hm sn sm hM hN => goes_new e hM hN (sub_num w a b n m _ hn hm sn (by omega))
theorem sum_mul : SumF natSig Tryz.prog 133 (fun args => two args fun n m => newFact (Nat.mul n m)) :=
  two_ok (fun _ _ => loc_newFact _) fun n m h nx v h' nx' R W e r w a b hn hm sn sm hM hN => goes_new e hM hN (mul_num w a b n m _ _ hn hm sn sm (by omega) (by omega))
theorem sum_quo : SumF natSig Tryz.prog 118 (fun args => two args fun n m => newFact (Nat.div n m)) :=
  two_ok (fun _ _ => loc_newFact _) fun n m h nx v h' nx' R W e r w a b hn hm sn sm hM hN => goes_new e hM hN (quo_num w a b n m _ hn hm sn (by omega))
theorem sum_gcd : SumF natSig Tryz.prog 117 (fun args => two args fun n m => newFact (Nat.gcd n m)) :=
  two_ok (fun _ _ => loc_newFact _) fun n m h nx v h' nx' R W e r w a b hn hm sn sm hM hN => goes_new e hM hN (gcd_num w a b n m _ _ hn hm sn sm (by omega) (by omega))
theorem sum_cmp : SumF natSig Tryz.prog 130 (fun args => two args fun n m => ret (.int .i64 (Big.cmpI n m))) :=
  two_ok (fun _ _ => loc_ret _) fun n m h nx v h' nx' R W e r w a b hn hm _ _ hM _ => goes_val e rfl hM (drew_below (cmp_num w a b n m hn hm))
theorem sum_isOne : SumF natSig Tryz.prog 126 (fun args => one args fun n => ret (.bool (decide (n = 1)))) :=
  one_ok (fun _ => loc_ret _) fun n h nx v h' nx' R W e r w a hn _ hM _ => goes_val e rfl hM ((isOne_num w a n hn).mono fun _ _ hh => by obtain ⟨h1, h2⟩ := hh; exact ⟨h1, by first | exact h2.below _ | exact h2 ▸ Below.refl _ _⟩)
theorem sum_size : SumF natSig Tryz.prog 205 (fun args => one args fun n => ret (.int .i64 ((szN n : Nat) : Int))) :=
  one_ok (fun _ => loc_ret _) fun n h nx v h' nx' R W e r w a hn sn hM _ => goes_val e rfl hM (same_below (size_num w a n _ hn sn (by omega)))
theorem sum_bytes : SumF natSig Tryz.prog 162 (fun args => one args fun n => ret (.string (bst n))) :=
  one_ok (fun _ => loc_ret _) fun n h nx v h' nx' R W e r w a hn sn hM _ => goes_val e rfl hM (bytes_num w a n _ hn sn (by omega))
theorem sum_of : SumF natSig Tryz.prog 119 (fun args => match args with
    | [a] => match a with
      | .int k s => match s with
        | .ofNat n => cond (decide (k = .u64) && Nat.ble (Nat.succ n) 18446744073709551616) (some (newFact n)) none
        | _ => none
      | _ => none
    | _ => none) := by
  intro args m e
  rcases args with _ | ⟨a, _ | ⟨c, l⟩⟩ <;> simp only [reduceCtorEq] at e
  cases a with
  | int k s =>
    cases s with
    | negSucc _ => simp at e
    | ofNat n =>
      simp only at e
      cases hk : (decide (k = .u64) && Nat.ble (Nat.succ n) 18446744073709551616) with
      | false => rw [hk] at e; cases e
      | true =>
        rw [hk] at e
        simp only [cond_true, Option.some.injEq] at e
        subst e
        simp only [Bool.and_eq_true, decide_eq_true_eq] at hk
        have hlt : n < 18446744073709551616 := Nat.le_of_ble_eq_true hk.2
        refine ⟨loc_newFact _, ?_⟩
        intro h nx v h' nx' R W e r w args' ha hM hN
        cases ha with
        | cons ha1 ha2 =>
          cases ha2
          have hb := ha1.int
          subst hb
          rw [hk.1]
          exact goes_new e hM hN (of_num w n hlt)
  | _ => simp at e
theorem sum_fromBytes : SumF natSig Tryz.prog 176 (fun args => match args with
    | [a] => match a with
      | .string s => cond (Nat.ble s.size 100000) (some (newFact (Big.bnum s.data.toList))) none
      | _ => none
    | _ => none) := by
  intro args m e
  rcases args with _ | ⟨a, _ | ⟨c, l⟩⟩ <;> simp only [reduceCtorEq] at e
  cases a with
  | string s =>
    simp only at e
    cases hk : Nat.ble s.size 100000 with
    | false => rw [hk] at e; cases e
    | true =>
      rw [hk] at e
      simp only [cond_true, Option.some.injEq] at e
      subst e
      have hlt : s.size ≤ 100000 := Nat.le_of_ble_eq_true hk
      refine ⟨loc_newFact _, ?_⟩
      intro h nx v h' nx' R W e r w args' ha hM hN
      cases ha with
      | cons ha1 ha2 =>
        cases ha2
        have hb := ha1.str
        subst hb
        exact goes_new e hM hN (fromBytes_any w s (by omega))
  | _ => simp at e
end
end Ev
end Go.Proofs.YthjofdfnppadnaaGreatDoor
namespace Go.Proofs.YthjofdfnppadnaaGreatDoor
open Go Go.RowKit
namespace Ev
noncomputable def digF (k : Nat) : Nat → List UInt8 → List UInt8 :=
  Nat.rec (motive := fun _ => Nat → List UInt8 → List UInt8) (fun _ acc => acc) (fun _ ih u acc => cond (Nat.ble 10 u) (ih (Nat.div u 10) (UInt8.ofNat (48 + Nat.mod u 10) :: acc)) (UInt8.ofNat (48 + u) :: acc)) k
theorem digF_eq : ∀ (k u : Nat) (acc : List UInt8), u < 10 ^ k → 1 ≤ k → digF k u acc = Lib.decDigits u ++ acc
  | 0, _, _, _, h => absurd h (by omega)
  | k + 1, u, acc, h, _ => by
    show cond (Nat.ble 10 u) (digF k (Nat.div u 10) (UInt8.ofNat (48 + Nat.mod u 10) :: acc)) (UInt8.ofNat (48 + u) :: acc) = _
    cases hb : Nat.ble 10 u with
    | false =>
      have h10 : u < 10 := by
        rcases Nat.lt_or_ge u 10 with h1 | h1
        · exact h1
        · rw [Nat.ble_eq_true_of_le h1] at hb; cases hb
      rw [Lib.decDigits_one h10]; rfl
    | true =>
      have h10 := Nat.le_of_ble_eq_true hb
      rw [cond_true]
      have hk : 1 ≤ k := by
        rcases Nat.eq_zero_or_pos k with h0 | h0
        · subst h0; simp at h; omega
        · exact h0
      have hd : u / 10 < 10 ^ k := by
        rw [Nat.pow_succ] at h
        exact Nat.div_lt_of_lt_mul (by rw [Nat.mul_comm]; exact h)
      show digF k (u / 10) (UInt8.ofNat (48 + u % 10) :: acc) = _
      rw [digF_eq k (u / 10) _ hd hk, Big.dec_big (by omega : ¬ u < 10), List.append_assoc]
      rfl
noncomputable def digs (n : Nat) : List UInt8 := digF (Nat.succ (Nat.log2 n)) n []
theorem digs_eq (n : Nat) : digs n = Lib.decDigits n := by
  unfold digs
  have h : n < 2 ^ (Nat.log2 n + 1) := Nat.lt_log2_self
  rw [digF_eq _ _ _ (Nat.lt_of_lt_of_le h (Nat.pow_le_pow_left (by omega) _)) (by omega), List.append_nil]
section
variable {h h' : Tr (Blk Nat)} {nx nx' : Nat} {R W : List Nat} {r : Ren} {w : World} {v : Value}
theorem goes_new2 {N M' : Nat} {f : FuncId} {args' : List Value} (e : (bind (newFact N) fun x => bind (newFact M') fun y => ret (.tuple ⟨[x, y]⟩) : M Nat Value) h nx = .ok v h' nx' R W) (hM : Mod natSig r h.get w) (hN : New r nx nx')
    (c : Calls Tryz.prog f ⟨args'⟩ w fun e w' => ∃ a b, e = .returned (.tuple ⟨[a, b]⟩) ∧ NatIn w' a N ∧ NatIn w' b M' ∧ Below w.heap.size w w') : Goes f args' r w nx nx' W h'.get v := by
  obtain ⟨x, h0, nx0, R0, W0, R3, W3, e0, e3, rfl, rfl⟩ := bind_ok e
  obtain ⟨i, h1, nx1, R1, W1, R2, W2, e1, e2, rfl, rfl⟩ := bind_ok e0
  obtain ⟨rfl, rfl, rfl, rfl⟩ := ret_ok e2
  unfold fresh at e1
  cases e1
  obtain ⟨y, h4, nx4, R4, W4, R5, W5, e4, e5, rfl, rfl⟩ := bind_ok e3
  obtain ⟨rfl, rfl, rfl, rfl⟩ := ret_ok e5
  obtain ⟨j, h6, nx6, R6, W6, R7, W7, e6, e7, rfl, rfl⟩ := bind_ok e4
  obtain ⟨rfl, rfl, rfl, rfl⟩ := ret_ok e7
  unfold fresh at e6
  cases e6
  refine c.mono ?_
  rintro en w' ⟨a, b, rfl, ha, hb', hb⟩
  obtain ⟨r1, hX, hr⟩ := ext_fact (S := natSig) (f := N) hM hb (hN.sub (Nat.le_refl _) (by omega)) ha (nat_one ha)
  have hN2 := New.after (hN.sub (lo' := nx) (hi' := nx + 1 + 1) (Nat.le_refl _) (by omega)) hX (by omega)
  obtain ⟨r2, hY, hs⟩ := ext_fact (S := natSig) (f := M') hX.mod (Below.refl _ w') hN2 hb' (nat_one hb')
  refine ⟨.tuple ⟨[a, b]⟩, r2, rfl, .tuple (.cons (.opq (hY.le.val _ _ hr) (nat_one ha)) (.cons (.opq hs (nat_one hb')) .nil)), ?_⟩
  have hZ := hX.trans hY (by omega) (by omega)
  refine Ext.congr (by simpa using hZ) fun n => .inr ?_
  rw [Tr.get_set, Tr.get_set]
end
theorem sum_word : SumF natSig Tryz.prog 63 (fun args => one args fun n => ret (.tuple #[.int .u64 (((if n < Big.M64 then n else 0) : Nat) : Int), .bool (decide (n < Big.M64))])) :=
  one_ok (fun _ => loc_ret _) fun n h nx v h' nx' R W e r w a hn _ hM _ => goes_val e rfl hM (same_below (word2_any w a n hn))
theorem sum_text : SumF natSig Tryz.prog 53 (fun args => one args fun n => ret (.string ⟨⟨digs n⟩⟩)) :=
  one_ok (fun _ => loc_ret _) fun n h nx v h' nx' R W e r w a hn sn hM _ => goes_val e rfl hM (by
    rw [digs_eq]
    exact text_any w a n _ hn sn (by omega) hM.base)
theorem sum_quoRem : SumF natSig Tryz.prog 131 (fun args => two args fun n m => bind (newFact (Nat.div n m)) fun x => bind (newFact (Nat.mod n m)) fun y => ret (.tuple ⟨[x, y]⟩)) :=
  two_ok (fun _ _ => loc_bind (loc_newFact _) fun _ => loc_bind (loc_newFact _) fun _ => loc_ret _) fun n m h nx v h' nx' R W e r w a b hn hm sn sm hM hN => goes_new2 e hM hN (quoRem_num w a b n m _ hn hm sn (by omega))
end Ev
end Go.Proofs.YthjofdfnppadnaaGreatDoor
namespace Go.Proofs.YthjofdfnppadnaaGreatDoor
open Go Go.RowKit
namespace Ev
section
variable {F : Type} {S : Sig F} {P : Program}
noncomputable def geAll (k : Nat) (l : List Nat) : Bool := List.rec (motive := fun _ => Bool) true (fun n _ ih => Bool.rec (motive := fun _ => Bool) false ih (Nat.ble k n)) l
theorem geAll_ok {k : Nat} : ∀ {l : List Nat}, geAll k l = true → ∀ n ∈ l, k ≤ n
  | [], _, n, hn => by simp at hn
  | m :: l, h, n, hn => by
    have h' : (Bool.rec (motive := fun _ => Bool) false (geAll k l) (Nat.ble k m) : Bool) = true := h
    cases hb : Nat.ble k m with
    | false => rw [hb] at h'; cases h'
    | true =>
      rw [hb] at h'
      rcases List.mem_cons.1 hn with rfl | hn
      · exact Nat.le_of_ble_eq_true hb
      · exact geAll_ok h' n hn
noncomputable def plains (l : List Value) : Bool := plainL plain2 l
theorem plains_ok {r : Ren} : ∀ {l : List Value}, plains l = true → VsR r l l
  | [], _ => .nil
  | v :: l, h => by
    have h' : (plain2 v && plains l) = true := h
    simp only [Bool.and_eq_true] at h'
    exact .cons (VR.same2 h'.1) (plains_ok h'.2)
theorem VsR_eq {r : Ren} : ∀ {l l' : List Value}, plains l = true → VsR r l l' → l' = l
  | [], _, _, h => by cases h; rfl
  | v :: l, _, hp, h => by
    have h' : (plain2 v && plains l) = true := hp
    simp only [Bool.and_eq_true] at h'
    cases h with
    | cons a b => rw [a.eq_of_plain2 h'.1, VsR_eq h'.2 b]
noncomputable def plain3 (v : Value) : Bool := match v with
  | .tuple cs => plains cs.toList
  | v => plain2 v
theorem same3 {r : Ren} {v : Value} (h : plain3 v = true) : VR r v v := by
  cases v with
  | tuple cs => cases cs; exact .tuple (plains_ok (by simpa [plain3] using h))
  | _ => exact VR.same2 h
theorem eq_of_plain3 {r : Ren} {v v' : Value} (h : VR r v v') (hp : plain3 v = true) : v' = v := by
  cases h with
  | tuple a => rw [VsR_eq (by simpa [plain3] using hp) a]
  | same p => rfl
  | ptr p => exact (VR.ptr p).eq_of_plain2 hp
  | slice p => exact (VR.slice p).eq_of_plain2 hp
  | agg a => exact (VR.agg a).eq_of_plain2 hp
  | opq p o => exact (VR.opq p o).eq_of_plain2 hp
  | func a b => exact (VR.func a b).eq_of_plain2 hp
  | iface a => exact (VR.iface a).eq_of_plain2 hp
noncomputable def gives (nx : Nat) (m : M F Value) : Option Value := match m .nil nx with
  | .no => none
  | .ok a _ _ _ W => cond (plain3 a && geAll nx W) (some a) none
theorem gives_ok {nx : Nat} {m : M F Value} {v : Value} (e : gives nx m = some v) : ∃ h' nx' R W, m .nil nx = .ok v h' nx' R W ∧ plain3 v = true ∧ ∀ n ∈ W, nx ≤ n := by
  unfold gives at e
  cases hm : m .nil nx with
  | no => rw [hm] at e; cases e
  | ok a h' nx' R W =>
    rw [hm] at e
    simp only at e
    cases hc : (plain3 a && geAll nx W) with
    | false => rw [hc] at e; cases e
    | true =>
      rw [hc] at e
      simp only [cond_true, Option.some.injEq] at e
      subst e
      simp only [Bool.and_eq_true] at hc
      exact ⟨h', nx', R, W, rfl, hc.1, geAll_ok hc.2⟩
noncomputable def ren0 (G : Nat) : Ren := ⟨fun n => if n < G then some n else none, fun _ => none⟩
theorem mod0 {w : World} (hG : S.G ≤ w.heap.size) (hb : S.base w) : Mod S (ren0 S.G) (fun _ => none) w := by
  refine ⟨fun n m b h1 h2 => ?_, fun n b h => ?_, fun n c t h => (by cases h), fun n f h => (by cases h), hb, fun n hn => if_pos hn⟩
  · unfold ren0 at h1 h2
    simp only at h1 h2
    split at h1 <;> split at h2 <;> first | (cases h1; cases h2; rfl) | (cases h1; done) | (cases h2; done)
  · unfold ren0 at h
    simp only at h
    split at h
    · cases h; omega
    · cases h
theorem gives_calls {C : Cfg F} [HardLoc C] {sum : Sums F} {n nx : Nat} {f : FuncId} {args : List Value} {v : Value} (hF : Fits S P C) (hs : SumOK S P sum) (e : gives nx (call P C sum n f args) = some v) (ha : plains args = true) (hx : S.G ≤ nx) {w : World} (hG : S.G ≤ w.heap.size) (hb : S.base w) :
    Calls P f ⟨args⟩ w fun e w' => e = .returned v ∧ Below w.heap.size w w' := by
  obtain ⟨h', nx', R, W, hm, hp, hW⟩ := gives_ok e
  have hc := call_ok hF hs n
  have hfr : Fr (.nil : Tr (Blk F)) nx := fun k _ => Tr.get_nil k
  have hrun := Run.self (hc.loc f args) hm hfr
  have hN : New (ren0 S.G) nx nx' := fun k h1 h2 => ⟨if_neg (by omega), rfl⟩
  have hg : (Tr.get (.nil : Tr (Blk F))) = fun _ => none := funext fun k => Tr.get_nil k
  refine (hc.run f args _ _ _ _ _ _ _ hrun (ren0 S.G) w args (plains_ok ha) (by rw [hg]; exact mod0 hG hb) hN).mono ?_
  rintro en w' ⟨v', r', rfl, hv, hX⟩
  have hv' := eq_of_plain3 hv hp
  subst hv'
  refine ⟨rfl, hX.os, hX.tape, hX.output, hX.size, fun b hb' => ?_⟩
  have hbo : w.heap[b]? = some w.heap[b] := Array.getElem?_eq_getElem hb'
  rw [hbo]
  exact hX.keep b _ hbo fun k hk => by
    have := hW k hk
    show ¬ (if k < S.G then some k else none) = some b
    rw [if_neg (by omega)]
    simp
end
noncomputable def natList : List (Nat × (List Value → Option (M Nat Value))) := [
  (132, fun args => two args fun n m => newFact (Nat.add n m)),
  (194, fun args => two args fun n m => newFact (Nat.sub n m)),
  (133, fun args => two args fun n m => newFact (Nat.mul n m)),
  (118, fun args => two args fun n m => newFact (Nat.div n m)),
  (117, fun args => two args fun n m => newFact (Nat.gcd n m)),
  (131, fun args => two args fun n m => bind (newFact (Nat.div n m)) fun x => bind (newFact (Nat.mod n m)) fun y => ret (.tuple ⟨[x, y]⟩)),
  (130, fun args => two args fun n m => ret (.int .i64 (Big.cmpI n m))),
  (126, fun args => one args fun n => ret (.bool (decide (n = 1)))),
  (205, fun args => one args fun n => ret (.int .i64 ((szN n : Nat) : Int))),
  (162, fun args => one args fun n => ret (.string (bst n))),
  (63, fun args => one args fun n => ret (.tuple #[.int .u64 (((if n < Big.M64 then n else 0) : Nat) : Int), .bool (decide (n < Big.M64))])),
  (53, fun args => one args fun n => ret (.string ⟨⟨digs n⟩⟩)),
  (119, fun args => match args with
    | [a] => match a with
      | .int k s => match s with
        | .ofNat n => cond (decide (k = .u64) && Nat.ble (Nat.succ n) 18446744073709551616) (some (newFact n)) none
        | _ => none
      | _ => none
    | _ => none),
  (176, fun args => match args with
    | [a] => match a with
      | .string s => cond (Nat.ble s.size 100000) (some (newFact (Big.bnum s.data.toList))) none
      | _ => none
    | _ => none)]
theorem natList_ok : ∀ x ∈ natList, SumF natSig Tryz.prog x.1 x.2 := by
  unfold natList
  intro x hx
  simp only [List.mem_cons, List.not_mem_nil, or_false] at hx
  rcases hx with rfl | rfl | rfl | rfl | rfl | rfl | rfl | rfl | rfl | hx
  · exact sum_add
  · exact sum_sub
  · exact sum_mul
  · exact sum_quo
  · exact sum_gcd
  · exact sum_quoRem
  · exact sum_cmp
  · exact sum_isOne
  · exact sum_size
  rcases hx with rfl | rfl | rfl | hx
  · exact sum_bytes
  · exact sum_word
  · exact sum_text
  rcases hx with rfl | rfl
  · exact sum_of
  · exact sum_fromBytes
noncomputable def natSums : Sums Nat := sumsOf (mkTab natList)
theorem natSums_ok : SumOK natSig Tryz.prog natSums := sumsOf_ok natList_ok
noncomputable def runs (n : Nat) (f : FuncId) (args : List Value) : Option Value := gives 100000 (call Tryz.prog natCfg natSums n f args)
theorem glob_few : Tryz.prog.globals.size ≤ 100000 := by
  have h : Nat.ble Tryz.prog.globals.size 100000 = true := by kernel_rfl
  exact Nat.le_of_ble_eq_true h
theorem runs_calls {n : Nat} {f : FuncId} {args : List Value} {v : Value} (e : runs n f args = some v) (ha : plains args = true) {w : World} (hG : Tryz.prog.globals.size ≤ w.heap.size) (hb : Tab w) :
    Calls Tryz.prog f ⟨args⟩ w fun e w' => e = .returned v ∧ Below w.heap.size w w' :=
  gives_calls natFits natSums_ok e ha glob_few hG hb
end Ev
end Go.Proofs.YthjofdfnppadnaaGreatDoor
namespace Go.Proofs.YthjofdfnppadnaaGreatDoor
open Go Go.RowKit
namespace Ev
noncomputable def eqL {α : Type} (f : α → α → Bool) (l : List α) : List α → Bool := List.rec (motive := fun _ => List α → Bool)
  (fun m => match m with | [] => true | _ :: _ => false) (fun a _ ih m => match m with | [] => false | b :: m => f a b && ih m) l
theorem eqL_ok {α : Type} {f : α → α → Bool} (hf : ∀ a b, f a b = true → a = b) : ∀ {l m : List α}, eqL f l m = true → l = m
  | [], [], _ => rfl
  | [], _ :: _, h => by exact absurd (show false = true from h) (by simp)
  | _ :: _, [], h => by exact absurd (show false = true from h) (by simp)
  | a :: l, b :: m, h => by
    have h' : (f a b && eqL f l m) = true := h
    simp only [Bool.and_eq_true] at h'
    rw [hf _ _ h'.1, eqL_ok hf h'.2]
noncomputable def eqC (a b : UInt8) : Bool := Nat.beq a.toNat b.toNat
theorem eqC_ok (a b : UInt8) (h : eqC a b = true) : a = b := UInt8.toNat_inj.1 (Nat.eq_of_beq_eq_true h)
noncomputable def eqS (s t : ByteArray) : Bool := eqL eqC s.data.toList t.data.toList
noncomputable def eq1 (v w : Value) : Bool := match v with
  | .bool a => match w with | .bool b => decide (a = b) | _ => false
  | .int k a => match w with | .int l b => decide (k = l) && decide (a = b) | _ => false
  | .float k a => match w with | .float l b => decide (k = l) && Nat.beq a b | _ => false
  | .complex k a b => match w with | .complex l c d => decide (k = l) && (Nat.beq a c && Nat.beq b d) | _ => false
  | .string s => match w with | .string t => eqS s t | _ => false
  | _ => false
noncomputable def eqV (v w : Value) : Bool := match v with
  | .agg a => match w with | .agg b => eqL eq1 a.toList b.toList | _ => false
  | _ => eq1 v w
structure Fact where
  f : FuncId
  args : List Value
  v : Value
def Fact.ok (x : Fact) : Prop := plains x.args = true ∧ plain3 x.v = true ∧ ∀ w : World, Tryz.prog.globals.size ≤ w.heap.size → Tab w → Calls Tryz.prog x.f ⟨x.args⟩ w fun e w' => e = .returned x.v ∧ Below w.heap.size w w'
theorem Fact.of_run {x : Fact} {n : Nat} (h : runs n x.f x.args = some x.v) (ha : plains x.args = true) : x.ok := by
  refine ⟨ha, ?_, fun w hG hT => runs_calls h ha hG hT⟩
  obtain ⟨_, _, _, _, _, hp, _⟩ := gives_ok h
  exact hp
noncomputable def look (f : FuncId) (args : List Value) (l : List Fact) : Option Value := List.rec (motive := fun _ => Option Value) none
  (fun x _ ih => Bool.rec (motive := fun _ => Option Value) ih (Bool.rec (motive := fun _ => Option Value) ih (some x.v) (eqL eqV x.args args)) (Nat.beq x.f f)) l
noncomputable def known (l : List Fact) : Sums Nat := fun f args => match look f args l with
  | some v => some (ret v)
  | none => natSums f args
end Ev
end Go.Proofs.YthjofdfnppadnaaGreatDoor
namespace Go.Proofs.YthjofdfnppadnaaGreatDoor
namespace R
structure Tru (A B a b p q r s : Nat) (t : Bool) : Prop where
  an : t = false → p * A = q * B + a
  bn : t = false → s * B = r * A + b
  at_ : t = true → q * B = p * A + a
  bt : t = true → r * A = s * B + b
  ha : A = s * a + q * b
  hb : B = r * a + p * b
  le : b ≤ a
theorem Tru.start {A B : Nat} (h : B ≤ A) : Tru A B A B 1 0 0 1 false :=
  ⟨fun _ => by omega, fun _ => by omega, fun h => (by cases h), fun h => (by cases h), by omega, by omega, h⟩
theorem Tru.step {A B a b p q r s k m : Nat} {t : Bool} (h : Tru A B a b p q r s t) (hd : a = k * b + m) (hm : m < b) : Tru A B b m r s (p + k * r) (q + k * s) (!t) := by
  obtain ⟨an, bn, at_, bt, ha, hb, le⟩ := h
  refine ⟨?_, ?_, ?_, ?_, by subst hd; grind, by subst hd; grind, Nat.le_of_lt hm⟩
  · intro ht
    have := bt (by cases t <;> first | rfl | cases ht)
    grind
  · intro ht
    have h1 := at_ (by cases t <;> first | rfl | cases ht)
    have h2 := bt (by cases t <;> first | rfl | cases ht)
    grind
  · intro ht
    have := bn (by cases t <;> first | rfl | cases ht)
    grind
  · intro ht
    have h1 := an (by cases t <;> first | rfl | cases ht)
    have h2 := bn (by cases t <;> first | rfl | cases ht)
    grind
theorem Tru.made {A B a b p q r s : Nat} {t : Bool} (h : Tru A B a b p q r s t) (hl : b < a) : Big.Made A B a b p q r s t :=
  ⟨h.an, h.bn, h.at_, h.bt, h.ha, h.hb, hl⟩
structure LI (A B x0 y0 K α β x y p q r s : Nat) (t : Bool) (a b : Nat) : Prop where
  L : Big.Lehm x0 y0 x y p q r s t
  T : Tru A B a b p q r s t
  k1 : t = false → q ≤ x ∧ r ≤ y
  k2 : t = true → p ≤ x ∧ s ≤ y
  xp : 1 ≤ x
  px : p ≤ x0
  qx : q ≤ x0
  rx : r ≤ x0
  sx : s ≤ x0
  hd : q = 0 ∧ p = 1 ∧ t = false ∨ 1 ≤ q ∧ 1 ≤ r ∧ b < a
theorem LI.start {A B x0 y0 K α β : Nat} (h : B ≤ A) (hx : 1 ≤ x0) : LI A B x0 y0 K α β x0 y0 1 0 0 1 false A B :=
  ⟨Big.Lehm.start x0 y0, Tru.start h, fun _ => ⟨by omega, by omega⟩, fun h => (by cases h), hx, hx, by omega, by omega, hx, .inl ⟨rfl, rfl, rfl⟩⟩
section
variable {A B x0 y0 K α β x y p q r s a b k : Nat} {t : Bool}
theorem LI.low (h : LI A B x0 y0 K α β x y p q r s false a b) (hA : A = x0 * K + α) (hB : B = y0 * K + β) : a + q * β = x * K + p * α ∧ b + r * α = y * K + s * β := by
  have f1 : p * x0 = q * y0 + x := by
    have d := h.L.dn rfl
    have hx := h.L.hx
    have hy := h.L.hy
    subst hx; subst hy; grind
  have f2 : s * y0 = r * x0 + y := by
    have d := h.L.dn rfl
    have hx := h.L.hx
    have hy := h.L.hy
    subst hx; subst hy; grind
  have g1 := h.T.an rfl
  have g2 := h.T.bn rfl
  rw [hA, hB] at g1 g2
  constructor <;> grind
theorem LI.high (h : LI A B x0 y0 K α β x y p q r s true a b) (hA : A = x0 * K + α) (hB : B = y0 * K + β) : a + p * α = x * K + q * β ∧ b + s * β = y * K + r * α := by
  have f1 : q * y0 = p * x0 + x := by
    have d := h.L.dt rfl
    have hx := h.L.hx
    have hy := h.L.hy
    subst hx; subst hy; grind
  have f2 : r * x0 = s * y0 + y := by
    have d := h.L.dt rfl
    have hx := h.L.hx
    have hy := h.L.hy
    subst hx; subst hy; grind
  have g1 := h.T.at_ rfl
  have g2 := h.T.bt rfl
  rw [hA, hB] at g1 g2
  constructor <;> grind
theorem quo_between {a b x y K P Q R S α β k : Nat} (h1 : a + Q * β = x * K + P * α) (h2 : b + R * α = y * K + S * β) (hα : α < K) (hβ : β < K) (hR : R ≤ y)
    (c1 : k * (y + S) + Q ≤ x) (c2 : x + P < (k + 1) * (y - R)) : k * b ≤ a ∧ a < (k + 1) * b := by
  have e1 : Q * β ≤ Q * K := Nat.mul_le_mul_left _ (Nat.le_of_lt hβ)
  have e2 : P * α ≤ P * K := Nat.mul_le_mul_left _ (Nat.le_of_lt hα)
  have e3 : R * α ≤ R * K := Nat.mul_le_mul_left _ (Nat.le_of_lt hα)
  have e4 : S * β ≤ S * K := Nat.mul_le_mul_left _ (Nat.le_of_lt hβ)
  have b1 : b ≤ (y + S) * K := by rw [Nat.add_mul]; omega
  have b2 : (y - R) * K ≤ b := by rw [Nat.sub_mul]; omega
  have a1 : a ≤ (x + P) * K := by rw [Nat.add_mul]; omega
  have a2 : x * K ≤ a + Q * K := by omega
  constructor
  · have f1 : k * b ≤ k * ((y + S) * K) := Nat.mul_le_mul_left _ b1
    have f2 : (k * (y + S) + Q) * K ≤ x * K := Nat.mul_le_mul_right _ c1
    rw [Nat.add_mul, Nat.mul_assoc] at f2
    omega
  · have f1 : (k + 1) * ((y - R) * K) ≤ (k + 1) * b := Nat.mul_le_mul_left _ b2
    have f2 : (x + P + 1) * K ≤ (k + 1) * (y - R) * K := Nat.mul_le_mul_right _ c2
    rw [Nat.mul_assoc, Nat.succ_mul] at f2
    omega
theorem LI.next (h : LI A B x0 y0 K α β x y p q r s t a b) (hA : A = x0 * K + α) (hB : B = y0 * K + β) (hα : α < K) (hβ : β < K)
    (c1 : t = false → r < y ∧ k * (y + s) + q ≤ x ∧ x + p < (k + 1) * (y - r)) (c2 : t = true → s < y ∧ k * (y + r) + p ≤ x ∧ x + q < (k + 1) * (y - s)) :
    k * r ≤ x0 ∧ k * s ≤ x0 ∧ k * y ≤ x ∧ LI A B x0 y0 K α β y (x - k * y) r s (p + k * r) (q + k * s) (!t) b (a - k * b) := by
  have hq : k * b ≤ a ∧ a < (k + 1) * b := by
    cases t with
    | false =>
      obtain ⟨l1, l2⟩ := h.low hA hB
      obtain ⟨d1, d2, d3⟩ := c1 rfl
      exact quo_between l1 l2 hα hβ (Nat.le_of_lt d1) d2 d3
    | true =>
      obtain ⟨l1, l2⟩ := h.high hA hB
      obtain ⟨d1, d2, d3⟩ := c2 rfl
      exact quo_between l1 l2 hβ hα (Nat.le_of_lt d1) d2 d3
  have hk : 1 ≤ k := by
    rcases Nat.eq_zero_or_pos k with e | e
    · subst e; have := h.T.le; omega
    · exact e
  have hy : 1 ≤ y := by
    cases t with
    | false => have := (c1 rfl).1; omega
    | true => have := (c2 rfl).1; omega
  have hkx : k * y ≤ x := by
    cases t with
    | false => have := (c1 rfl).2.1; rw [Nat.mul_add] at this; omega
    | true => have := (c2 rfl).2.1; rw [Nat.mul_add] at this; omega
  have hb : a - k * b < b := by have := hq.2; rw [Nat.succ_mul] at this; omega
  have L := h.L.step (Q := k) (m := x - k * y) (by omega) hk
  have S := L.small hy
  have hL1 := h.L.s1
  have hp : 1 ≤ p ∨ 1 ≤ r := by
    cases t with
    | false =>
      left
      rcases Nat.eq_zero_or_pos p with e | e
      · have := h.L.dn rfl; subst e; simp at this
      · exact e
    | true =>
      right
      rcases Nat.eq_zero_or_pos r with e | e
      · have := h.L.dt rfl; subst e; simp at this
      · exact e
  refine ⟨by omega, by omega, hkx, L, h.T.step (k := k) (m := a - k * b) (by omega) hb, ?_, ?_, hy, h.rx, h.sx, by omega, by omega, .inr ⟨hL1, ?_, hb⟩⟩
  · intro ht
    cases t with
    | false => simp at ht
    | true =>
      have d := c2 rfl
      have e := d.2.1
      rw [Nat.mul_add] at e
      exact ⟨Nat.le_of_lt d.1, by omega⟩
  · intro ht
    cases t with
    | true => simp at ht
    | false =>
      have d := c1 rfl
      have e := d.2.1
      rw [Nat.mul_add] at e
      exact ⟨Nat.le_of_lt d.1, by omega⟩
  · rcases hp with e | e
    · omega
    · have := Nat.mul_le_mul hk e; omega
end
end R
end Go.Proofs.YthjofdfnppadnaaGreatDoor
