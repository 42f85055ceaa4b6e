/- Contracts, in this order: nat: Shl, Bits. · exact: log2, nearestQuo. · The interpreter: package nat's functions, of what is known. · The interpreter: package nat's texts, and what it answers in · exact: Sub, Quo, Cmp. · exact: Frac. · exact: mayBeBytes, Read. · exact: Read, of what may be. · exact: sum, Of. -/
import Derived.Test.YtfmebfkdpfbjbaaGreatDoorEkq14
import Derived.Test.YtfmebfkdpfbjbaaGreatDoorEkq12
import Derived.Deep.RegionWith
import Derived.StillTailTactics
import Derived.Test.YtfmebfkdpfbjbaaGreatDoorEkq19
import Derived.Laws.IdiomStrings
import Derived.Test.YtfmebfkdpfbjbaaGreatDoorEkq18
namespace Go.Proofs.YtfmebfkdpfbjbaaGreatDoor
open Go.RowKit
set_option maxRecDepth 100000 in
theorem copy_run (W : World) (g off g2 n : Nat) (cur xs : List Nat) (hb : Blk W g 95 .u64 cur) (hs : Blk W g2 95 .u64 xs) (hx : xs.length = n) (hfit : off + n ≤ cur.length) (ty : TypeId) :
    ∃ W', (Builtin.copy_ #[69, 69] ty #[.slice (some ⟨g, off, none⟩) n n, .slice (some ⟨g2, 0, none⟩) n n]).run Tryz.prog W = .ok (.int .i64 (n : Int)) W' ∧
      Hid (Blk W' g 95 .u64 (cur.take off ++ (xs ++ cur.drop (off + n))) ∧ ∀ B w0, Below B w0 W → B ≤ g → Below B w0 W') := by
  subst hx
  have hu : (Tryz.prog.info? 95).map (·.size) = some 1 := by
    obtain ⟨i0, hi, -, hz1, -⟩ := info_parts Tryz.infoU64
    rw [hi]; simp [hz1]
  have hlen : (xs.map fun d => Value.int .u64 ((d : Nat) : Int)).length = xs.length := by simp
  have h := run_copy_row (P := Tryz.prog) W 69 69 ty 95 g off xs.length xs.length ⟨g2, 0, none⟩ xs.length xs.length (cellsOf .u64 cur) 95 (xs.map fun d => Value.int .u64 ((d : Nat) : Int))
    Tryz.underlying69 hu hb (by rw [hlen]; exact (Nat.min_self _).symm) (fun j v hv => by
      have hj : j < xs.length := by
        rcases Nat.lt_or_ge j xs.length with h | h
        · exact h
        · rw [List.getElem?_eq_none (by simpa using h)] at hv; cases hv
      rw [List.getElem?_map, List.getElem?_eq_getElem hj] at hv
      have := hs.cell j hj
      unfold Big.nth at this
      rw [List.getD_eq_getElem?_getD, List.getElem?_eq_getElem hj] at this
      simp at hv
      rw [← hv]
      unfold Addr.add
      split
      · rename_i h0; subst h0; simpa using this
      · simpa using this) (by rw [hlen]; simpa [cellsOf] using hfit) (by intro v hv; simp at hv; obtain ⟨_, _, rfl⟩ := hv; rfl)
  rw [hlen] at h
  refine ⟨_, h, Lib.hid ⟨?_, fun B w0 hB hg => below_setRow hB hg _⟩⟩
  have e := setRow_heap W g (cellsOf .u64 cur) ((cellsOf .u64 cur).toList.take off ++ (xs.map fun d => Value.int .u64 ((d : Nat) : Int)) ++ (cellsOf .u64 cur).toList.drop (off + xs.length)).toArray 95 _ hb
  unfold Blk
  rw [e]
  congr 2
  simp [cellsOf, List.map_drop, List.map_take]
def IsBits (n s : Nat) : Prop := (n = 0 ∧ s = 0) ∨ (1 ≤ s ∧ 2 ^ (s - 1) ≤ n ∧ n < 2 ^ s)
theorem M64_pow (k : Nat) : Big.M64 ^ k = 2 ^ (64 * k) := by rw [Big.M64_eq, show (18446744073709551616 : Nat) = 2 ^ 64 by decide, ← Nat.pow_mul]
theorem isBits_top {r : List Nat} {t b : Nat} (or : Big.Ok Big.M64 r) (h1 : 2 ^ (b - 1) ≤ t) (h2 : t < 2 ^ b) (hb : 1 ≤ b) : IsBits (Big.val Big.M64 (r ++ [t])) (64 * r.length + b) := by
  rw [Big.val_snoc, M64_pow]
  have hr := Big.val_lt r or
  rw [M64_pow] at hr
  refine .inr ⟨by omega, ?_, ?_⟩
  · rw [show 64 * r.length + b - 1 = 64 * r.length + (b - 1) by omega, Nat.pow_add]
    have := Nat.mul_le_mul_left (2 ^ (64 * r.length)) h1
    omega
  · rw [Nat.pow_add]
    have := Nat.mul_le_mul_left (2 ^ (64 * r.length)) (show t + 1 ≤ 2 ^ b from h2)
    rw [Nat.mul_add] at this
    omega
theorem bits_any (w : World) (v : Value) (n : Nat) (h : NatIn w v n) (hn : n < Big.M64 ^ Big.KX) :
    Calls Tryz.prog 227 #[v] w fun e w' => ∃ s : Nat, e = .returned (.int .i64 (s : Int)) ∧ IsBits n s ∧ s ≤ 64000000000 ∧ w = w' := by
  obtain ⟨l, hw, ol, nl, rfl⟩ := h
  have hl := len_of_lt nl hn
  rw [Big.KX_eq] at hl
  obtain ⟨A, c, rfl, h1, h2, h3⟩ := hw
  by_cases hne : l = []
  · subst hne
    clear hn h3 nl ol
    go_enter Tryz.func227, Tryz.ntmps227
    go_wp2
    go_ret
    exact ⟨0, rfl, .inl ⟨rfl, rfl⟩, by omega, rfl⟩
  · obtain ⟨r, t, rfl, ht0⟩ := norm_last nl hne
    have hlr : (r ++ [t]).length = r.length + 1 := by simp
    obtain ⟨b, o, rfl, hlt, hc, -⟩ := h3 (by omega)
    have hcell := hc r.length (by omega)
    have ent : Big.nth (r ++ [t]) r.length = t := by unfold Big.nth; rw [List.getD_eq_getElem?_getD, List.getElem?_append_right (Nat.le_refl _)]; simp
    rw [ent] at hcell
    have htM : t < 18446744073709551616 := by rw [← Big.M64_eq]; exact ol t (by simp)
    obtain ⟨b1, b2, b3, b4⟩ := bitLen_bd t htM ht0
    have HS := Lib.hid (isBits_top (b := Lib.bitLen t) (fun d hd => ol d (by simp [hd]) : Big.Ok Big.M64 r) b3 b4 b1)
    have hc0 : (((r ++ [t]).length : Int) == 0) = false := beq_eq_false_iff_ne.2 (by omega)
    have CL := Lib.hid (lz_any t htM)
    rw [hlr] at h1 hl hc0 ⊢
    clear h3 hc hlr ent b3 b4 htM hne nl ol hn
    generalize Lib.bitLen t = bl at *
    generalize Big.val Big.M64 (r ++ [t]) = N at *
    generalize r.length = m at *
    have hc1 : ((m : Int) + 1 == 0) = false := beq_eq_false_iff_ne.2 (by omega)
    go_enter Tryz.func227, Tryz.ntmps227
    go_wp2_with (go_at_call 120; refine (CL.out _).mono ?_; rintro e w' ⟨rfl, rfl⟩)
    go_ret
    refine ⟨_, ?_, HS.out, by omega, rfl⟩
    apply ret_int
    omega
theorem shl_val {l Z : List Nat} {d r : Nat} (oZ : Big.Ok Big.M64 Z) (hZ : Z.length = l.length + 1) (hv : Big.val Big.M64 Z = Big.val Big.M64 l * 2 ^ r) :
    Big.Ok Big.M64 ((List.replicate (d + (l.length + 1)) 0).take d ++ (Z ++ (List.replicate (d + (l.length + 1)) 0).drop (d + (l.length + 1)))) ∧ Big.val Big.M64 ((List.replicate (d + (l.length + 1)) 0).take d ++ (Z ++ (List.replicate (d + (l.length + 1)) 0).drop (d + (l.length + 1)))) = Big.val Big.M64 l * 2 ^ (64 * d + r) ∧
    ((List.replicate (d + (l.length + 1)) 0).take d ++ (Z ++ (List.replicate (d + (l.length + 1)) 0).drop (d + (l.length + 1)))).length = d + (l.length + 1) := by
  rw [List.drop_eq_nil_of_le (by simp), List.append_nil, List.take_replicate, show min d (d + (l.length + 1)) = d by omega]
  refine ⟨Big.Ok.append (fun x hx => by rw [List.mem_replicate] at hx; rw [hx.2]; exact Big.M64_pos) oZ, ?_, by simp [hZ]⟩
  rw [Big.val_append, Big.val_replicate, List.length_replicate, hv, M64_pow, Nat.pow_add, Nat.zero_add, Nat.mul_left_comm]
theorem alloc_sz (w : World) (o : Obj) : (w.alloc o).heap.size = w.heap.size + 1 := by simp
theorem shl_fin {w : World} {g d n x : Nat} {R : List Nat} (hd : d ≤ 1000000000) (hl : n ≤ 1000000000) (hb : Blk w g 95 .u64 R) (h : Big.Ok Big.M64 R ∧ Big.val Big.M64 R = x ∧ R.length = d + (n + 1)) :
    ∃ R : List Nat, Wd w .u64 (.slice (some ⟨g, 0, none⟩) (d + (n + 1)) (d + (n + 1))) R ∧ Big.Ok Big.M64 R ∧ Big.val Big.M64 R = x := by
  obtain ⟨h1, h2, h3⟩ := h
  refine ⟨R, ?_, h1, h2⟩
  have := hb.wd0 (d + (n + 1)) (by omega) (by omega)
  rwa [h3] at this
set_option maxRecDepth 100000 in
set_option maxHeartbeats 2000000 in
theorem shl_words (w : World) (v : Value) (l : List Nat) (d r : Nat) (h : Wd w .u64 v l) (ol : Big.Ok Big.M64 l) (hl0 : l.length ≠ 0) (hr : r ≤ 63) (hd : d ≤ 1000000000) (h0 : 64 * d + r ≠ 0) (hl : l.length ≤ 1000000000) :
    Calls Tryz.prog 228 #[v, .int .i64 ((64 * d + r : Nat) : Int)] w fun e w' => ∃ v', e = .returned v' ∧ NatIn w' v' (Big.val Big.M64 l * 2 ^ (64 * d + r)) ∧ Below w.heap.size w w' := by
  obtain ⟨i0, hi, hz0, hz1, hz2⟩ := info_parts Tryz.infoU64
  have hmk := fun W => make_words (P := Tryz.prog) Tryz.underlying69 hi hz0 hz1 (by rw [hz2]; omega) .i64 .i64 (d + (l.length + 1)) (d + (l.length + 1)) (Nat.le_refl _) (by omega) W
  rw [show ((d + (l.length + 1) : Nat) : Int) = (d : Int) + (l.length : Int) + 1 by omega] at hmk
  have hu : (Tryz.prog.info? 95).map (·.size) = some 1 := by rw [hi]; simp [hz1]
  have hb0 : Blk (w.alloc (.cells (cellsOf .u64 (List.replicate (d + (l.length + 1)) 0)) 95)) w.heap.size 95 .u64 (List.replicate (d + (l.length + 1)) 0) := Blk.new _ _ _ _
  have hbel0 : Below w.heap.size w (w.alloc (.cells (cellsOf .u64 (List.replicate (d + (l.length + 1)) 0)) 95)) := (Below.refl _ _).alloc (Nat.le_refl _) _
  have hw0 : Wd (w.alloc (.cells (cellsOf .u64 (List.replicate (d + (l.length + 1)) 0)) 95)) .u64 v l := Wd.keep h hbel0
  have H0 := Lib.hid (And.intro hb0 (And.intro hbel0 hw0))
  have CS := Lib.hid (show ∀ W (hW : Wd W .u64 v l) (hs : W.heap.size = w.heap.size + 1), Calls Tryz.prog 183 #[v, .int .i64 (r : Int)] W fun e w' => e = .returned (.slice (some ⟨w.heap.size + 1, 0, none⟩) (l.length + 1) (l.length + 1)) ∧
      ∃ Z, Blk w' (w.heap.size + 1) 95 .u64 Z ∧ Z.length = l.length + 1 ∧ Big.Ok Big.M64 Z ∧ Big.val Big.M64 Z = Big.val Big.M64 l * 2 ^ r ∧ Below (w.heap.size + 1) W w' from fun W hW hs => by
    have h := shifted_any W v l r hW ol hr hl
    rw [hs] at h; exact h)
  have hsz : ((w.alloc (.cells (cellsOf .u64 (List.replicate (d + (l.length + 1)) 0)) 95)).drew).heap.size = w.heap.size + 1 := alloc_sz w _
  have HSZ := Lib.hid hsz
  have HV := Lib.hid (fun Z (o : Big.Ok Big.M64 Z) e1 e2 => shl_val (l := l) (d := d) (r := r) (Z := Z) o e1 e2)
  obtain ⟨n, hn⟩ : ∃ n : Int, ((64 * d + r : Nat) : Int) = n := ⟨_, rfl⟩
  have q1 : Int.tdiv n 64 = d := by subst hn; rw [Int.tdiv_eq_ediv_of_nonneg (Int.natCast_nonneg _)]; omega
  have q2 : Int.tmod n 64 = r := by subst hn; rw [Int.tmod_eq_emod_of_nonneg (Int.natCast_nonneg _)]; omega
  have q3 : (n ≤ 0) = False := by rw [eq_iff_iff, iff_false]; omega
  rw [hn]
  have hc0 : ((l.length : Int) == 0) = false := beq_eq_false_iff_ne.2 (by omega)
  obtain ⟨A, c, rfl, h1, h2, h3⟩ := h
  clear hb0 hbel0 hw0 h3 ol hn hsz
  have hcap : ¬ (d + (l.length + 1) = d) := by omega
  have hcap2 : d + (l.length + 1) - d = l.length + 1 := by omega
  have hw3 : (d : Int) ≤ (d : Int) + (l.length + 1 : Int) := by omega
  have hwr : IntKind.i64.wrap ((d : Nat) : Int) = (d : Int) := by rw [IntKind.wrap_i64]; omega
  go_enter Tryz.func228, Tryz.ntmps228
  go_wp2_with fail
  go_region_with (first
    | (go_at_call 183; (with_reducible refine (CS.out _ (H0.out.2.2.keep (Below.refl _ _).drew) HSZ.out).mono ?_); rintro e w2 ⟨rfl, Z, hB, hZ, oZ, vZ, hw2⟩; obtain ⟨w3, hcp, HC⟩ := copy_run w2 w.heap.size d (w.heap.size + 1) _ _ _ (Blk.below' (H0.out.1.drewN 1) hw2 (Nat.lt_succ_self _)) hB hZ (by simp) 3;
       have HF := Lib.hid (shl_fin hd hl HC.out.1 (HV.out Z oZ hZ vZ)); have HBel := Lib.hid (HC.out.2 _ _ ((H0.out.2.1.drew).trans (hw2.mono (Nat.le_succ _))) (Nat.le_refl _)); clear HC hB hZ oZ vZ hw2))
  all_goals
    go_wp2_with (go_at_call 113; (with_reducible refine (trim_any _ _ _ HF.out.choose_spec.1).mono ?_); rintro e w' ⟨v', rfl, hv', rfl⟩)
    go_ret
    exact ⟨v', rfl, ⟨_, hv', Big.strip_ok HF.out.choose_spec.2.1, Big.strip_norm _, by rw [Big.strip_val, HF.out.choose_spec.2.2]⟩, HBel.out⟩
theorem shl_any (w : World) (v : Value) (x : Nat) (n : Int) (h : NatIn w v x) (hx : x < Big.M64 ^ Big.KX) (hn : n ≤ 64000000000) :
    Calls Tryz.prog 228 #[v, .int .i64 n] w fun e w' => ∃ v', e = .returned v' ∧ NatIn w' v' (x * 2 ^ n.toNat) ∧ Below w.heap.size w w' := by
  have HN := h
  obtain ⟨l, h1, h2, h3, rfl⟩ := h
  have hl := len_of_lt h3 hx
  rw [Big.KX_eq] at hl
  by_cases l0 : l.length = 0
  · obtain rfl : l = [] := List.eq_nil_of_length_eq_zero l0
    have H := Lib.hid HN
    obtain ⟨A, c, rfl, -, -, -⟩ := h1
    simp only [Big.val, Nat.zero_mul]
    clear hx hn h2 h3 hl HN
    go_enter Tryz.func228, Tryz.ntmps228
    go_wp2
    go_ret
    exact ⟨_, rfl, H.out, Below.refl _ _⟩
  by_cases n0 : n ≤ 0
  · have H := Lib.hid HN
    obtain ⟨A, c, rfl, -, -, -⟩ := h1
    have t1 : ((l.length : Int) == 0) = false := beq_eq_false_iff_ne.2 (by omega)
    rw [show n.toNat = 0 by omega, Nat.pow_zero, Nat.mul_one]
    generalize Big.val Big.M64 l = X at *
    clear hx hn h2 h3 hl HN l0
    go_enter Tryz.func228, Tryz.ntmps228
    go_wp2
    go_ret
    exact ⟨_, rfl, H.out, Below.refl _ _⟩
  obtain ⟨N, rfl⟩ : ∃ N : Nat, n = N := ⟨n.toNat, by omega⟩
  rw [Int.toNat_natCast]
  have e : 64 * (N / 64) + N % 64 = N := Nat.div_add_mod N 64
  have C := shl_words w v l (N / 64) (N % 64) h1 h2 l0 (by omega) (by omega) (by omega) hl
  rw [e] at C
  exact C
theorem isBits_fn {n s t : Nat} (h : IsBits n s) (k : IsBits n t) : s = t := by
  rcases h with ⟨rfl, rfl⟩ | ⟨h1, h2, h3⟩ <;> rcases k with ⟨k0, rfl⟩ | ⟨k1, k2, k3⟩
  · rfl
  · have := Nat.pow_pos (n := t - 1) (show 0 < 2 by omega); omega
  · have := Nat.pow_pos (n := s - 1) (show 0 < 2 by omega); omega
  · rcases Nat.lt_trichotomy s t with h | h | h
    · have := Nat.pow_le_pow_right (show 0 < 2 by omega) (show s ≤ t - 1 by omega); omega
    · exact h
    · have := Nat.pow_le_pow_right (show 0 < 2 by omega) (show t ≤ s - 1 by omega); omega
end Go.Proofs.YtfmebfkdpfbjbaaGreatDoor
namespace Go.Proofs.YtfmebfkdpfbjbaaGreatDoor
open Go.RowKit
def bitsN (n : Nat) : Nat := if n = 0 then 0 else Nat.log2 n + 1
theorem bitsN_is (n : Nat) : IsBits n (bitsN n) := by
  unfold bitsN
  split
  · rename_i h; exact .inl ⟨h, rfl⟩
  · rename_i h
    refine .inr ⟨by omega, ?_, Nat.lt_log2_self⟩
    rw [Nat.add_sub_cancel]; exact Nat.log2_self_le h
theorem bits_num (w : World) (v : Value) (n k : Nat) (h : NatIn w v n) (hn : Sz k n) (hk : k ≤ 100000000) :
    Calls Tryz.prog 227 #[v] w fun e w' => e = .returned (.int .i64 ((bitsN n : Nat) : Int)) ∧ w = w' :=
  (bits_any w v n h (hn.kx hk)).mono fun _ _ ⟨s, h1, h2, _, h3⟩ => ⟨by rw [h1, isBits_fn h2 (bitsN_is n)], h3⟩
theorem shl_num (w : World) (v : Value) (n k : Nat) (s : Int) (h : NatIn w v n) (hn : Sz k n) (hk : k ≤ 100000000) (hs : s ≤ 64000000000) :
    Calls Tryz.prog 228 #[v, .int .i64 s] w (Nat1 w (n * 2 ^ s.toNat)) := shl_any w v n s h (hn.kx hk) hs
end Go.Proofs.YtfmebfkdpfbjbaaGreatDoor
namespace Go.Proofs.YtfmebfkdpfbjbaaGreatDoor
open Go Go.RowKit
namespace Ev
section
variable {h h' : Tr (Blk Nat)} {nx nx' : Nat} {R W : List Nat} {r : Ren} {w : World} {v : Value}
def Goes (f : FuncId) (args' : List Value) (r : Ren) (w : World) (nx nx' : Nat) (W : List Nat) (g' : Nat → Option (Blk Nat)) (v : Value) : Prop :=
  Calls Tryz.prog f ⟨args'⟩ w fun e w' => ∃ v' r', e = .returned v' ∧ VR r' v v' ∧ Ext natSig r w nx nx' W g' r' w'
theorem goes_new {N : Nat} {f : FuncId} {args' : List Value} (e : (newFact N : M Nat Value) h nx = .ok v h' nx' R W) (hM : Mod natSig r h.get w) (hN : New r nx nx') (c : Calls Tryz.prog f ⟨args'⟩ w (Nat1 w N)) : Goes f args' r w nx nx' W h'.get v := by
  obtain ⟨i, h1, nx1, R1, W1, R2, W2, e1, e2, rfl, rfl⟩ := bind_ok e
  obtain ⟨rfl, rfl, rfl, rfl⟩ := ret_ok e2
  unfold fresh at e1
  cases e1
  refine c.mono ?_
  rintro en w' ⟨v', rfl, hv, hb⟩
  obtain ⟨r', hX, hr⟩ := ext_fact (S := natSig) (f := N) hM hb hN hv (nat_one hv)
  exact ⟨v', r', rfl, .opq hr (nat_one hv), by simpa using hX.congr fun n => .inr (Tr.get_set _ _ _ _)⟩
theorem goes_val {u : Value} {f : FuncId} {args' : List Value} (e : (ret u : M Nat Value) h nx = .ok v h' nx' R W) (hp : plain2 u = true) (hM : Mod natSig r h.get w) (c : Calls Tryz.prog f ⟨args'⟩ w fun e w' => e = .returned u ∧ Below w.heap.size w w') : Goes f args' r w nx nx' W h'.get v := by
  obtain ⟨rfl, rfl, rfl, rfl⟩ := ret_ok e
  refine c.mono ?_
  rintro en w' ⟨rfl, hb⟩
  exact ⟨_, r, rfl, VR.same2 hp, ext_below hM hb _⟩
theorem same_below {f : FuncId} {args' : List Value} {u : Value} (c : Calls Tryz.prog f ⟨args'⟩ w fun e w' => e = .returned u ∧ w = w') : Calls Tryz.prog f ⟨args'⟩ w fun e w' => e = .returned u ∧ Below w.heap.size w w' :=
  c.mono fun _ _ ⟨h1, h2⟩ => ⟨h1, h2 ▸ Below.refl _ _⟩
theorem drew_below {f : FuncId} {args' : List Value} {u : Value} (c : Calls Tryz.prog f ⟨args'⟩ w fun e w' => e = .returned u ∧ Drew w w') : Calls Tryz.prog f ⟨args'⟩ w fun e w' => e = .returned u ∧ Below w.heap.size w w' :=
  c.mono fun _ _ ⟨h1, h2⟩ => ⟨h1, h2.below _⟩
noncomputable def small (n : Nat) : Bool := Nat.ble (Nat.log2 n) 60000
theorem m64_log {n k : Nat} (h : Nat.log2 n + 1 ≤ 64 * k) : n < Big.M64 ^ k := by
  have hM : ∀ k, Big.M64 ^ k = 2 ^ (64 * k) := fun k => by rw [Nat.pow_mul]; rfl
  rw [hM]
  exact Nat.lt_of_lt_of_le Nat.lt_log2_self (Nat.pow_le_pow_right (by omega) h)
theorem sz_log {n k : Nat} (h : Nat.log2 n + 1 ≤ 64 * k) : Sz k n := ⟨m64_log h⟩
theorem sz_small {n : Nat} (h : small n = true) : Sz 1000 n := by
  have h1 := Nat.le_of_ble_eq_true h
  exact sz_log (by omega)
noncomputable def two (args : List Value) (k : Nat → Nat → M Nat Value) : Option (M Nat Value) := match args with
  | [a, b] => some (bind (natV a) fun n => bind (natV b) fun m => cond (small n && small m) (k n m) fail)
  | _ => none
noncomputable def one (args : List Value) (k : Nat → M Nat Value) : Option (M Nat Value) := match args with
  | [a] => some (bind (natV a) fun n => cond (small n) (k n) fail)
  | _ => none
theorem two_ok {f : FuncId} {k : Nat → Nat → M Nat Value} (hl : ∀ n m, Loc (k n m)) (hk : ∀ n m (h : Tr (Blk Nat)) nx v h' nx' R W, k n m h nx = .ok v h' nx' R W → ∀ r w a b, NatIn w a n → NatIn w b m → Sz 1000 n → Sz 1000 m → Mod natSig r h.get w → New r nx nx' → Goes f [a, b] r w nx nx' W h'.get v) :
    SumF natSig Tryz.prog f (fun args => two args k) := by
  intro args m e
  unfold two at e
  rcases args with _ | ⟨a, _ | ⟨b, _ | ⟨c, l⟩⟩⟩ <;> simp only [reduceCtorEq, Option.some.injEq] at e
  subst e
  refine ⟨loc_bind (loc_natV a) fun n => loc_bind (loc_natV b) fun m => loc_cond (hl n m) loc_fail, ?_⟩
  intro h nx v h' nx' R W e r w args' ha hM hN
  cases ha with
  | cons ha1 ha2 =>
    cases ha2 with
    | cons hb1 hb2 =>
      cases hb2
      obtain ⟨n, h1, nx1, R1, W1, R2, W2, e1, e2, rfl, rfl⟩ := bind_ok e
      obtain ⟨rfl, rfl, rfl, hn⟩ := natV_ok e1 ha1 hM
      obtain ⟨m, h2, nx2, R3, W3, R4, W4, e3, e4, rfl, rfl⟩ := bind_ok e2
      obtain ⟨rfl, rfl, rfl, hm⟩ := natV_ok e3 hb1 hM
      obtain ⟨hs, e5⟩ := cond_ok e4
      simp only [Bool.and_eq_true] at hs
      simpa [Goes] using hk n m _ _ _ _ _ _ _ e5 r w _ _ hn hm (sz_small hs.1) (sz_small hs.2) hM hN
theorem one_ok {f : FuncId} {k : Nat → M Nat Value} (hl : ∀ n, Loc (k n)) (hk : ∀ n (h : Tr (Blk Nat)) nx v h' nx' R W, k n h nx = .ok v h' nx' R W → ∀ r w a, NatIn w a n → Sz 1000 n → Mod natSig r h.get w → New r nx nx' → Goes f [a] r w nx nx' W h'.get v) :
    SumF natSig Tryz.prog f (fun args => one args k) := by
  intro args m e
  unfold one at e
  rcases args with _ | ⟨a, _ | ⟨c, l⟩⟩ <;> simp only [reduceCtorEq, Option.some.injEq] at e
  subst e
  refine ⟨loc_bind (loc_natV a) fun n => loc_cond (hl n) loc_fail, ?_⟩
  intro h nx v h' nx' R W e r w args' ha hM hN
  cases ha with
  | cons ha1 ha2 =>
    cases ha2
    obtain ⟨n, h1, nx1, R1, W1, R2, W2, e1, e2, rfl, rfl⟩ := bind_ok e
    obtain ⟨rfl, rfl, rfl, hn⟩ := natV_ok e1 ha1 hM
    obtain ⟨hs, e5⟩ := cond_ok e2
    simpa [Goes] using hk n _ _ _ _ _ _ _ e5 r w _ hn (sz_small hs) hM hN
theorem sum_add : SumF natSig Tryz.prog 179 (fun args => two args fun n m => newFact (Nat.add n m)) :=
  two_ok (fun _ _ => loc_newFact _) fun n m h nx v h' nx' R W e r w a b hn hm sn sm hM hN => goes_new e hM hN (add_num w a b n m _ _ hn hm sn sm (by omega) (by omega))
theorem sum_sub : SumF natSig Tryz.prog 180 (fun args => two args fun n m => newFact (Nat.sub n m)) :=
  two_ok (fun _ _ => loc_newFact _) fun n m h nx v h' nx' R W e r w a b hn hm sn sm hM hN => goes_new e hM hN (sub_num w a b n m _ hn hm sn (by omega))
theorem sum_mul : SumF natSig Tryz.prog 102 (fun args => two args fun n m => newFact (Nat.mul n m)) :=
  two_ok (fun _ _ => loc_newFact _) fun n m h nx v h' nx' R W e r w a b hn hm sn sm hM hN => goes_new e hM hN (mul_num w a b n m _ _ hn hm sn sm (by omega) (by omega))
theorem sum_quo : SumF natSig Tryz.prog 110 (fun args => two args fun n m => newFact (Nat.div n m)) :=
  two_ok (fun _ _ => loc_newFact _) fun n m h nx v h' nx' R W e r w a b hn hm sn sm hM hN => goes_new e hM hN (quo_num w a b n m _ hn hm sn (by omega))
theorem sum_gcd : SumF natSig Tryz.prog 60 (fun args => two args fun n m => newFact (Nat.gcd n m)) :=
  two_ok (fun _ _ => loc_newFact _) fun n m h nx v h' nx' R W e r w a b hn hm sn sm hM hN => goes_new e hM hN (gcd_num w a b n m _ _ hn hm sn sm (by omega) (by omega))
theorem sum_cmp : SumF natSig Tryz.prog 103 (fun args => two args fun n m => ret (.int .i64 (Big.cmpI n m))) :=
  two_ok (fun _ _ => loc_ret _) fun n m h nx v h' nx' R W e r w a b hn hm _ _ hM _ => goes_val e rfl hM (drew_below (cmp_num w a b n m hn hm))
theorem sum_isOne : SumF natSig Tryz.prog 61 (fun args => one args fun n => ret (.bool (decide (n = 1)))) :=
  one_ok (fun _ => loc_ret _) fun n h nx v h' nx' R W e r w a hn _ hM _ => goes_val e rfl hM ((isOne_num w a n hn).mono fun _ _ hh => by obtain ⟨h1, h2⟩ := hh; exact ⟨h1, by first | exact h2.below _ | exact h2 ▸ Below.refl _ _⟩)
theorem sum_size : SumF natSig Tryz.prog 62 (fun args => one args fun n => ret (.int .i64 ((szN n : Nat) : Int))) :=
  one_ok (fun _ => loc_ret _) fun n h nx v h' nx' R W e r w a hn sn hM _ => goes_val e rfl hM (same_below (size_num w a n _ hn sn (by omega)))
theorem sum_bytes : SumF natSig Tryz.prog 112 (fun args => one args fun n => ret (.string (bst n))) :=
  one_ok (fun _ => loc_ret _) fun n h nx v h' nx' R W e r w a hn sn hM _ => goes_val e rfl hM (bytes_num w a n _ hn sn (by omega))
theorem sum_shl : SumF natSig Tryz.prog 228 (fun args => match args with
    | [a, b] => match b with
      | .int k s => cond (decide (k = .i64) && decide (s ≤ 64000000000)) (some (bind (natV a) fun n => cond (small n) (newFact (n * 2 ^ s.toNat)) fail)) none
      | _ => none
    | _ => none) := by
  intro args m e
  rcases args with _ | ⟨a, _ | ⟨b, _ | ⟨c, l⟩⟩⟩ <;> simp only [reduceCtorEq] at e
  cases b with
  | int k s =>
    simp only at e
    cases hk : (decide (k = .i64) && decide (s ≤ 64000000000)) with
    | false => rw [hk] at e; cases e
    | true =>
      rw [hk] at e
      simp only [cond_true, Option.some.injEq] at e
      subst e
      simp only [Bool.and_eq_true, decide_eq_true_eq] at hk
      refine ⟨loc_bind (loc_natV a) fun n => loc_cond (loc_newFact _) loc_fail, ?_⟩
      intro h nx v h' nx' R W e r w args' ha hM hN
      cases ha with
      | cons ha1 ha2 =>
        cases ha2 with
        | cons hb1 hb2 =>
          cases hb2
          obtain ⟨n, h1, nx1, R1, W1, R2, W2, e1, e2, rfl, rfl⟩ := bind_ok e
          obtain ⟨rfl, rfl, rfl, hn⟩ := natV_ok e1 ha1 hM
          obtain ⟨hs, e5⟩ := cond_ok e2
          have hb := hb1.int
          subst hb
          rw [hk.1]
          simpa [Goes] using goes_new e5 hM hN (shl_num w _ n _ s hn (sz_small hs) (by omega) hk.2)
  | _ => simp at e
theorem sum_of : SumF natSig Tryz.prog 100 (fun args => match args with
    | [a] => match a with
      | .int k s => match s with
        | .ofNat n => cond (decide (k = .u64) && Nat.ble (Nat.succ n) 18446744073709551616) (some (newFact n)) none
        | _ => none
      | _ => none
    | _ => none) := by
  intro args m e
  rcases args with _ | ⟨a, _ | ⟨c, l⟩⟩ <;> simp only [reduceCtorEq] at e
  cases a with
  | int k s =>
    cases s with
    | negSucc _ => simp at e
    | ofNat n =>
      simp only at e
      cases hk : (decide (k = .u64) && Nat.ble (Nat.succ n) 18446744073709551616) with
      | false => rw [hk] at e; cases e
      | true =>
        rw [hk] at e
        simp only [cond_true, Option.some.injEq] at e
        subst e
        simp only [Bool.and_eq_true, decide_eq_true_eq] at hk
        have hlt : n < 18446744073709551616 := Nat.le_of_ble_eq_true hk.2
        refine ⟨loc_newFact _, ?_⟩
        intro h nx v h' nx' R W e r w args' ha hM hN
        cases ha with
        | cons ha1 ha2 =>
          cases ha2
          have hb := ha1.int
          subst hb
          rw [hk.1]
          exact goes_new e hM hN (of_num w n hlt)
  | _ => simp at e
theorem sum_fromBytes : SumF natSig Tryz.prog 59 (fun args => match args with
    | [a] => match a with
      | .string s => cond (Nat.ble s.size 100000) (some (newFact (Big.bnum s.data.toList))) none
      | _ => none
    | _ => none) := by
  intro args m e
  rcases args with _ | ⟨a, _ | ⟨c, l⟩⟩ <;> simp only [reduceCtorEq] at e
  cases a with
  | string s =>
    simp only at e
    cases hk : Nat.ble s.size 100000 with
    | false => rw [hk] at e; cases e
    | true =>
      rw [hk] at e
      simp only [cond_true, Option.some.injEq] at e
      subst e
      have hlt : s.size ≤ 100000 := Nat.le_of_ble_eq_true hk
      refine ⟨loc_newFact _, ?_⟩
      intro h nx v h' nx' R W e r w args' ha hM hN
      cases ha with
      | cons ha1 ha2 =>
        cases ha2
        have hb := ha1.str
        subst hb
        exact goes_new e hM hN (fromBytes_any w s (by omega))
  | _ => simp at e
end
end Ev
end Go.Proofs.YtfmebfkdpfbjbaaGreatDoor
namespace Go.Proofs.YtfmebfkdpfbjbaaGreatDoor
open Go Go.RowKit
namespace Ev
noncomputable def digF (k : Nat) : Nat → List UInt8 → List UInt8 :=
  Nat.rec (motive := fun _ => Nat → List UInt8 → List UInt8) (fun _ acc => acc) (fun _ ih u acc => cond (Nat.ble 10 u) (ih (Nat.div u 10) (UInt8.ofNat (48 + Nat.mod u 10) :: acc)) (UInt8.ofNat (48 + u) :: acc)) k
theorem digF_eq : ∀ (k u : Nat) (acc : List UInt8), u < 10 ^ k → 1 ≤ k → digF k u acc = Lib.decDigits u ++ acc
  | 0, _, _, _, h => absurd h (by omega)
  | k + 1, u, acc, h, _ => by
    show cond (Nat.ble 10 u) (digF k (Nat.div u 10) (UInt8.ofNat (48 + Nat.mod u 10) :: acc)) (UInt8.ofNat (48 + u) :: acc) = _
    cases hb : Nat.ble 10 u with
    | false =>
      have h10 : u < 10 := by
        rcases Nat.lt_or_ge u 10 with h1 | h1
        · exact h1
        · rw [Nat.ble_eq_true_of_le h1] at hb; cases hb
      rw [Lib.decDigits_one h10]; rfl
    | true =>
      have h10 := Nat.le_of_ble_eq_true hb
      rw [cond_true]
      have hk : 1 ≤ k := by
        rcases Nat.eq_zero_or_pos k with h0 | h0
        · subst h0; simp at h; omega
        · exact h0
      have hd : u / 10 < 10 ^ k := by
        rw [Nat.pow_succ] at h
        exact Nat.div_lt_of_lt_mul (by rw [Nat.mul_comm]; exact h)
      show digF k (u / 10) (UInt8.ofNat (48 + u % 10) :: acc) = _
      rw [digF_eq k (u / 10) _ hd hk, Big.dec_big (by omega : ¬ u < 10), List.append_assoc]
      rfl
noncomputable def digs (n : Nat) : List UInt8 := digF (Nat.succ (Nat.log2 n)) n []
theorem digs_eq (n : Nat) : digs n = Lib.decDigits n := by
  unfold digs
  have h : n < 2 ^ (Nat.log2 n + 1) := Nat.lt_log2_self
  rw [digF_eq _ _ _ (Nat.lt_of_lt_of_le h (Nat.pow_le_pow_left (by omega) _)) (by omega), List.append_nil]
section
variable {h h' : Tr (Blk Nat)} {nx nx' : Nat} {R W : List Nat} {r : Ren} {w : World} {v : Value}
theorem goes_new2 {N M' : Nat} {f : FuncId} {args' : List Value} (e : (bind (newFact N) fun x => bind (newFact M') fun y => ret (.tuple ⟨[x, y]⟩) : M Nat Value) h nx = .ok v h' nx' R W) (hM : Mod natSig r h.get w) (hN : New r nx nx')
    (c : Calls Tryz.prog f ⟨args'⟩ w fun e w' => ∃ a b, e = .returned (.tuple ⟨[a, b]⟩) ∧ NatIn w' a N ∧ NatIn w' b M' ∧ Below w.heap.size w w') : Goes f args' r w nx nx' W h'.get v := by
  obtain ⟨x, h0, nx0, R0, W0, R3, W3, e0, e3, rfl, rfl⟩ := bind_ok e
  obtain ⟨i, h1, nx1, R1, W1, R2, W2, e1, e2, rfl, rfl⟩ := bind_ok e0
  obtain ⟨rfl, rfl, rfl, rfl⟩ := ret_ok e2
  unfold fresh at e1
  cases e1
  obtain ⟨y, h4, nx4, R4, W4, R5, W5, e4, e5, rfl, rfl⟩ := bind_ok e3
  obtain ⟨rfl, rfl, rfl, rfl⟩ := ret_ok e5
  obtain ⟨j, h6, nx6, R6, W6, R7, W7, e6, e7, rfl, rfl⟩ := bind_ok e4
  obtain ⟨rfl, rfl, rfl, rfl⟩ := ret_ok e7
  unfold fresh at e6
  cases e6
  refine c.mono ?_
  rintro en w' ⟨a, b, rfl, ha, hb', hb⟩
  obtain ⟨r1, hX, hr⟩ := ext_fact (S := natSig) (f := N) hM hb (hN.sub (Nat.le_refl _) (by omega)) ha (nat_one ha)
  have hN2 := New.after (hN.sub (lo' := nx) (hi' := nx + 1 + 1) (Nat.le_refl _) (by omega)) hX (by omega)
  obtain ⟨r2, hY, hs⟩ := ext_fact (S := natSig) (f := M') hX.mod (Below.refl _ w') hN2 hb' (nat_one hb')
  refine ⟨.tuple ⟨[a, b]⟩, r2, rfl, .tuple (.cons (.opq (hY.le.val _ _ hr) (nat_one ha)) (.cons (.opq hs (nat_one hb')) .nil)), ?_⟩
  have hZ := hX.trans hY (by omega) (by omega)
  refine Ext.congr (by simpa using hZ) fun n => .inr ?_
  rw [Tr.get_set, Tr.get_set]
end
theorem sum_bits : SumF natSig Tryz.prog 227 (fun args => one args fun n => ret (.int .i64 ((bitsN n : Nat) : Int))) :=
  one_ok (fun _ => loc_ret _) fun n h nx v h' nx' R W e r w a hn sn hM _ => goes_val e rfl hM (same_below (bits_num w a n _ hn sn (by omega)))
theorem sum_word : SumF natSig Tryz.prog 261 (fun args => one args fun n => ret (.tuple #[.int .u64 (((if n < Big.M64 then n else 0) : Nat) : Int), .bool (decide (n < Big.M64))])) :=
  one_ok (fun _ => loc_ret _) fun n h nx v h' nx' R W e r w a hn _ hM _ => goes_val e rfl hM (same_below (word2_any w a n hn))
theorem sum_text : SumF natSig Tryz.prog 154 (fun args => one args fun n => ret (.string ⟨⟨digs n⟩⟩)) :=
  one_ok (fun _ => loc_ret _) fun n h nx v h' nx' R W e r w a hn sn hM _ => goes_val e rfl hM (by
    rw [digs_eq]
    exact text_any w a n _ hn sn (by omega) (TabB.tab hM.base))
theorem sum_quoRem : SumF natSig Tryz.prog 116 (fun args => two args fun n m => bind (newFact (Nat.div n m)) fun x => bind (newFact (Nat.mod n m)) fun y => ret (.tuple ⟨[x, y]⟩)) :=
  two_ok (fun _ _ => loc_bind (loc_newFact _) fun _ => loc_bind (loc_newFact _) fun _ => loc_ret _) fun n m h nx v h' nx' R W e r w a b hn hm sn sm hM hN => goes_new2 e hM hN (quoRem_num w a b n m _ hn hm sn (by omega))
end Ev
end Go.Proofs.YtfmebfkdpfbjbaaGreatDoor
namespace Go.Proofs.YtfmebfkdpfbjbaaGreatDoor
open Go.RowKit
set_option maxRecDepth 100000 in
set_option maxHeartbeats 4000000 in
theorem exSub_any (w : World) (vx vy : Value) (q r : Rat) (k : Nat) (hx : NumIn w vx q) (hy : NumIn w vy r) (sx : Sm k q) (sy : Sm k r) (hk : k ≤ 10000000) :
    Calls Tryz.prog 51 #[vx, vy] w (Num1 w (q - r)) := by
  have HQ := Lib.hid hx; have HR := Lib.hid hy; have SN := Lib.hid sy.neg
  obtain ⟨A, l, c, A2, l2, c2, rfl, hx1, hx2⟩ := hx.is_agg
  obtain ⟨B, m, d, B2, m2, d2, rfl, hy1, hy2⟩ := hy.is_agg
  have HX := Lib.hid (And.intro hx1 hx2); have HY := Lib.hid (And.intro hy1 hy2)
  have SX := Lib.hid sx; have SY := Lib.hid sy
  have GX := Lib.hid (And.intro (@Big.ng_pos q) (And.intro (@Big.ng_pos r) (And.intro (Big.de_pos q) (Big.de_pos r))))
  rw [Rat.sub_eq_add_neg]
  clear hx hy hx1 hx2 hy1 hy2 sx sy GX HX HY
  generalize Big.ng q = nq at *
  generalize Big.ng r = nr at *
  go_enter Tryz.func51, Tryz.ntmps51
  go_wp2_with fail
  obtain ⟨X0, Y0, R0, B0⟩ := boxed3 w 71 71 (.bool nq) (.slice A l c) (.slice A2 l2 c2) (.bool nr) (.slice B m d) (.slice B2 m2 d2) (.bool false) (.slice none 0 0) (.slice none 0 0)
  have HX0 := Lib.hid X0; have HY0 := Lib.hid Y0; have HR0 := Lib.hid R0; have HB0 := Lib.hid B0
  clear X0 Y0 R0 B0
  generalize ((w.alloc (.cells #[.bool nq, .slice A l c, .slice A2 l2 c2] 71)).alloc (.cells #[.bool nr, .slice B m d, .slice B2 m2 d2] 71)).alloc (.cells #[.bool false, .slice none 0 0, .slice none 0 0] 71) = w0 at *
  have KX := Lib.hid (fun W (h : Below w0.heap.size w0 W) => And.intro (HX0.out.keep h).c0 (And.intro (HX0.out.keep h).c1 (And.intro (HX0.out.keep h).c2 (And.intro (HY0.out.keep h).c0 (And.intro (HY0.out.keep h).c1 (HY0.out.keep h).c2)))))
  have RES := Lib.hid (fun W (h : Below w0.heap.size w0 W) => HR0.out.keep h)
  have C1 := Lib.hid (fun W (h : Below w0.heap.size w0 W) => liftN h (exNeg_any W _ _ ((HR.out.keep HB0.out).keep h)))
  have C2 := Lib.hid (fun W v (hv : NumIn W v (-r)) (h : Below w0.heap.size w0 W) => liftN h (exAdd_any W _ v _ _ k ((HQ.out.keep HB0.out).keep h) hv SX.out SN.out hk))
  have KP := Lib.hid (fun W x y z (h : Below w0.heap.size w0 W) => show ((((W.setCell ⟨w.heap.size + 1 + 1, 0, none⟩ x).setCell ⟨w.heap.size + 1 + 1, 1, none⟩ y).setCell ⟨w.heap.size + 1 + 1, 2, none⟩ z).cell? ⟨w.heap.size, 0, none⟩ = some (.bool nq)) ∧ ((((W.setCell ⟨w.heap.size + 1 + 1, 0, none⟩ x).setCell ⟨w.heap.size + 1 + 1, 1, none⟩ y).setCell ⟨w.heap.size + 1 + 1, 2, none⟩ z).cell? ⟨w.heap.size, 1, none⟩ = some (.slice A l c)) ∧ ((((W.setCell ⟨w.heap.size + 1 + 1, 0, none⟩ x).setCell ⟨w.heap.size + 1 + 1, 1, none⟩ y).setCell ⟨w.heap.size + 1 + 1, 2, none⟩ z).cell? ⟨w.heap.size, 2, none⟩ = some (.slice A2 l2 c2)) ∧ ((((W.setCell ⟨w.heap.size + 1 + 1, 0, none⟩ x).setCell ⟨w.heap.size + 1 + 1, 1, none⟩ y).setCell ⟨w.heap.size + 1 + 1, 2, none⟩ z).cell? ⟨w.heap.size + 1, 0, none⟩ = some (.bool nr)) ∧ ((((W.setCell ⟨w.heap.size + 1 + 1, 0, none⟩ x).setCell ⟨w.heap.size + 1 + 1, 1, none⟩ y).setCell ⟨w.heap.size + 1 + 1, 2, none⟩ z).cell? ⟨w.heap.size + 1, 1, none⟩ = some (.slice B m d)) ∧ ((((W.setCell ⟨w.heap.size + 1 + 1, 0, none⟩ x).setCell ⟨w.heap.size + 1 + 1, 1, none⟩ y).setCell ⟨w.heap.size + 1 + 1, 2, none⟩ z).cell? ⟨w.heap.size + 1, 2, none⟩ = some (.slice B2 m2 d2)) from by exact ⟨put_cell (KX.out W h).1 (by omega) x y z, put_cell (KX.out W h).2.1 (by omega) x y z, put_cell (KX.out W h).2.2.1 (by omega) x y z, put_cell (KX.out W h).2.2.2.1 (by omega) x y z, put_cell (KX.out W h).2.2.2.2.1 (by omega) x y z, put_cell (KX.out W h).2.2.2.2.2 (by omega) x y z⟩)
  go_region_held3 (fun w' => w'.cell? ⟨w.heap.size, 0, none⟩ = some (.bool nq) ∧ w'.cell? ⟨w.heap.size, 1, none⟩ = some (.slice A l c) ∧ w'.cell? ⟨w.heap.size, 2, none⟩ = some (.slice A2 l2 c2) ∧ w'.cell? ⟨w.heap.size + 1, 0, none⟩ = some (.bool nr) ∧ w'.cell? ⟨w.heap.size + 1, 1, none⟩ = some (.slice B m d) ∧ w'.cell? ⟨w.heap.size + 1, 2, none⟩ = some (.slice B2 m2 d2))
    (first | exact KX.out _ (by first | assumption | exact Below.refl _ _ | exact below_drew (Below.refl _ _) | exact below_drew (by assumption)) | exact KP.out _ _ _ _ (by assumption))
    (first
      | (go_at_call 106; (with_reducible refine (C1.out _ (by first | assumption | exact Below.refl _ _ | exact below_drew (Below.refl _ _) | exact below_drew (by assumption))).mono ?_); rintro e w2 ⟨v2, rfl, hv2, hw2, hw2'⟩)
      | (go_at_call 55; (with_reducible refine (C2.out _ _ (by first | exact hv2 | exact hv2.keep (below_drew (Below.refl _ _))) (by first | assumption | exact Below.refl _ _ | exact below_drew (Below.refl _ _) | exact below_drew (by assumption))).mono ?_); rintro e w3 ⟨v3, rfl, hv3, hw3, hw3'⟩; have RR := RES.out _ hw3; have k0 := RR.c0; have k1 := RR.c1; have k2 := RR.c2; have f0 := RR.frozen 0; have f1 := RR.frozen 1; have f2 := RR.frozen 2; obtain ⟨A8, l8, c8, A9, l9, c9, rfl, h8, h9⟩ := hv3.is_agg; have HH := Lib.hid (And.intro h8 h9); clear hv3 h8 h9; obtain ⟨nz, hnz⟩ : ∃ z, Big.ng (q + -r) = z := ⟨_, rfl⟩; rw [hnz]; have HNZ := Lib.hid hnz; clear hnz)
      | fail)
  obtain ⟨D1, D2, D3⟩ := num_done (bb := nz) (show NumRes w3 _ _ from RR) (HB0.out.trans (hw3.mono HB0.out.size)) (by omega) HH.out.1 HH.out.2 HNZ.out.symm
  have HD1 := Lib.hid D1; have HD2 := Lib.hid D2; have HD3 := Lib.hid D3
  clear D1 D2 D3 k0 k1 k2 f0 f1 f2 RR
  generalize (((w3.setCell ⟨w.heap.size + 1 + 1, 0, none⟩ (.bool (nz))).setCell ⟨w.heap.size + 1 + 1, 1, none⟩ (.slice A8 l8 c8)).setCell ⟨w.heap.size + 1 + 1, 2, none⟩ (.slice A9 l9 c9)) = wz at HD1 HD2 HD3 ⊢
  have r0 := HD1.out.c0; have r1 := HD1.out.c1; have r2 := HD1.out.c2
  go_wp2_with fail
  exact bodyPost_ret (v := .agg #[.bool (nz), (.slice A8 l8 c8), (.slice A9 l9 c9)]) (by simp [results, Tryz.results51, go_sem, r0, r1, r2]) rfl ⟨_, rfl, HD2.out, HD3.out⟩
set_option maxRecDepth 100000 in
set_option maxHeartbeats 4000000 in
theorem exQuo_any (w : World) (vx vy : Value) (q r : Rat) (k : Nat) (hx : NumIn w vx q) (hy : NumIn w vy r) (sx : Sm k q) (sy : Sm k r) (hk : k ≤ 10000000) (h0 : Big.nu r ≠ 0) :
    Calls Tryz.prog 54 #[vx, vy] w (Num1 w (q / r)) := by
  have HQ := Lib.hid hx; have SN := Lib.hid (sy.inv h0)
  obtain ⟨A, l, c, A2, l2, c2, rfl, hx1, hx2⟩ := hx.is_agg
  obtain ⟨B, m, d, B2, m2, d2, rfl, hy1, hy2⟩ := hy.is_agg
  have HX := Lib.hid (And.intro hx1 hx2); have HY := Lib.hid (And.intro hy1 hy2)
  have SX := Lib.hid sx; have SY := Lib.hid sy
  have GX := Lib.hid (And.intro (@Big.ng_pos q) (And.intro (@Big.ng_pos r) (And.intro (Big.de_pos q) (Big.de_pos r))))
  rw [Rat.div_def]
  obtain ⟨i1, i2, i3⟩ := Big.inv_parts r h0
  have HI := Lib.hid (show NumIn w (.agg #[.bool (Big.ng r), .slice B2 m2 d2, .slice B m d]) r⁻¹ from ⟨_, _, by rw [i1], by rw [i2]; exact hy2, by rw [i3]; exact hy1⟩)
  have hm0 := hy1.len_zero
  have t0 : ((m : Int) == 0) = false := beq_eq_false_iff_ne.2 (by omega)
  clear hx hy hx1 hx2 hy1 hy2 sx sy GX HX HY i1 i2 i3 hm0 h0
  generalize Big.ng q = nq at *
  generalize Big.ng r = nr at *
  go_enter Tryz.func54, Tryz.ntmps54
  go_wp2_with fail
  obtain ⟨X0, Y0, R0, B0⟩ := boxed3 w 71 71 (.bool nq) (.slice A l c) (.slice A2 l2 c2) (.bool nr) (.slice B m d) (.slice B2 m2 d2) (.bool false) (.slice none 0 0) (.slice none 0 0)
  have HX0 := Lib.hid X0; have HY0 := Lib.hid Y0; have HR0 := Lib.hid R0; have HB0 := Lib.hid B0
  clear X0 Y0 R0 B0
  generalize ((w.alloc (.cells #[.bool nq, .slice A l c, .slice A2 l2 c2] 71)).alloc (.cells #[.bool nr, .slice B m d, .slice B2 m2 d2] 71)).alloc (.cells #[.bool false, .slice none 0 0, .slice none 0 0] 71) = w0 at *
  refine (exMul_any w0 _ _ _ _ k (HQ.out.keep HB0.out) (HI.out.keep HB0.out) SX.out SN.out hk).mono ?_
  rintro e w3 ⟨v3, rfl, hv3, hw3⟩
  have RR := HR0.out.keep hw3
  have k0 := RR.c0; have k1 := RR.c1; have k2 := RR.c2; have f0 := RR.frozen 0; have f1 := RR.frozen 1; have f2 := RR.frozen 2
  obtain ⟨A8, l8, c8, A9, l9, c9, rfl, h8, h9⟩ := hv3.is_agg
  have HH := Lib.hid (And.intro h8 h9)
  have HBF := Lib.hid (HB0.out.trans (hw3.mono HB0.out.size))
  clear hv3 h8 h9 hw3
  obtain ⟨nz, hnz⟩ : ∃ z, Big.ng (q * r⁻¹) = z := ⟨_, rfl⟩
  rw [hnz]
  have HNZ := Lib.hid hnz
  clear hnz
  go_wp2_with fail
  obtain ⟨D1, D2, D3⟩ := num_done (bb := nz) (show NumRes w3 _ _ from RR) HBF.out (by omega) HH.out.1 HH.out.2 HNZ.out.symm
  have HD1 := Lib.hid D1; have HD2 := Lib.hid D2; have HD3 := Lib.hid D3
  clear D1 D2 D3 k0 k1 k2 f0 f1 f2 RR
  generalize (((w3.setCell ⟨w.heap.size + 1 + 1, 0, none⟩ (.bool (nz))).setCell ⟨w.heap.size + 1 + 1, 1, none⟩ (.slice A8 l8 c8)).setCell ⟨w.heap.size + 1 + 1, 2, none⟩ (.slice A9 l9 c9)) = wz at HD1 HD2 HD3 ⊢
  have r0 := HD1.out.c0; have r1 := HD1.out.c1; have r2 := HD1.out.c2
  exact bodyPost_ret (v := .agg #[.bool (nz), (.slice A8 l8 c8), (.slice A9 l9 c9)]) (by simp [results, Tryz.results54, go_sem, r0, r1, r2]) rfl ⟨_, rfl, HD2.out, HD3.out⟩
end Go.Proofs.YtfmebfkdpfbjbaaGreatDoor
namespace Go.Proofs.YtfmebfkdpfbjbaaGreatDoor
open Go.RowKit
end Go.Proofs.YtfmebfkdpfbjbaaGreatDoor
namespace Go.Proofs.YtfmebfkdpfbjbaaGreatDoor
open Go.RowKit
def mayB (s : ByteArray) : Bool := decide (s.size ≤ 512) && !(s.data.toList.head? == some 0)
theorem mayB_bst {n : Nat} (h : szN n ≤ 512) : mayB (bst n) = true := by
  unfold mayB
  have h1 := btx_lead n
  rw [bst_size, bst_list, decide_eq_true h, Bool.true_and, Bool.not_eq_true', beq_eq_false_iff_ne]
  exact h1
theorem empty_of {s : ByteArray} (h : s.size = 0) : s = ⟨#[]⟩ := by
  have h2 : s.data = #[] := Array.eq_empty_of_size_eq_zero h
  cases s; simp at h2; rw [h2]
theorem size_toList (s : ByteArray) : s.data.toList.length = s.size := by
  show s.data.toList.length = s.data.size; simp
theorem head_get {s : ByteArray} (h : 0 < s.size) : s.data.toList.head? = some s[0] := by
  have hl : 0 < s.data.toList.length := by rw [size_toList]; exact h
  rw [List.head?_eq_getElem?, List.getElem?_eq_getElem hl]; rfl
set_option maxRecDepth 100000 in
set_option maxHeartbeats 4000000 in
theorem mayBe_any (w : World) (s : ByteArray) (hs : s.size ≤ 1000000000000) :
    Calls Tryz.prog 58 #[.string s] w fun e w' => e = .returned (.bool (mayB s)) ∧ w = w' := by
  by_cases h5 : s.size ≤ 512
  · by_cases h0 : s.size = 0
    · have e := empty_of h0
      subst e
      have HD := Lib.hid (show mayB ⟨#[]⟩ = true by decide)
      go_enter Tryz.func58, Tryz.ntmps58
      go_wp2_with fail
      go_ret
      exact ⟨ret_bool HD.out.symm, rfl⟩
    · have i1 : (s.size : Int) ≤ 512 := by omega
      have p0 : 0 < s.size := by omega
      have HD := Lib.hid (show mayB s = ((s[0].toNat : Int) != 0) by
        unfold mayB
        rw [decide_eq_true h5, Bool.true_and, head_get p0, Bool.eq_iff_iff, Bool.not_eq_true', beq_eq_false_iff_ne, bne_iff_ne]
        constructor
        · intro h e; exact h (by rw [Option.some.injEq]; apply UInt8.toNat_inj.1; show _ = 0; omega)
        · intro h e; rw [Option.some.injEq] at e; rw [e] at h; exact h rfl)
      generalize mayB s = z at *
      have hne : ¬ s.toList = [] := by rw [ByteArray.toList_eq]; intro e; have := size_toList s; rw [e] at this; simp at this; omega
      have hne2 : s.toList.isEmpty = false := by rw [Bool.eq_false_iff]; intro e; exact hne (List.isEmpty_iff.1 e)
      clear h0
      go_enter Tryz.func58, Tryz.ntmps58
      go_wp2_with fail
      go_ret
      exact ⟨ret_bool (by rw [HD.out]), rfl⟩
  · have i1 : ¬ (s.size : Int) ≤ 512 := by omega
    have HD := Lib.hid (show mayB s = false by unfold mayB; rw [decide_eq_false h5]; rfl)
    generalize mayB s = z at *
    go_enter Tryz.func58, Tryz.ntmps58
    go_wp2_with fail
    go_ret
    exact ⟨ret_bool HD.out.symm, rfl⟩
end Go.Proofs.YtfmebfkdpfbjbaaGreatDoor
namespace Go.Proofs.YtfmebfkdpfbjbaaGreatDoor
open Go.RowKit
def Read1 (w : World) (q : Rat) (e : Ending) (w' : World) : Prop := ∃ v', e = .returned (.tuple #[v', .bool true]) ∧ NumIn w' v' q ∧ Below w.heap.size w w'
theorem bst_ne {n : Nat} (h : n ≠ 0) : ¬ (bst n).toList = [] := by
  rw [ByteArray.toList_eq, bst_list]; intro e
  have h1 := btx_length n
  rw [e] at h1
  have h2 := szN_pos h
  rw [← h1] at h2
  exact absurd h2 (by simp)
theorem bst_ne2 {n : Nat} (h : n ≠ 0) : (bst n).toList.isEmpty = false := by
  rw [Bool.eq_false_iff]; intro e; exact bst_ne h (List.isEmpty_iff.1 e)
set_option maxRecDepth 100000 in
set_option maxHeartbeats 4000000 in
theorem exRead_ok (w : World) (q : Rat) (hf : Fit q) :
    Calls Tryz.prog 24 #[.agg #[.bool (Big.ng q), .string (bst (Big.nu q)), .string (bst (Big.de q))]] w (Read1 w q) := by
  have M1 := Lib.hid (fun W => mayBe_any W (bst (Big.nu q)) (by rw [bst_size]; have := hf.nu; omega))
  have M2 := Lib.hid (fun W => mayBe_any W (bst (Big.de q)) (by rw [bst_size]; have := hf.de; omega))
  rw [mayB_bst hf.nu] at M1
  rw [mayB_bst hf.de] at M2
  have S := Lib.hid hf.sm
  have P := Lib.hid (show NumIn w (.agg #[.bool (Big.ng q), .slice none 0 0, .slice none 0 0]) q → True from fun _ => trivial)
  have F1 := Lib.hid (fun W => fromBytes_num W (Big.nu q) (by have := hf.nu; omega))
  have F2 := Lib.hid (fun W => fromBytes_num W (Big.de q) (by have := hf.de; omega))
  have d1 := bst_ne (n := Big.de q) (by have := Big.de_pos q; omega)
  have d2 := bst_ne2 (n := Big.de q) (by have := Big.de_pos q; omega)
  have n0 : Big.ng q = true → ¬ (bst (Big.nu q)).toList = [] ∧ (bst (Big.nu q)).toList.isEmpty = false := fun h => by
    have h1 := Big.ng_pos h
    exact ⟨bst_ne (by omega), bst_ne2 (by omega)⟩
  obtain ⟨X0, R0, B0⟩ := boxed2 w 23 71 (.bool (Big.ng q)) (.string (bst (Big.nu q))) (.string (bst (Big.de q))) (.bool false) (.slice none 0 0) (.slice none 0 0)
  have HX0 := Lib.hid X0; have HR0 := Lib.hid R0; have HB0 := Lib.hid B0
  have HC := Lib.hid (Big.cop q)
  have HNG := Lib.hid (rfl : Big.ng q = Big.ng q)
  clear hf X0 R0 B0 P HNG
  obtain ⟨nq, hnq⟩ : ∃ z, Big.ng q = z := ⟨_, rfl⟩
  rw [hnq] at n0 HX0 HR0 HB0 ⊢
  have HNQ := Lib.hid hnq
  clear hnq
  have HN0 := Lib.hid n0
  clear n0
  cases nq
  · go_enter Tryz.func24, Tryz.ntmps24
    go_wp2_with fail
    generalize (w.alloc (.cells #[.bool false, .string (bst (Big.nu q)), .string (bst (Big.de q))] 23)).alloc (.cells #[.bool false, .slice none 0 0, .slice none 0 0] 71) = w0 at *
    have x0 := HX0.out.c0; have x1 := HX0.out.c1; have x2 := HX0.out.c2
    go_wp2_with (first
      | (go_at_call 58; with_reducible refine (M1.out _).mono ?_; rintro e w' ⟨rfl, rfl⟩)
      | (go_at_call 58; with_reducible refine (M2.out _).mono ?_; rintro e w' ⟨rfl, rfl⟩))
    clear x0 x1 x2 d1 d2
    have KX := Lib.hid (fun W (h : Below w0.heap.size w0 W) => And.intro (HX0.out.keep h).c1 (HX0.out.keep h).c2)
    have C1 := Lib.hid (fun W (h : Below w0.heap.size w0 W) => lift2 h (F1.out W))
    have C2 := Lib.hid (fun W (h : Below w0.heap.size w0 W) => lift2 h (F2.out W))
    go_region_held3 (fun w' => w'.cell? ⟨w.heap.size, 1, none⟩ = some (.string (bst (Big.nu q))) ∧ w'.cell? ⟨w.heap.size, 2, none⟩ = some (.string (bst (Big.de q))))
      (exact KX.out _ (by first | assumption | exact Below.refl _ _ | exact below_drew (Below.refl _ _) | exact below_drew (by assumption)))
      (first
        | (go_at_call 59; (with_reducible refine (C1.out _ (by first | assumption | exact Below.refl _ _ | exact below_drew (Below.refl _ _) | exact below_drew (by assumption))).mono ?_); rintro e w2 ⟨v2, rfl, hv2, hw2, hw2'⟩)
        | (go_at_call 59; (with_reducible refine (C2.out _ (by first | assumption | exact Below.refl _ _ | exact below_drew (Below.refl _ _) | exact below_drew (by assumption))).mono ?_); rintro e w3 ⟨v3, rfl, hv3, hw3, hw3'⟩)
        | fail)
    have HB3 := Lib.hid (HB0.out.trans (hw3.mono HB0.out.size))
    have HX3 := Lib.hid (HX0.out.keep hw3); have HR3 := Lib.hid (HR0.out.keep hw3)
    have HV := Lib.hid (And.intro (hv2.keep hw3') hv3)
    clear hv2 hv3 hw2 hw2' hw3 hw3' HX0 HR0 HB0 KX C1 C2
    have G := Lib.hid (gcd_num w3 _ _ _ _ 64 64 HV.out.1 HV.out.2 S.out.nu S.out.de (by omega) (by omega))
    rw [HC.out] at G
    go_wp2_with fail
    refine G.out.mono ?_
    rintro e w4 ⟨v4, rfl, hv4, hw4⟩
    have I := Lib.hid (isOne_num w4 v4 1 hv4)
    rw [decide_eq_true rfl] at I
    have HB4 := Lib.hid (HB3.out.trans (hw4.mono HB3.out.size))
    have HX4 := Lib.hid (HX3.out.keep hw4); have HR4 := Lib.hid (HR3.out.keep hw4)
    have HV4 := Lib.hid (And.intro (HV.out.1.keep hw4) (HV.out.2.keep hw4))
    clear hv4 hw4 HB3 HX3 HR3 HV G
    go_wp2_with fail
    refine I.out.mono ?_
    rintro e w' ⟨rfl, rfl⟩
    obtain ⟨A8, l8, c8, rfl, -⟩ := HV4.out.1.is_slice
    obtain ⟨A9, l9, c9, rfl, -⟩ := HV4.out.2.is_slice
    have RR := HR4.out
    have x0 := HX4.out.c0
    have k0 := RR.c0; have k1 := RR.c1; have k2 := RR.c2; have f0 := RR.frozen 0; have f1 := RR.frozen 1; have f2 := RR.frozen 2
    go_wp2_with fail
    obtain ⟨D1, D2, D3⟩ := num_done (bb := false) (show NumRes w4 _ _ from RR) HB4.out (by omega) HV4.out.1 HV4.out.2 HNQ.out.symm
    have HD1 := Lib.hid D1; have HD2 := Lib.hid D2; have HD3 := Lib.hid D3
    clear D1 D2 D3 k0 k1 k2 f0 f1 f2 RR
    generalize (((w4.setCell ⟨w.heap.size + 1, 0, none⟩ (.bool (false))).setCell ⟨w.heap.size + 1, 1, none⟩ (.slice A8 l8 c8)).setCell ⟨w.heap.size + 1, 2, none⟩ (.slice A9 l9 c9)) = wz at HD1 HD2 HD3 ⊢
    have r0 := HD1.out.c0; have r1 := HD1.out.c1; have r2 := HD1.out.c2
    exact bodyPost_ret (v := .tuple #[.agg #[.bool (false), .slice A8 l8 c8, .slice A9 l9 c9], .bool true]) (by simp [results, Tryz.results24, go_sem, r0, r1, r2]) rfl ⟨_, rfl, HD2.out, HD3.out⟩
  · obtain ⟨z1, z2⟩ := HN0.out rfl
    go_enter Tryz.func24, Tryz.ntmps24
    go_wp2_with fail
    generalize (w.alloc (.cells #[.bool true, .string (bst (Big.nu q)), .string (bst (Big.de q))] 23)).alloc (.cells #[.bool false, .slice none 0 0, .slice none 0 0] 71) = w0 at *
    have x0 := HX0.out.c0; have x1 := HX0.out.c1; have x2 := HX0.out.c2
    go_wp2_with (first
      | (go_at_call 58; with_reducible refine (M1.out _).mono ?_; rintro e w' ⟨rfl, rfl⟩)
      | (go_at_call 58; with_reducible refine (M2.out _).mono ?_; rintro e w' ⟨rfl, rfl⟩))
    clear x0 x1 x2 d1 d2
    have KX := Lib.hid (fun W (h : Below w0.heap.size w0 W) => And.intro (HX0.out.keep h).c1 (HX0.out.keep h).c2)
    have C1 := Lib.hid (fun W (h : Below w0.heap.size w0 W) => lift2 h (F1.out W))
    have C2 := Lib.hid (fun W (h : Below w0.heap.size w0 W) => lift2 h (F2.out W))
    go_region_held3 (fun w' => w'.cell? ⟨w.heap.size, 1, none⟩ = some (.string (bst (Big.nu q))) ∧ w'.cell? ⟨w.heap.size, 2, none⟩ = some (.string (bst (Big.de q))))
      (exact KX.out _ (by first | assumption | exact Below.refl _ _ | exact below_drew (Below.refl _ _) | exact below_drew (by assumption)))
      (first
        | (go_at_call 59; (with_reducible refine (C1.out _ (by first | assumption | exact Below.refl _ _ | exact below_drew (Below.refl _ _) | exact below_drew (by assumption))).mono ?_); rintro e w2 ⟨v2, rfl, hv2, hw2, hw2'⟩)
        | (go_at_call 59; (with_reducible refine (C2.out _ (by first | assumption | exact Below.refl _ _ | exact below_drew (Below.refl _ _) | exact below_drew (by assumption))).mono ?_); rintro e w3 ⟨v3, rfl, hv3, hw3, hw3'⟩)
        | fail)
    have HB3 := Lib.hid (HB0.out.trans (hw3.mono HB0.out.size))
    have HX3 := Lib.hid (HX0.out.keep hw3); have HR3 := Lib.hid (HR0.out.keep hw3)
    have HV := Lib.hid (And.intro (hv2.keep hw3') hv3)
    clear hv2 hv3 hw2 hw2' hw3 hw3' HX0 HR0 HB0 KX C1 C2
    have G := Lib.hid (gcd_num w3 _ _ _ _ 64 64 HV.out.1 HV.out.2 S.out.nu S.out.de (by omega) (by omega))
    rw [HC.out] at G
    go_wp2_with fail
    refine G.out.mono ?_
    rintro e w4 ⟨v4, rfl, hv4, hw4⟩
    have I := Lib.hid (isOne_num w4 v4 1 hv4)
    rw [decide_eq_true rfl] at I
    have HB4 := Lib.hid (HB3.out.trans (hw4.mono HB3.out.size))
    have HX4 := Lib.hid (HX3.out.keep hw4); have HR4 := Lib.hid (HR3.out.keep hw4)
    have HV4 := Lib.hid (And.intro (HV.out.1.keep hw4) (HV.out.2.keep hw4))
    clear hv4 hw4 HB3 HX3 HR3 HV G
    go_wp2_with fail
    refine I.out.mono ?_
    rintro e w' ⟨rfl, rfl⟩
    obtain ⟨A8, l8, c8, rfl, -⟩ := HV4.out.1.is_slice
    obtain ⟨A9, l9, c9, rfl, -⟩ := HV4.out.2.is_slice
    have RR := HR4.out
    have x0 := HX4.out.c0
    have k0 := RR.c0; have k1 := RR.c1; have k2 := RR.c2; have f0 := RR.frozen 0; have f1 := RR.frozen 1; have f2 := RR.frozen 2
    go_wp2_with fail
    obtain ⟨D1, D2, D3⟩ := num_done (bb := true) (show NumRes w4 _ _ from RR) HB4.out (by omega) HV4.out.1 HV4.out.2 HNQ.out.symm
    have HD1 := Lib.hid D1; have HD2 := Lib.hid D2; have HD3 := Lib.hid D3
    clear D1 D2 D3 k0 k1 k2 f0 f1 f2 RR
    generalize (((w4.setCell ⟨w.heap.size + 1, 0, none⟩ (.bool (true))).setCell ⟨w.heap.size + 1, 1, none⟩ (.slice A8 l8 c8)).setCell ⟨w.heap.size + 1, 2, none⟩ (.slice A9 l9 c9)) = wz at HD1 HD2 HD3 ⊢
    have r0 := HD1.out.c0; have r1 := HD1.out.c1; have r2 := HD1.out.c2
    exact bodyPost_ret (v := .tuple #[.agg #[.bool (true), .slice A8 l8 c8, .slice A9 l9 c9], .bool true]) (by simp [results, Tryz.results24, go_sem, r0, r1, r2]) rfl ⟨_, rfl, HD2.out, HD3.out⟩
end Go.Proofs.YtfmebfkdpfbjbaaGreatDoor
namespace Go.Proofs.YtfmebfkdpfbjbaaGreatDoor
open Go.RowKit
end Go.Proofs.YtfmebfkdpfbjbaaGreatDoor
