/- Contracts, in this order: nat: Shl, Bits. · exact: log2, nearestQuo. · The interpreter: package nat's functions, of what is known. · The interpreter: package nat's texts, and what it answers in · exact: Sub, Quo, Cmp. · exact: Frac. · exact: mayBeBytes, Read. · exact: Read, of what may be. · exact: sum, Of. · The interpreter: package exact's numbers, of what is known. · nat: Twos, Shr. · The interpreter: package nat's Shr and Twos, of what is know · The interpreter: strings.Join of texts that are known. -/
import Derived.Test.YtjjbhadnakjhdaaGreatDoorKdq10
import Derived.Test.YtjjbhadnakjhdaaGreatDoorKdq09
import Derived.Deep.RegionWith
import Derived.StillTailTactics
import Derived.Test.YtjjbhadnakjhdaaGreatDoorKdq14
import Derived.Laws.IdiomStrings
import Derived.Test.YtjjbhadnakjhdaaGreatDoorKdq08
import Derived.Shelf.Spec.TrailingZeros
import Derived.Test.YtjjbhadnakjhdaaGreatDoorKdq06
import Derived.Test.YtjjbhadnakjhdaaGreatDoorShelf
namespace Go.Proofs.YtjjbhadnakjhdaaGreatDoor
open Go.RowKit
set_option maxRecDepth 100000 in
theorem copy_run (W : World) (g off g2 n : Nat) (cur xs : List Nat) (hb : Blk W g 52 .u64 cur) (hs : Blk W g2 52 .u64 xs) (hx : xs.length = n) (hfit : off + n ≤ cur.length) (ty : TypeId) :
    ∃ W', (Builtin.copy_ #[96, 96] ty #[.slice (some ⟨g, off, none⟩) n n, .slice (some ⟨g2, 0, none⟩) n n]).run Tryz.prog W = .ok (.int .i64 (n : Int)) W' ∧
      Hid (Blk W' g 52 .u64 (cur.take off ++ (xs ++ cur.drop (off + n))) ∧ ∀ B w0, Below B w0 W → B ≤ g → Below B w0 W') := by
  subst hx
  have hu : (Tryz.prog.info? 52).map (·.size) = some 1 := by
    obtain ⟨i0, hi, -, hz1, -⟩ := info_parts Tryz.infoU64
    rw [hi]; simp [hz1]
  have hlen : (xs.map fun d => Value.int .u64 ((d : Nat) : Int)).length = xs.length := by simp
  have h := run_copy_row (P := Tryz.prog) W 96 96 ty 52 g off xs.length xs.length ⟨g2, 0, none⟩ xs.length xs.length (cellsOf .u64 cur) 52 (xs.map fun d => Value.int .u64 ((d : Nat) : Int))
    Tryz.underlying96 hu hb (by rw [hlen]; exact (Nat.min_self _).symm) (fun j v hv => by
      have hj : j < xs.length := by
        rcases Nat.lt_or_ge j xs.length with h | h
        · exact h
        · rw [List.getElem?_eq_none (by simpa using h)] at hv; cases hv
      rw [List.getElem?_map, List.getElem?_eq_getElem hj] at hv
      have := hs.cell j hj
      unfold Big.nth at this
      rw [List.getD_eq_getElem?_getD, List.getElem?_eq_getElem hj] at this
      simp at hv
      rw [← hv]
      unfold Addr.add
      split
      · rename_i h0; subst h0; simpa using this
      · simpa using this) (by rw [hlen]; simpa [cellsOf] using hfit) (by intro v hv; simp at hv; obtain ⟨_, _, rfl⟩ := hv; rfl)
  rw [hlen] at h
  refine ⟨_, h, Lib.hid ⟨?_, fun B w0 hB hg => below_setRow hB hg _⟩⟩
  have e := setRow_heap W g (cellsOf .u64 cur) ((cellsOf .u64 cur).toList.take off ++ (xs.map fun d => Value.int .u64 ((d : Nat) : Int)) ++ (cellsOf .u64 cur).toList.drop (off + xs.length)).toArray 52 _ hb
  unfold Blk
  rw [e]
  congr 2
  simp [cellsOf, List.map_drop, List.map_take]
def IsBits (n s : Nat) : Prop := (n = 0 ∧ s = 0) ∨ (1 ≤ s ∧ 2 ^ (s - 1) ≤ n ∧ n < 2 ^ s)
theorem M64_pow (k : Nat) : Big.M64 ^ k = 2 ^ (64 * k) := by rw [Big.M64_eq, show (18446744073709551616 : Nat) = 2 ^ 64 by decide, ← Nat.pow_mul]
theorem isBits_top {r : List Nat} {t b : Nat} (or : Big.Ok Big.M64 r) (h1 : 2 ^ (b - 1) ≤ t) (h2 : t < 2 ^ b) (hb : 1 ≤ b) : IsBits (Big.val Big.M64 (r ++ [t])) (64 * r.length + b) := by
  rw [Big.val_snoc, M64_pow]
  have hr := Big.val_lt r or
  rw [M64_pow] at hr
  refine .inr ⟨by omega, ?_, ?_⟩
  · rw [show 64 * r.length + b - 1 = 64 * r.length + (b - 1) by omega, Nat.pow_add]
    have := Nat.mul_le_mul_left (2 ^ (64 * r.length)) h1
    omega
  · rw [Nat.pow_add]
    have := Nat.mul_le_mul_left (2 ^ (64 * r.length)) (show t + 1 ≤ 2 ^ b from h2)
    rw [Nat.mul_add] at this
    omega
theorem bits_any (w : World) (v : Value) (n : Nat) (h : NatIn w v n) (hn : n < Big.M64 ^ Big.KX) :
    Calls Tryz.prog 297 #[v] w fun e w' => ∃ s : Nat, e = .returned (.int .i64 (s : Int)) ∧ IsBits n s ∧ s ≤ 64000000000 ∧ w = w' := by
  obtain ⟨l, hw, ol, nl, rfl⟩ := h
  have hl := len_of_lt nl hn
  rw [Big.KX_eq] at hl
  obtain ⟨A, c, rfl, h1, h2, h3⟩ := hw
  by_cases hne : l = []
  · subst hne
    clear hn h3 nl ol
    go_enter Tryz.func297, Tryz.ntmps297
    go_wp2
    go_ret
    exact ⟨0, rfl, .inl ⟨rfl, rfl⟩, by omega, rfl⟩
  · obtain ⟨r, t, rfl, ht0⟩ := norm_last nl hne
    have hlr : (r ++ [t]).length = r.length + 1 := by simp
    obtain ⟨b, o, rfl, hlt, hc, -⟩ := h3 (by omega)
    have hcell := hc r.length (by omega)
    have ent : Big.nth (r ++ [t]) r.length = t := by unfold Big.nth; rw [List.getD_eq_getElem?_getD, List.getElem?_append_right (Nat.le_refl _)]; simp
    rw [ent] at hcell
    have htM : t < 18446744073709551616 := by rw [← Big.M64_eq]; exact ol t (by simp)
    obtain ⟨b1, b2, b3, b4⟩ := bitLen_bd t htM ht0
    have HS := Lib.hid (isBits_top (b := Lib.bitLen t) (fun d hd => ol d (by simp [hd]) : Big.Ok Big.M64 r) b3 b4 b1)
    have hc0 : (((r ++ [t]).length : Int) == 0) = false := beq_eq_false_iff_ne.2 (by omega)
    have CL := Lib.hid (lz_any t htM)
    rw [hlr] at h1 hl hc0 ⊢
    clear h3 hc hlr ent b3 b4 htM hne nl ol hn
    generalize Lib.bitLen t = bl at *
    generalize Big.val Big.M64 (r ++ [t]) = N at *
    generalize r.length = m at *
    have hc1 : ((m : Int) + 1 == 0) = false := beq_eq_false_iff_ne.2 (by omega)
    go_enter Tryz.func297, Tryz.ntmps297
    go_wp2_with (go_at_call 260; refine (CL.out _).mono ?_; rintro e w' ⟨rfl, rfl⟩)
    go_ret
    refine ⟨_, ?_, HS.out, by omega, rfl⟩
    apply ret_int
    omega
theorem shl_val {l Z : List Nat} {d r : Nat} (oZ : Big.Ok Big.M64 Z) (hZ : Z.length = l.length + 1) (hv : Big.val Big.M64 Z = Big.val Big.M64 l * 2 ^ r) :
    Big.Ok Big.M64 ((List.replicate (d + (l.length + 1)) 0).take d ++ (Z ++ (List.replicate (d + (l.length + 1)) 0).drop (d + (l.length + 1)))) ∧ Big.val Big.M64 ((List.replicate (d + (l.length + 1)) 0).take d ++ (Z ++ (List.replicate (d + (l.length + 1)) 0).drop (d + (l.length + 1)))) = Big.val Big.M64 l * 2 ^ (64 * d + r) ∧
    ((List.replicate (d + (l.length + 1)) 0).take d ++ (Z ++ (List.replicate (d + (l.length + 1)) 0).drop (d + (l.length + 1)))).length = d + (l.length + 1) := by
  rw [List.drop_eq_nil_of_le (by simp), List.append_nil, List.take_replicate, show min d (d + (l.length + 1)) = d by omega]
  refine ⟨Big.Ok.append (fun x hx => by rw [List.mem_replicate] at hx; rw [hx.2]; exact Big.M64_pos) oZ, ?_, by simp [hZ]⟩
  rw [Big.val_append, Big.val_replicate, List.length_replicate, hv, M64_pow, Nat.pow_add, Nat.zero_add, Nat.mul_left_comm]
theorem alloc_sz (w : World) (o : Obj) : (w.alloc o).heap.size = w.heap.size + 1 := by simp
theorem shl_fin {w : World} {g d n x : Nat} {R : List Nat} (hd : d ≤ 1000000000) (hl : n ≤ 1000000000) (hb : Blk w g 52 .u64 R) (h : Big.Ok Big.M64 R ∧ Big.val Big.M64 R = x ∧ R.length = d + (n + 1)) :
    ∃ R : List Nat, Wd w .u64 (.slice (some ⟨g, 0, none⟩) (d + (n + 1)) (d + (n + 1))) R ∧ Big.Ok Big.M64 R ∧ Big.val Big.M64 R = x := by
  obtain ⟨h1, h2, h3⟩ := h
  refine ⟨R, ?_, h1, h2⟩
  have := hb.wd0 (d + (n + 1)) (by omega) (by omega)
  rwa [h3] at this
set_option maxRecDepth 100000 in
set_option maxHeartbeats 2000000 in
theorem shl_words (w : World) (v : Value) (l : List Nat) (d r : Nat) (h : Wd w .u64 v l) (ol : Big.Ok Big.M64 l) (hl0 : l.length ≠ 0) (hr : r ≤ 63) (hd : d ≤ 1000000000) (h0 : 64 * d + r ≠ 0) (hl : l.length ≤ 1000000000) :
    Calls Tryz.prog 248 #[v, .int .i64 ((64 * d + r : Nat) : Int)] w fun e w' => ∃ v', e = .returned v' ∧ NatIn w' v' (Big.val Big.M64 l * 2 ^ (64 * d + r)) ∧ Below w.heap.size w w' := by
  obtain ⟨i0, hi, hz0, hz1, hz2⟩ := info_parts Tryz.infoU64
  have hmk := fun W => make_words (P := Tryz.prog) Tryz.underlying96 hi hz0 hz1 (by rw [hz2]; omega) .i64 .i64 (d + (l.length + 1)) (d + (l.length + 1)) (Nat.le_refl _) (by omega) W
  rw [show ((d + (l.length + 1) : Nat) : Int) = (d : Int) + (l.length : Int) + 1 by omega] at hmk
  have hu : (Tryz.prog.info? 52).map (·.size) = some 1 := by rw [hi]; simp [hz1]
  have hb0 : Blk (w.alloc (.cells (cellsOf .u64 (List.replicate (d + (l.length + 1)) 0)) 52)) w.heap.size 52 .u64 (List.replicate (d + (l.length + 1)) 0) := Blk.new _ _ _ _
  have hbel0 : Below w.heap.size w (w.alloc (.cells (cellsOf .u64 (List.replicate (d + (l.length + 1)) 0)) 52)) := (Below.refl _ _).alloc (Nat.le_refl _) _
  have hw0 : Wd (w.alloc (.cells (cellsOf .u64 (List.replicate (d + (l.length + 1)) 0)) 52)) .u64 v l := Wd.keep h hbel0
  have H0 := Lib.hid (And.intro hb0 (And.intro hbel0 hw0))
  have CS := Lib.hid (show ∀ W (hW : Wd W .u64 v l) (hs : W.heap.size = w.heap.size + 1), Calls Tryz.prog 277 #[v, .int .i64 (r : Int)] W fun e w' => e = .returned (.slice (some ⟨w.heap.size + 1, 0, none⟩) (l.length + 1) (l.length + 1)) ∧
      ∃ Z, Blk w' (w.heap.size + 1) 52 .u64 Z ∧ Z.length = l.length + 1 ∧ Big.Ok Big.M64 Z ∧ Big.val Big.M64 Z = Big.val Big.M64 l * 2 ^ r ∧ Below (w.heap.size + 1) W w' from fun W hW hs => by
    have h := shifted_any W v l r hW ol hr hl
    rw [hs] at h; exact h)
  have hsz : ((w.alloc (.cells (cellsOf .u64 (List.replicate (d + (l.length + 1)) 0)) 52)).drew).heap.size = w.heap.size + 1 := alloc_sz w _
  have HSZ := Lib.hid hsz
  have HV := Lib.hid (fun Z (o : Big.Ok Big.M64 Z) e1 e2 => shl_val (l := l) (d := d) (r := r) (Z := Z) o e1 e2)
  obtain ⟨n, hn⟩ : ∃ n : Int, ((64 * d + r : Nat) : Int) = n := ⟨_, rfl⟩
  have q1 : Int.tdiv n 64 = d := by subst hn; rw [Int.tdiv_eq_ediv_of_nonneg (Int.natCast_nonneg _)]; omega
  have q2 : Int.tmod n 64 = r := by subst hn; rw [Int.tmod_eq_emod_of_nonneg (Int.natCast_nonneg _)]; omega
  have q3 : (n ≤ 0) = False := by rw [eq_iff_iff, iff_false]; omega
  rw [hn]
  have hc0 : ((l.length : Int) == 0) = false := beq_eq_false_iff_ne.2 (by omega)
  obtain ⟨A, c, rfl, h1, h2, h3⟩ := h
  clear hb0 hbel0 hw0 h3 ol hn hsz
  have hcap : ¬ (d + (l.length + 1) = d) := by omega
  have hcap2 : d + (l.length + 1) - d = l.length + 1 := by omega
  have hw3 : (d : Int) ≤ (d : Int) + (l.length + 1 : Int) := by omega
  have hwr : IntKind.i64.wrap ((d : Nat) : Int) = (d : Int) := by rw [IntKind.wrap_i64]; omega
  go_enter Tryz.func248, Tryz.ntmps248
  go_wp2_with fail
  go_region_with (first
    | (go_at_call 277; (with_reducible refine (CS.out _ (H0.out.2.2.keep (Below.refl _ _).drew) HSZ.out).mono ?_); rintro e w2 ⟨rfl, Z, hB, hZ, oZ, vZ, hw2⟩; obtain ⟨w3, hcp, HC⟩ := copy_run w2 w.heap.size d (w.heap.size + 1) _ _ _ (Blk.below' (H0.out.1.drewN 1) hw2 (Nat.lt_succ_self _)) hB hZ (by simp) 3;
       have HF := Lib.hid (shl_fin hd hl HC.out.1 (HV.out Z oZ hZ vZ)); have HBel := Lib.hid (HC.out.2 _ _ ((H0.out.2.1.drew).trans (hw2.mono (Nat.le_succ _))) (Nat.le_refl _)); clear HC hB hZ oZ vZ hw2))
  all_goals
    go_wp2_with (go_at_call 146; (with_reducible refine (trim_any _ _ _ HF.out.choose_spec.1).mono ?_); rintro e w' ⟨v', rfl, hv', rfl⟩)
    go_ret
    exact ⟨v', rfl, ⟨_, hv', Big.strip_ok HF.out.choose_spec.2.1, Big.strip_norm _, by rw [Big.strip_val, HF.out.choose_spec.2.2]⟩, HBel.out⟩
theorem shl_any (w : World) (v : Value) (x : Nat) (n : Int) (h : NatIn w v x) (hx : x < Big.M64 ^ Big.KX) (hn : n ≤ 64000000000) :
    Calls Tryz.prog 248 #[v, .int .i64 n] w fun e w' => ∃ v', e = .returned v' ∧ NatIn w' v' (x * 2 ^ n.toNat) ∧ Below w.heap.size w w' := by
  have HN := h
  obtain ⟨l, h1, h2, h3, rfl⟩ := h
  have hl := len_of_lt h3 hx
  rw [Big.KX_eq] at hl
  by_cases l0 : l.length = 0
  · obtain rfl : l = [] := List.eq_nil_of_length_eq_zero l0
    have H := Lib.hid HN
    obtain ⟨A, c, rfl, -, -, -⟩ := h1
    simp only [Big.val, Nat.zero_mul]
    clear hx hn h2 h3 hl HN
    go_enter Tryz.func248, Tryz.ntmps248
    go_wp2
    go_ret
    exact ⟨_, rfl, H.out, Below.refl _ _⟩
  by_cases n0 : n ≤ 0
  · have H := Lib.hid HN
    obtain ⟨A, c, rfl, -, -, -⟩ := h1
    have t1 : ((l.length : Int) == 0) = false := beq_eq_false_iff_ne.2 (by omega)
    rw [show n.toNat = 0 by omega, Nat.pow_zero, Nat.mul_one]
    generalize Big.val Big.M64 l = X at *
    clear hx hn h2 h3 hl HN l0
    go_enter Tryz.func248, Tryz.ntmps248
    go_wp2
    go_ret
    exact ⟨_, rfl, H.out, Below.refl _ _⟩
  obtain ⟨N, rfl⟩ : ∃ N : Nat, n = N := ⟨n.toNat, by omega⟩
  rw [Int.toNat_natCast]
  have e : 64 * (N / 64) + N % 64 = N := Nat.div_add_mod N 64
  have C := shl_words w v l (N / 64) (N % 64) h1 h2 l0 (by omega) (by omega) (by omega) hl
  rw [e] at C
  exact C
theorem isBits_fn {n s t : Nat} (h : IsBits n s) (k : IsBits n t) : s = t := by
  rcases h with ⟨rfl, rfl⟩ | ⟨h1, h2, h3⟩ <;> rcases k with ⟨k0, rfl⟩ | ⟨k1, k2, k3⟩
  · rfl
  · have := Nat.pow_pos (n := t - 1) (show 0 < 2 by omega); omega
  · have := Nat.pow_pos (n := s - 1) (show 0 < 2 by omega); omega
  · rcases Nat.lt_trichotomy s t with h | h | h
    · have := Nat.pow_le_pow_right (show 0 < 2 by omega) (show s ≤ t - 1 by omega); omega
    · exact h
    · have := Nat.pow_le_pow_right (show 0 < 2 by omega) (show t ≤ s - 1 by omega); omega
end Go.Proofs.YtjjbhadnakjhdaaGreatDoor
namespace Go.Proofs.YtjjbhadnakjhdaaGreatDoor
open Go.RowKit
def bitsN (n : Nat) : Nat := if n = 0 then 0 else Nat.log2 n + 1
theorem bitsN_is (n : Nat) : IsBits n (bitsN n) := by
  unfold bitsN
  split
  · rename_i h; exact .inl ⟨h, rfl⟩
  · rename_i h
    refine .inr ⟨by omega, ?_, Nat.lt_log2_self⟩
    rw [Nat.add_sub_cancel]; exact Nat.log2_self_le h
theorem bits_num (w : World) (v : Value) (n k : Nat) (h : NatIn w v n) (hn : Sz k n) (hk : k ≤ 100000000) :
    Calls Tryz.prog 297 #[v] w fun e w' => e = .returned (.int .i64 ((bitsN n : Nat) : Int)) ∧ w = w' :=
  (bits_any w v n h (hn.kx hk)).mono fun _ _ ⟨s, h1, h2, _, h3⟩ => ⟨by rw [h1, isBits_fn h2 (bitsN_is n)], h3⟩
theorem shl_num (w : World) (v : Value) (n k : Nat) (s : Int) (h : NatIn w v n) (hn : Sz k n) (hk : k ≤ 100000000) (hs : s ≤ 64000000000) :
    Calls Tryz.prog 248 #[v, .int .i64 s] w (Nat1 w (n * 2 ^ s.toNat)) := shl_any w v n s h (hn.kx hk) hs
end Go.Proofs.YtjjbhadnakjhdaaGreatDoor
namespace Go.Proofs.YtjjbhadnakjhdaaGreatDoor
open Go Go.RowKit
namespace Ev
section
variable {h h' : Tr (Blk Nat)} {nx nx' : Nat} {R W : List Nat} {r : Ren} {w : World} {v : Value}
def Goes (f : FuncId) (args' : List Value) (r : Ren) (w : World) (nx nx' : Nat) (W : List Nat) (g' : Nat → Option (Blk Nat)) (v : Value) : Prop :=
  Calls Tryz.prog f ⟨args'⟩ w fun e w' => ∃ v' r', e = .returned v' ∧ VR r' v v' ∧ Ext natSig r w nx nx' W g' r' w'
theorem goes_new {N : Nat} {f : FuncId} {args' : List Value} (e : (newFact N : M Nat Value) h nx = .ok v h' nx' R W) (hM : Mod natSig r h.get w) (hN : New r nx nx') (c : Calls Tryz.prog f ⟨args'⟩ w (Nat1 w N)) : Goes f args' r w nx nx' W h'.get v := by
  obtain ⟨i, h1, nx1, R1, W1, R2, W2, e1, e2, rfl, rfl⟩ := bind_ok e
  obtain ⟨rfl, rfl, rfl, rfl⟩ := ret_ok e2
  unfold fresh at e1
  cases e1
  refine c.mono ?_
  rintro en w' ⟨v', rfl, hv, hb⟩
  obtain ⟨r', hX, hr⟩ := ext_fact (S := natSig) (f := N) hM hb hN hv (nat_one hv)
  exact ⟨v', r', rfl, .opq hr (nat_one hv), by simpa using hX.congr fun n => .inr (Tr.get_set _ _ _ _)⟩
theorem goes_val {u : Value} {f : FuncId} {args' : List Value} (e : (ret u : M Nat Value) h nx = .ok v h' nx' R W) (hp : plain2 u = true) (hM : Mod natSig r h.get w) (c : Calls Tryz.prog f ⟨args'⟩ w fun e w' => e = .returned u ∧ Below w.heap.size w w') : Goes f args' r w nx nx' W h'.get v := by
  obtain ⟨rfl, rfl, rfl, rfl⟩ := ret_ok e
  refine c.mono ?_
  rintro en w' ⟨rfl, hb⟩
  exact ⟨_, r, rfl, VR.same2 hp, ext_below hM hb _⟩
theorem same_below {f : FuncId} {args' : List Value} {u : Value} (c : Calls Tryz.prog f ⟨args'⟩ w fun e w' => e = .returned u ∧ w = w') : Calls Tryz.prog f ⟨args'⟩ w fun e w' => e = .returned u ∧ Below w.heap.size w w' :=
  c.mono fun _ _ ⟨h1, h2⟩ => ⟨h1, h2 ▸ Below.refl _ _⟩
theorem drew_below {f : FuncId} {args' : List Value} {u : Value} (c : Calls Tryz.prog f ⟨args'⟩ w fun e w' => e = .returned u ∧ Drew w w') : Calls Tryz.prog f ⟨args'⟩ w fun e w' => e = .returned u ∧ Below w.heap.size w w' :=
  c.mono fun _ _ ⟨h1, h2⟩ => ⟨h1, h2.below _⟩
noncomputable def small (n : Nat) : Bool := Nat.ble (Nat.log2 n) 60000
theorem m64_log {n k : Nat} (h : Nat.log2 n + 1 ≤ 64 * k) : n < Big.M64 ^ k := by
  have hM : ∀ k, Big.M64 ^ k = 2 ^ (64 * k) := fun k => by rw [Nat.pow_mul]; rfl
  rw [hM]
  exact Nat.lt_of_lt_of_le Nat.lt_log2_self (Nat.pow_le_pow_right (by omega) h)
theorem sz_log {n k : Nat} (h : Nat.log2 n + 1 ≤ 64 * k) : Sz k n := ⟨m64_log h⟩
theorem sz_small {n : Nat} (h : small n = true) : Sz 1000 n := by
  have h1 := Nat.le_of_ble_eq_true h
  exact sz_log (by omega)
noncomputable def two (args : List Value) (k : Nat → Nat → M Nat Value) : Option (M Nat Value) := match args with
  | [a, b] => some (bind (natV a) fun n => bind (natV b) fun m => cond (small n && small m) (k n m) fail)
  | _ => none
noncomputable def one (args : List Value) (k : Nat → M Nat Value) : Option (M Nat Value) := match args with
  | [a] => some (bind (natV a) fun n => cond (small n) (k n) fail)
  | _ => none
theorem two_ok {f : FuncId} {k : Nat → Nat → M Nat Value} (hl : ∀ n m, Loc (k n m)) (hk : ∀ n m (h : Tr (Blk Nat)) nx v h' nx' R W, k n m h nx = .ok v h' nx' R W → ∀ r w a b, NatIn w a n → NatIn w b m → Sz 1000 n → Sz 1000 m → Mod natSig r h.get w → New r nx nx' → Goes f [a, b] r w nx nx' W h'.get v) :
    SumF natSig Tryz.prog f (fun args => two args k) := by
  intro args m e
  unfold two at e
  rcases args with _ | ⟨a, _ | ⟨b, _ | ⟨c, l⟩⟩⟩ <;> simp only [reduceCtorEq, Option.some.injEq] at e
  subst e
  refine ⟨loc_bind (loc_natV a) fun n => loc_bind (loc_natV b) fun m => loc_cond (hl n m) loc_fail, ?_⟩
  intro h nx v h' nx' R W e r w args' ha hM hN
  cases ha with
  | cons ha1 ha2 =>
    cases ha2 with
    | cons hb1 hb2 =>
      cases hb2
      obtain ⟨n, h1, nx1, R1, W1, R2, W2, e1, e2, rfl, rfl⟩ := bind_ok e
      obtain ⟨rfl, rfl, rfl, hn⟩ := natV_ok e1 ha1 hM
      obtain ⟨m, h2, nx2, R3, W3, R4, W4, e3, e4, rfl, rfl⟩ := bind_ok e2
      obtain ⟨rfl, rfl, rfl, hm⟩ := natV_ok e3 hb1 hM
      obtain ⟨hs, e5⟩ := cond_ok e4
      simp only [Bool.and_eq_true] at hs
      simpa [Goes] using hk n m _ _ _ _ _ _ _ e5 r w _ _ hn hm (sz_small hs.1) (sz_small hs.2) hM hN
theorem one_ok {f : FuncId} {k : Nat → M Nat Value} (hl : ∀ n, Loc (k n)) (hk : ∀ n (h : Tr (Blk Nat)) nx v h' nx' R W, k n h nx = .ok v h' nx' R W → ∀ r w a, NatIn w a n → Sz 1000 n → Mod natSig r h.get w → New r nx nx' → Goes f [a] r w nx nx' W h'.get v) :
    SumF natSig Tryz.prog f (fun args => one args k) := by
  intro args m e
  unfold one at e
  rcases args with _ | ⟨a, _ | ⟨c, l⟩⟩ <;> simp only [reduceCtorEq, Option.some.injEq] at e
  subst e
  refine ⟨loc_bind (loc_natV a) fun n => loc_cond (hl n) loc_fail, ?_⟩
  intro h nx v h' nx' R W e r w args' ha hM hN
  cases ha with
  | cons ha1 ha2 =>
    cases ha2
    obtain ⟨n, h1, nx1, R1, W1, R2, W2, e1, e2, rfl, rfl⟩ := bind_ok e
    obtain ⟨rfl, rfl, rfl, hn⟩ := natV_ok e1 ha1 hM
    obtain ⟨hs, e5⟩ := cond_ok e2
    simpa [Goes] using hk n _ _ _ _ _ _ _ e5 r w _ hn (sz_small hs) hM hN
theorem sum_add : SumF natSig Tryz.prog 226 (fun args => two args fun n m => newFact (Nat.add n m)) :=
  two_ok (fun _ _ => loc_newFact _) fun n m h nx v h' nx' R W e r w a b hn hm sn sm hM hN => goes_new e hM hN (add_num w a b n m _ _ hn hm sn sm (by omega) (by omega))
theorem sum_sub : SumF natSig Tryz.prog 227 (fun args => two args fun n m => newFact (Nat.sub n m)) :=
  two_ok (fun _ _ => loc_newFact _) fun n m h nx v h' nx' R W e r w a b hn hm sn sm hM hN => goes_new e hM hN (sub_num w a b n m _ hn hm sn (by omega))
theorem sum_mul : SumF natSig Tryz.prog 140 (fun args => two args fun n m => newFact (Nat.mul n m)) :=
  two_ok (fun _ _ => loc_newFact _) fun n m h nx v h' nx' R W e r w a b hn hm sn sm hM hN => goes_new e hM hN (mul_num w a b n m _ _ hn hm sn sm (by omega) (by omega))
theorem sum_quo : SumF natSig Tryz.prog 138 (fun args => two args fun n m => newFact (Nat.div n m)) :=
  two_ok (fun _ _ => loc_newFact _) fun n m h nx v h' nx' R W e r w a b hn hm sn sm hM hN => goes_new e hM hN (quo_num w a b n m _ hn hm sn (by omega))
theorem sum_gcd : SumF natSig Tryz.prog 137 (fun args => two args fun n m => newFact (Nat.gcd n m)) :=
  two_ok (fun _ _ => loc_newFact _) fun n m h nx v h' nx' R W e r w a b hn hm sn sm hM hN => goes_new e hM hN (gcd_num w a b n m _ _ hn hm sn sm (by omega) (by omega))
theorem sum_cmp : SumF natSig Tryz.prog 141 (fun args => two args fun n m => ret (.int .i64 (Big.cmpI n m))) :=
  two_ok (fun _ _ => loc_ret _) fun n m h nx v h' nx' R W e r w a b hn hm _ _ hM _ => goes_val e rfl hM (drew_below (cmp_num w a b n m hn hm))
theorem sum_isOne : SumF natSig Tryz.prog 150 (fun args => one args fun n => ret (.bool (decide (n = 1)))) :=
  one_ok (fun _ => loc_ret _) fun n h nx v h' nx' R W e r w a hn _ hM _ => goes_val e rfl hM ((isOne_num w a n hn).mono fun _ _ hh => by obtain ⟨h1, h2⟩ := hh; exact ⟨h1, by first | exact h2.below _ | exact h2 ▸ Below.refl _ _⟩)
theorem sum_size : SumF natSig Tryz.prog 200 (fun args => one args fun n => ret (.int .i64 ((szN n : Nat) : Int))) :=
  one_ok (fun _ => loc_ret _) fun n h nx v h' nx' R W e r w a hn sn hM _ => goes_val e rfl hM (same_below (size_num w a n _ hn sn (by omega)))
theorem sum_bytes : SumF natSig Tryz.prog 219 (fun args => one args fun n => ret (.string (bst n))) :=
  one_ok (fun _ => loc_ret _) fun n h nx v h' nx' R W e r w a hn sn hM _ => goes_val e rfl hM (bytes_num w a n _ hn sn (by omega))
theorem sum_shl : SumF natSig Tryz.prog 248 (fun args => match args with
    | [a, b] => match b with
      | .int k s => cond (decide (k = .i64) && decide (s ≤ 64000000000)) (some (bind (natV a) fun n => cond (small n) (newFact (n * 2 ^ s.toNat)) fail)) none
      | _ => none
    | _ => none) := by
  intro args m e
  rcases args with _ | ⟨a, _ | ⟨b, _ | ⟨c, l⟩⟩⟩ <;> simp only [reduceCtorEq] at e
  cases b with
  | int k s =>
    simp only at e
    cases hk : (decide (k = .i64) && decide (s ≤ 64000000000)) with
    | false => rw [hk] at e; cases e
    | true =>
      rw [hk] at e
      simp only [cond_true, Option.some.injEq] at e
      subst e
      simp only [Bool.and_eq_true, decide_eq_true_eq] at hk
      refine ⟨loc_bind (loc_natV a) fun n => loc_cond (loc_newFact _) loc_fail, ?_⟩
      intro h nx v h' nx' R W e r w args' ha hM hN
      cases ha with
      | cons ha1 ha2 =>
        cases ha2 with
        | cons hb1 hb2 =>
          cases hb2
          obtain ⟨n, h1, nx1, R1, W1, R2, W2, e1, e2, rfl, rfl⟩ := bind_ok e
          obtain ⟨rfl, rfl, rfl, hn⟩ := natV_ok e1 ha1 hM
          obtain ⟨hs, e5⟩ := cond_ok e2
          have hb := hb1.int
          subst hb
          rw [hk.1]
          simpa [Goes] using goes_new e5 hM hN (shl_num w _ n _ s hn (sz_small hs) (by omega) hk.2)
  | _ => simp at e
theorem sum_of : SumF natSig Tryz.prog 139 (fun args => match args with
    | [a] => match a with
      | .int k s => match s with
        | .ofNat n => cond (decide (k = .u64) && Nat.ble (Nat.succ n) 18446744073709551616) (some (newFact n)) none
        | _ => none
      | _ => none
    | _ => none) := by
  intro args m e
  rcases args with _ | ⟨a, _ | ⟨c, l⟩⟩ <;> simp only [reduceCtorEq] at e
  cases a with
  | int k s =>
    cases s with
    | negSucc _ => simp at e
    | ofNat n =>
      simp only at e
      cases hk : (decide (k = .u64) && Nat.ble (Nat.succ n) 18446744073709551616) with
      | false => rw [hk] at e; cases e
      | true =>
        rw [hk] at e
        simp only [cond_true, Option.some.injEq] at e
        subst e
        simp only [Bool.and_eq_true, decide_eq_true_eq] at hk
        have hlt : n < 18446744073709551616 := Nat.le_of_ble_eq_true hk.2
        refine ⟨loc_newFact _, ?_⟩
        intro h nx v h' nx' R W e r w args' ha hM hN
        cases ha with
        | cons ha1 ha2 =>
          cases ha2
          have hb := ha1.int
          subst hb
          rw [hk.1]
          exact goes_new e hM hN (of_num w n hlt)
  | _ => simp at e
theorem sum_fromBytes : SumF natSig Tryz.prog 229 (fun args => match args with
    | [a] => match a with
      | .string s => cond (Nat.ble s.size 100000) (some (newFact (Big.bnum s.data.toList))) none
      | _ => none
    | _ => none) := by
  intro args m e
  rcases args with _ | ⟨a, _ | ⟨c, l⟩⟩ <;> simp only [reduceCtorEq] at e
  cases a with
  | string s =>
    simp only at e
    cases hk : Nat.ble s.size 100000 with
    | false => rw [hk] at e; cases e
    | true =>
      rw [hk] at e
      simp only [cond_true, Option.some.injEq] at e
      subst e
      have hlt : s.size ≤ 100000 := Nat.le_of_ble_eq_true hk
      refine ⟨loc_newFact _, ?_⟩
      intro h nx v h' nx' R W e r w args' ha hM hN
      cases ha with
      | cons ha1 ha2 =>
        cases ha2
        have hb := ha1.str
        subst hb
        exact goes_new e hM hN (fromBytes_any w s (by omega))
  | _ => simp at e
end
end Ev
end Go.Proofs.YtjjbhadnakjhdaaGreatDoor
namespace Go.Proofs.YtjjbhadnakjhdaaGreatDoor
open Go Go.RowKit
namespace Ev
noncomputable def isDig (c : UInt8) : Bool := Nat.ble 48 c.toNat && Nat.ble c.toNat 57
noncomputable def allDig (l : List UInt8) : Bool := List.rec (motive := fun _ => Bool) true (fun c _ ih => isDig c && ih) l
theorem allDig_ok : ∀ {l : List UInt8}, allDig l = true → Big.Digs l
  | [], _ => fun c hc => by simp at hc
  | c :: l, h => by
    have h' : (isDig c && allDig l) = true := h
    simp only [Bool.and_eq_true, isDig] at h'
    intro d hd
    rcases List.mem_cons.1 hd with rfl | hd
    · exact ⟨Nat.le_of_ble_eq_true h'.1.1, Nat.le_of_ble_eq_true h'.1.2⟩
    · exact allDig_ok h'.2 d hd
noncomputable def isTextB (l : List UInt8) : Bool := match l with
  | [] => false
  | c :: m => allDig (c :: m) && (match m with
    | [] => true
    | _ :: _ => Nat.ble 49 c.toNat)
theorem isTextB_ok {l : List UInt8} (h : isTextB l = true) : Big.IsText l := by
  match l, h with
  | [c], h =>
    simp only [isTextB, Bool.and_eq_true] at h
    exact ⟨by simp, fun e => by simp at e; rw [e], allDig_ok h.1⟩
  | c :: d :: m, h =>
    simp only [isTextB, Bool.and_eq_true] at h
    refine ⟨by simp, fun e => ?_, allDig_ok h.1⟩
    simp at e
    have := Nat.le_of_ble_eq_true h.2
    subst e
    exact absurd this (by decide)
noncomputable def dnumF (l : List UInt8) : Nat → Nat := List.rec (motive := fun _ => Nat → Nat) (fun n => n) (fun c _ ih n => ih (Nat.add (Nat.mul n 10) (Nat.sub c.toNat 48))) l
theorem dnumF_eq : ∀ (l : List UInt8) (n : Nat), dnumF l n = l.foldl (fun n c => n * 10 + (c.toNat - 48)) n
  | [], _ => rfl
  | _ :: l, _ => dnumF_eq l _
section
variable {h h' : Tr (Blk Nat)} {nx nx' : Nat} {R W : List Nat} {r : Ren} {w : World} {v : Value}
theorem goes_new1 {N : Nat} {u : Value} (hp : plain u = true) {f : FuncId} {args' : List Value} (e : (bind (newFact N) fun x => ret (.tuple ⟨[x, u]⟩) : M Nat Value) h nx = .ok v h' nx' R W) (hM : Mod natSig r h.get w) (hN : New r nx nx')
    (c : Calls Tryz.prog f ⟨args'⟩ w fun e w' => ∃ v', e = .returned (.tuple ⟨[v', u]⟩) ∧ NatIn w' v' N ∧ Below w.heap.size w w') : Goes f args' r w nx nx' W h'.get v := by
  obtain ⟨x, h0, nx0, R0, W0, R3, W3, e0, e3, rfl, rfl⟩ := bind_ok e
  obtain ⟨rfl, rfl, rfl, rfl⟩ := ret_ok e3
  obtain ⟨i, h1, nx1, R1, W1, R2, W2, e1, e2, rfl, rfl⟩ := bind_ok e0
  obtain ⟨rfl, rfl, rfl, rfl⟩ := ret_ok e2
  unfold fresh at e1
  cases e1
  refine c.mono ?_
  rintro en w' ⟨v', rfl, hv, hb⟩
  obtain ⟨r', hX, hr⟩ := ext_fact (S := natSig) (f := N) hM hb hN hv (nat_one hv)
  exact ⟨.tuple ⟨[v', u]⟩, r', rfl, .tuple (.cons (.opq hr (nat_one hv)) (.cons (.same hp) .nil)), by simpa using hX.congr fun n => .inr (Tr.get_set _ _ _ _)⟩
theorem goes_new2 {N M' : Nat} {f : FuncId} {args' : List Value} (e : (bind (newFact N) fun x => bind (newFact M') fun y => ret (.tuple ⟨[x, y]⟩) : M Nat Value) h nx = .ok v h' nx' R W) (hM : Mod natSig r h.get w) (hN : New r nx nx')
    (c : Calls Tryz.prog f ⟨args'⟩ w fun e w' => ∃ a b, e = .returned (.tuple ⟨[a, b]⟩) ∧ NatIn w' a N ∧ NatIn w' b M' ∧ Below w.heap.size w w') : Goes f args' r w nx nx' W h'.get v := by
  obtain ⟨x, h0, nx0, R0, W0, R3, W3, e0, e3, rfl, rfl⟩ := bind_ok e
  obtain ⟨i, h1, nx1, R1, W1, R2, W2, e1, e2, rfl, rfl⟩ := bind_ok e0
  obtain ⟨rfl, rfl, rfl, rfl⟩ := ret_ok e2
  unfold fresh at e1
  cases e1
  obtain ⟨y, h4, nx4, R4, W4, R5, W5, e4, e5, rfl, rfl⟩ := bind_ok e3
  obtain ⟨rfl, rfl, rfl, rfl⟩ := ret_ok e5
  obtain ⟨j, h6, nx6, R6, W6, R7, W7, e6, e7, rfl, rfl⟩ := bind_ok e4
  obtain ⟨rfl, rfl, rfl, rfl⟩ := ret_ok e7
  unfold fresh at e6
  cases e6
  refine c.mono ?_
  rintro en w' ⟨a, b, rfl, ha, hb', hb⟩
  obtain ⟨r1, hX, hr⟩ := ext_fact (S := natSig) (f := N) hM hb (hN.sub (Nat.le_refl _) (by omega)) ha (nat_one ha)
  have hN2 := New.after (hN.sub (lo' := nx) (hi' := nx + 1 + 1) (Nat.le_refl _) (by omega)) hX (by omega)
  obtain ⟨r2, hY, hs⟩ := ext_fact (S := natSig) (f := M') hX.mod (Below.refl _ w') hN2 hb' (nat_one hb')
  refine ⟨.tuple ⟨[a, b]⟩, r2, rfl, .tuple (.cons (.opq (hY.le.val _ _ hr) (nat_one ha)) (.cons (.opq hs (nat_one hb')) .nil)), ?_⟩
  have hZ := hX.trans hY (by omega) (by omega)
  refine Ext.congr (by simpa using hZ) fun n => .inr ?_
  rw [Tr.get_set, Tr.get_set]
end
theorem sum_bits : SumF natSig Tryz.prog 297 (fun args => one args fun n => ret (.int .i64 ((bitsN n : Nat) : Int))) :=
  one_ok (fun _ => loc_ret _) fun n h nx v h' nx' R W e r w a hn sn hM _ => goes_val e rfl hM (same_below (bits_num w a n _ hn sn (by omega)))
theorem sum_word : SumF natSig Tryz.prog 298 (fun args => one args fun n => ret (.tuple #[.int .u64 (((if n < Big.M64 then n else 0) : Nat) : Int), .bool (decide (n < Big.M64))])) :=
  one_ok (fun _ => loc_ret _) fun n h nx v h' nx' R W e r w a hn _ hM _ => goes_val e rfl hM (same_below (word2_any w a n hn))
theorem sum_quoRem : SumF natSig Tryz.prog 221 (fun args => two args fun n m => bind (newFact (Nat.div n m)) fun x => bind (newFact (Nat.mod n m)) fun y => ret (.tuple ⟨[x, y]⟩)) :=
  two_ok (fun _ _ => loc_bind (loc_newFact _) fun _ => loc_bind (loc_newFact _) fun _ => loc_ret _) fun n m h nx v h' nx' R W e r w a b hn hm sn sm hM hN => goes_new2 e hM hN (quoRem_num w a b n m _ hn hm sn (by omega))
theorem sum_parse : SumF natSig Tryz.prog 154 (fun args => match args with
    | [a] => match a with
      | .string s => cond (Nat.ble s.size 100000 && isTextB s.data.toList) (some (bind (newFact (dnumF s.data.toList 0)) fun x => ret (.tuple ⟨[x, .bool true]⟩))) none
      | _ => none
    | _ => none) := by
  intro args m e
  rcases args with _ | ⟨a, _ | ⟨c, l⟩⟩ <;> simp only [reduceCtorEq] at e
  cases a with
  | string s =>
    simp only at e
    cases hk : (Nat.ble s.size 100000 && isTextB s.data.toList) with
    | false => rw [hk] at e; cases e
    | true =>
      rw [hk] at e
      simp only [cond_true, Option.some.injEq] at e
      subst e
      simp only [Bool.and_eq_true] at hk
      have hlt : s.size ≤ 100000 := Nat.le_of_ble_eq_true hk.1
      refine ⟨loc_bind (loc_newFact _) fun _ => loc_ret _, ?_⟩
      intro h nx v h' nx' R W e r w args' ha hM hN
      cases ha with
      | cons ha1 ha2 =>
        cases ha2
        have hb := ha1.str
        subst hb
        exact goes_new1 rfl e hM hN (by
          rw [dnumF_eq]
          exact parse_any w s (isTextB_ok hk.2) (by omega))
  | _ => simp at e
end Ev
end Go.Proofs.YtjjbhadnakjhdaaGreatDoor
namespace Go.Proofs.YtjjbhadnakjhdaaGreatDoor
open Go.RowKit
end Go.Proofs.YtjjbhadnakjhdaaGreatDoor
namespace Go.Proofs.YtjjbhadnakjhdaaGreatDoor
open Go.RowKit
end Go.Proofs.YtjjbhadnakjhdaaGreatDoor
namespace Go.Proofs.YtjjbhadnakjhdaaGreatDoor
open Go.RowKit
end Go.Proofs.YtjjbhadnakjhdaaGreatDoor
namespace Go.Proofs.YtjjbhadnakjhdaaGreatDoor
open Go.RowKit
end Go.Proofs.YtjjbhadnakjhdaaGreatDoor
namespace Go.Proofs.YtjjbhadnakjhdaaGreatDoor
open Go.RowKit
end Go.Proofs.YtjjbhadnakjhdaaGreatDoor
namespace Go.Proofs.YtjjbhadnakjhdaaGreatDoor
open Go Go.RowKit
namespace Ev
structure T3 where
  s : Bool
  n : Nat
  d : Nat
def T3.q (t : T3) : Rat := mkRat (Big.sI t.s t.n) t.d
noncomputable def T3.good (t : T3) : Bool := Nat.ble 1 t.d && (Nat.beq (Nat.gcd t.n t.d) 1 && ((!t.s || Nat.ble 1 t.n) && (small t.n && small t.d)))
theorem T3.parts {t : T3} (h : t.good = true) : Big.ng t.q = t.s ∧ Big.nu t.q = t.n ∧ Big.de t.q = t.d := by
  unfold T3.good at h
  simp only [Bool.and_eq_true, Bool.or_eq_true, Bool.not_eq_true'] at h
  obtain ⟨h1, h2, h3, -⟩ := h
  have h1 := Nat.le_of_ble_eq_true h1
  refine Big.parts (N := Big.sI t.s t.n) (D := t.d) h1 (Nat.eq_of_beq_eq_true h2) (fun hs => ?_) (by omega) rfl rfl
  rcases h3 with h3 | h3
  · rw [hs] at h3; cases h3
  · exact Nat.le_of_ble_eq_true h3
theorem T3.sm {t : T3} (h : t.good = true) : Sm 1000 t.q := by
  obtain ⟨_, h2, h3⟩ := T3.parts h
  unfold T3.good at h
  simp only [Bool.and_eq_true] at h
  exact ⟨by rw [h2]; exact sz_small h.2.2.2.1, by rw [h3]; exact sz_small h.2.2.2.2⟩
section
variable {h h' : Tr (Blk Nat)} {nx nx' : Nat} {R W : List Nat} {r : Ren} {w : World} {v v' : Value}
end
theorem T3.pos {t : T3} (h : t.good = true) : t.d ≠ 0 := by
  unfold T3.good at h
  simp only [Bool.and_eq_true] at h
  have := Nat.le_of_ble_eq_true h.1
  omega
end Ev
end Go.Proofs.YtjjbhadnakjhdaaGreatDoor
namespace Go.Proofs.YtjjbhadnakjhdaaGreatDoor
open Go.RowKit
set_option maxRecDepth 100000 in
theorem twos_any (w : World) (v : Value) (l : List Nat) (h : Wd w .u64 v l) (hl : l.length ≤ 1000000) (i t k : Nat) (hi : i < l.length) (hz : ∀ j, j < i → Big.nth l j = 0) (ht : Big.nth l i = t) (ht0 : t ≠ 0) (hk : k < 64)
    (H : Calls Tryz.prog 171 #[.int .u64 (t : Int)] w fun e w' => e = .returned (.int .i64 (k : Int)) ∧ w' = w) :
    Calls Tryz.prog 305 #[v] w fun e w' => e = .returned (.int .i64 ((i * 64 + k : Nat) : Int)) ∧ w = w' := by
  have HC := Lib.hid H
  obtain ⟨A, c, rfl, h1, h2, h3⟩ := h
  obtain ⟨b, o, rfl, hlt, hc, -⟩ := h3 (by omega)
  have HCC := Lib.hid hc
  have HZ := Lib.hid hz
  have ht1 : ((t : Int) != 0) = true := by simp; omega
  clear H h3 hc hz
  go_enter Tryz.func305, Tryz.ntmps305
  go_wp2_with fail
  go_loopw [7] (fun ix wr => ∃ (j : Nat), j ≤ i ∧ ix = .int .i64 j ∧ wr = w) (fun ix _ => l.length - (intOf ix).toNat)
  case atStart => exact ⟨0, by omega, rfl, rfl⟩
  case round =>
    obtain ⟨j, hj, rfl, rfl⟩ := hrel
    have hjl : (j : Int) < (l.length : Int) := by omega
    have hcell := HCC.out j (by omega)
    by_cases hji : j = i
    · subst hji
      rw [ht] at hcell
      go_wp2_with (go_at_call 171; refine HC.out.mono ?_; rintro e w' ⟨rfl, rfl⟩)
      go_ret
      exact ⟨ret_int (by omega), rfl⟩
    · have h0 := HZ.out j (by omega)
      rw [h0] at hcell
      go_wp2_with fail
      exact ⟨⟨j + 1, by omega, by go_num, by first | trivial | rfl⟩, by simp [intOf]; omega⟩
theorem twos_nil (w : World) (c : Nat) (A : Option Addr) :
    Calls Tryz.prog 305 #[.slice A 0 c] w fun e w' => e = .returned (.int .i64 0) ∧ w = w' := by
  go_enter Tryz.func305, Tryz.ntmps305
  go_wp2_with fail
  go_loopw [7] (fun ix wr => ix = .int .i64 0 ∧ wr = w) (fun _ _ => 0)
  case atStart => exact ⟨rfl, rfl⟩
  case round =>
    obtain ⟨rfl, rfl⟩ := hrel
    go_wp2_with fail
    go_ret
    simp
def Tryz.lays29_ren : Go.Shelf.Ren := ⟨fun | 29 => 171 | n => n, fun | 0 => 0 | 3 => 3 | 4 => 4 | 5 => 5 | 22 => 52 | 25 => 199 | 54 => 275 | n => n, fun | 1 => 1 | n => n⟩
theorem Tryz.lays29 : Go.Proofs.Lays7.n29 Tryz.prog Tryz.lays29_ren := {
  mixed := by kernel_rfl
  f29 := Tryz.func171.trans (congrArg some (by kernel_rfl))
  t0 := Tryz.underlying0
  a0 := Tryz.isAgg0
  z0 := Tryz.sizeOf0
  v0 := Tryz.zeroValue0
  i0 := by kernel_rfl
  t3 := Tryz.underlying3
  a3 := Tryz.isAgg3
  z3 := Tryz.sizeOf3
  v3 := Tryz.zeroValue3
  i3 := by kernel_rfl
  t4 := Tryz.underlying4
  a4 := Tryz.isAgg4
  z4 := Tryz.sizeOf4
  v4 := Tryz.zeroValue4
  i4 := by kernel_rfl
  t5 := Tryz.underlying5
  a5 := Tryz.isAgg5
  z5 := Tryz.sizeOf5
  v5 := Tryz.zeroValue5
  i5 := by kernel_rfl
  t22 := Tryz.underlying52
  a22 := Tryz.isAgg52
  z22 := Tryz.sizeOf52
  v22 := Tryz.zeroValue52
  i22 := by kernel_rfl
  t25 := Tryz.underlying199
  a25 := Tryz.isAgg199
  z25 := Tryz.sizeOf199
  v25 := Tryz.zeroValue199
  i25 := by kernel_rfl
  t54 := Tryz.underlying275
  a54 := Tryz.isAgg275
  z54 := Tryz.sizeOf275
  g1 := by kernel_rfl }
def Tab64 (w : World) : Prop := ∀ j, j < 64 → w.cell? ⟨1, j, none⟩ = some (.int .u8 ((Lib.deBruijn64tab.getD j 0 : Nat) : Int))
theorem tz64 (x : Nat) (hx : x < 18446744073709551616) (w : World) (hT : Tab64 w) :
    Calls Tryz.prog 171 #[.int .u64 (x : Int)] w fun e w' => e = .returned (.int .i64 ((Lib.ctz 64 x : Nat) : Int)) ∧ w' = w :=
  Any7.bits_TrailingZeros64 Tryz.lays29 x hx w (fun _ => hT)
def tzN : Nat → Nat → Nat
  | 0, _ => 0
  | f + 1, n => if n % 18446744073709551616 = 0 then tzN f (n / 18446744073709551616) + 64 else Lib.ctz 64 (n % 18446744073709551616)
theorem tzN_at : ∀ (f : Nat) (l : List Nat), Big.Ok Big.M64 l → l.length ≤ f → Big.val Big.M64 l ≠ 0 → ∃ i, i < l.length ∧ (∀ j, j < i → Big.nth l j = 0) ∧ Big.nth l i ≠ 0 ∧ tzN f (Big.val Big.M64 l) = i * 64 + Lib.ctz 64 (Big.nth l i)
  | f, [], _, _, h => absurd rfl h
  | 0, _ :: _, _, hl, _ => by simp at hl
  | f + 1, d :: l, ol, hl, h => by
    have hd := ol.head
    rw [Big.M64_eq] at hd
    have e1 : Big.val Big.M64 (d :: l) % 18446744073709551616 = d := by
      show (d + Big.M64 * Big.val Big.M64 l) % _ = d
      rw [Big.M64_eq]; omega
    have e2 : Big.val Big.M64 (d :: l) / 18446744073709551616 = Big.val Big.M64 l := by
      show (d + Big.M64 * Big.val Big.M64 l) / _ = _
      rw [Big.M64_eq]; omega
    unfold tzN
    rw [e1, e2]
    by_cases h0 : d = 0
    · subst h0
      rw [if_pos rfl]
      have hne : Big.val Big.M64 l ≠ 0 := fun e => h (by show 0 + Big.M64 * Big.val Big.M64 l = 0; rw [e]; rfl)
      obtain ⟨i, a1, a2, a3, a4⟩ := tzN_at f l ol.tail (by simpa using hl) hne
      refine ⟨i + 1, by simpa using a1, fun j hj => ?_, by simpa [Big.nth] using a3, ?_⟩
      · cases j with
        | zero => rfl
        | succ j => simpa [Big.nth] using a2 j (by omega)
      · rw [a4]
        have : Big.nth (0 :: l) (i + 1) = Big.nth l i := by simp [Big.nth]
        rw [this]; omega
    · rw [if_neg h0]
      exact ⟨0, by simp, fun j hj => by omega, by simpa [Big.nth] using h0, by simp [Big.nth]⟩
def tzW (n : Nat) : Nat := if n = 0 then 0 else tzN 1000 n
theorem twos_num (w : World) (v : Value) (N : Nat) (h : NatIn w v N) (hN : Sz 1000 N) (hT : Tab64 w) :
    Calls Tryz.prog 305 #[v] w fun e w' => e = .returned (.int .i64 ((tzW N : Nat) : Int)) ∧ w = w' := by
  obtain ⟨l, h1, h2, h3, h4⟩ := h
  have hl : l.length ≤ 1000 := len_of_lt h3 (by rw [h4]; exact hN.out)
  by_cases h0 : N = 0
  · subst h0
    obtain rfl := Big.norm_zero Big.M64_pos l h3 h4
    obtain ⟨A, c, rfl, -, -, -⟩ := h1
    exact twos_nil w c A
  · obtain ⟨i, a1, a2, a3, a4⟩ := tzN_at 1000 l h2 hl (by rw [h4]; exact h0)
    rw [h4] at a4
    have ht := h2.nth Big.M64_pos i
    rw [Big.M64_eq] at ht
    rw [show tzW N = tzN 1000 N from if_neg h0, a4]
    exact twos_any w v l h1 (by omega) i _ _ a1 a2 rfl a3 (Lib.lowest_bit 64 _ a3 ht).2 (tz64 _ ht w hT)
set_option maxRecDepth 100000 in
theorem slice_on (b o d len c : Nat) (hd : d ≤ len) (hc : d ≠ c) (W : World) :
    (Instr.slice 96 (.slice (some ⟨b, o, none⟩) len c) (some (.int .i64 (d : Int))) none none).run Tryz.prog W = .ok (.slice (some ⟨b, o + d, none⟩) (len - d) (c - d)) W := by
  have e : Tryz.prog.elem 96 = 52 := by kernel_rfl
  have hs : (sizeOf 52).run Tryz.prog W = .ok 1 W := by kernel_rfl
  rw [run_slice_l (P := Tryz.prog) (w := W) 96 (some ⟨b, o, none⟩) len c (by rw [e]; exact Tryz.underlying96) .i64 (d : Int) (by omega) (by omega), e, hs]
  show Result.ok _ W = _
  simp only [sliced, Int.toNat_natCast, Nat.mul_one]
  rw [if_neg (by omega)]
  congr 1
  simp [Addr.add]
theorem drop_val {l : List Nat} {d : Nat} (ol : Big.Ok Big.M64 l) (hd : d ≤ l.length) : Big.val Big.M64 (l.drop d) = Big.val Big.M64 l / 2 ^ (64 * d) := by
  have h1 := Big.val_take_drop (B := Big.M64) l d hd
  have h2 := Big.val_lt (B := Big.M64) (l.take d) (ol.take d)
  rw [List.length_take, Nat.min_eq_left hd] at h2
  rw [← M64_pow, h1, Nat.add_mul_div_left _ _ (Nat.pow_pos Big.M64_pos), Nat.div_eq_of_lt h2, Nat.zero_add]
set_option maxRecDepth 100000 in
set_option maxHeartbeats 2000000 in
theorem shr_words (w : World) (v : Value) (l : List Nat) (d s : Nat) (h : Wd w .u64 v l) (ol : Big.Ok Big.M64 l) (hs : s ≤ 63) (hd : d < l.length) (h0 : 64 * d + s ≠ 0) (hl : l.length ≤ 1000000000) :
    Calls Tryz.prog 307 #[v, .int .i64 ((64 * d + s : Nat) : Int)] w (Nat1 w (Big.val Big.M64 l / 2 ^ (64 * d + s))) := by
  obtain ⟨A, c, rfl, h1, h2, h3⟩ := h
  obtain ⟨b, o, rfl, hlt, hc, hty⟩ := h3 (by omega)
  have hdl : (l.drop d).length = l.length - d := List.length_drop
  have hw2 : Wd w .u64 (.slice (some ⟨b, o + d, none⟩) (l.length - d) (c - d)) (l.drop d) := by
    refine ⟨_, c - d, by rw [hdl], by omega, by omega, fun _ => ⟨b, o + d, rfl, hlt, fun i hi => ?_, hty⟩⟩
    rw [hdl] at hi
    rw [Nat.add_assoc, hc (d + i) (by omega)]
    unfold Big.nth
    rw [List.getD_eq_getElem?_getD, List.getD_eq_getElem?_getD, List.getElem?_drop]
  have CL := Lib.hid (clone_any w _ _ hw2 (by omega))
  have HS := Lib.hid (fun W => slice_on b o d l.length c (by omega) (by omega) W)
  have HV := Lib.hid (drop_val (d := d) ol (by omega))
  have OD := Lib.hid (ol.drop d)
  rw [hdl] at CL
  obtain ⟨n, hn⟩ : ∃ n : Int, ((64 * d + s : Nat) : Int) = n := ⟨_, rfl⟩
  have q1 : Int.tdiv n 64 = d := by subst hn; rw [Int.tdiv_eq_ediv_of_nonneg (Int.natCast_nonneg _)]; omega
  have q2 : Int.tmod n 64 = s := by subst hn; rw [Int.tmod_eq_emod_of_nonneg (Int.natCast_nonneg _)]; omega
  have q3 : (n ≤ 0) = False := by rw [eq_iff_iff, iff_false]; omega
  have q4 : ((l.length : Int) ≤ (d : Int)) = False := by rw [eq_iff_iff, iff_false]; omega
  have hwr : IntKind.i64.wrap ((d : Nat) : Int) = (d : Int) := by rw [IntKind.wrap_i64]; omega
  rw [hn, Nat.pow_add, ← Nat.div_div_eq_div_mul, ← HV.out]
  have hsl := HS.out w
  clear h3 hc hty hw2 hn h0 ol HV
  go_enter Tryz.func307, Tryz.ntmps307
  go_wp2_with fail
  refine CL.out.mono ?_
  rintro e w1 ⟨rfl, hb, hw1⟩
  have CB := Lib.hid (shiftedBack_any w1 w.heap.size (l.length - d) (l.length - d + 1) s (l.drop d) [0] hb hdl (by omega) (by omega) OD.out hs)
  have HW1 := Lib.hid hw1
  clear hb hw1 CL HS OD hsl
  go_wp2_with fail
  refine CB.out.mono ?_
  rintro e w2 ⟨v', rfl, hv, ho, -⟩
  go_wp2_with fail
  go_ret
  exact ⟨v', rfl, hv, ho.below HW1.out (Nat.le_refl _) HW1.out.size⟩
set_option maxRecDepth 100000 in
theorem shr_num (w : World) (v : Value) (N : Nat) (n : Int) (h : NatIn w v N) (hN : Sz 1000 N) (hn : n ≤ 1000000) :
    Calls Tryz.prog 307 #[v, .int .i64 n] w (Nat1 w (N / 2 ^ n.toNat)) := by
  have HN := Lib.hid h
  obtain ⟨l, h1, h2, h3, h4⟩ := h
  have hl : l.length ≤ 1000 := len_of_lt h3 (by rw [h4]; exact hN.out)
  by_cases n0 : n ≤ 0
  · obtain ⟨A, c, rfl, -, -, -⟩ := h1
    rw [show n.toNat = 0 by omega, Nat.pow_zero, Nat.div_one]
    clear hN h2 h3 h4
    go_enter Tryz.func307, Tryz.ntmps307
    go_wp2
    go_ret
    exact ⟨_, rfl, HN.out, Below.refl _ _⟩
  · obtain ⟨k, rfl⟩ : ∃ k : Nat, n = (k : Int) := ⟨n.toNat, by omega⟩
    rw [Int.toNat_natCast]
    by_cases hd : k / 64 < l.length
    · have := shr_words w v l (k / 64) (k % 64) h1 h2 (by omega) hd (by omega) (by omega)
      rw [show 64 * (k / 64) + k % 64 = k by omega, h4] at this
      exact this
    · have e0 : N / 2 ^ k = 0 := by
        apply Nat.div_eq_of_lt
        have h5 := Big.val_lt l h2
        rw [h4, M64_pow] at h5
        exact Nat.lt_of_lt_of_le h5 (Nat.pow_le_pow_right (by omega) (by omega))
      rw [e0]
      obtain ⟨A, c, rfl, -, -, -⟩ := h1
      have q1 : Int.tdiv (k : Int) 64 = ((k / 64 : Nat) : Int) := by rw [Int.tdiv_eq_ediv_of_nonneg (Int.natCast_nonneg _)]; omega
      have q4 : ((l.length : Int) ≤ ((k / 64 : Nat) : Int)) = True := by rw [eq_iff_iff, iff_true]; omega
      have hwr : IntKind.i64.wrap ((k / 64 : Nat) : Int) = ((k / 64 : Nat) : Int) := by rw [IntKind.wrap_i64]; omega
      generalize k / 64 = d at *
      clear hN h2 h3 h4 e0 HN
      go_enter Tryz.func307, Tryz.ntmps307
      go_wp2
      go_ret
      exact ⟨_, rfl, NatIn.nil_ _, Below.refl _ _⟩
end Go.Proofs.YtjjbhadnakjhdaaGreatDoor
namespace Go.Proofs.YtjjbhadnakjhdaaGreatDoor
open Go Go.RowKit
namespace Ev
noncomputable def shrS (args : List Value) : Option (M Nat Value) := match args with
    | [a, b] => match b with
      | .int k s => cond (decide (k = .i64) && decide (s ≤ 1000000)) (some (bind (natV a) fun n => cond (small n) (newFact (n / 2 ^ s.toNat)) fail)) none
      | _ => none
    | _ => none
theorem sum_shr : SumF natSig Tryz.prog 307 shrS := by
  intro args m e
  unfold shrS at e
  rcases args with _ | ⟨a, _ | ⟨b, _ | ⟨c, l⟩⟩⟩ <;> simp only [reduceCtorEq] at e
  cases b with
  | int k s =>
    simp only at e
    cases hk : (decide (k = .i64) && decide (s ≤ 1000000)) with
    | false => rw [hk] at e; cases e
    | true =>
      rw [hk] at e
      simp only [cond_true, Option.some.injEq] at e
      subst e
      simp only [Bool.and_eq_true, decide_eq_true_eq] at hk
      refine ⟨loc_bind (loc_natV a) fun n => loc_cond (loc_newFact _) loc_fail, ?_⟩
      intro h nx v h' nx' R W e r w args' ha hM hN
      cases ha with
      | cons ha1 ha2 =>
        cases ha2 with
        | cons hb1 hb2 =>
          cases hb2
          obtain ⟨n, h1, nx1, R1, W1, R2, W2, e1, e2, rfl, rfl⟩ := bind_ok e
          obtain ⟨rfl, rfl, rfl, hn⟩ := natV_ok e1 ha1 hM
          obtain ⟨hs, e5⟩ := cond_ok e2
          have hb := hb1.int
          subst hb
          rw [hk.1]
          simpa [Goes] using goes_new e5 hM hN (shr_num w _ n s hn (sz_small hs) hk.2)
  | _ => simp at e
theorem sum_twos : SumF natSig Tryz.prog 305 (fun args => one args fun n => ret (.int .i64 ((tzW n : Nat) : Int))) :=
  one_ok (fun _ => loc_ret _) fun n h nx v h' nx' R W e r w a hn sn hM _ => goes_val e rfl hM (same_below (twos_num w a n hn sn hM.base))
noncomputable def tzS (args : List Value) : Option (M Nat Value) := match args with
  | [a] => match a with
    | .int k s => match s with
      | .ofNat n => cond (decide (k = .u64) && Nat.ble (Nat.succ n) 18446744073709551616) (some (ret (.int .i64 ((Lib.ctz 64 n : Nat) : Int)))) none
      | _ => none
    | _ => none
  | _ => none
theorem sum_tz : SumF natSig Tryz.prog 171 tzS := by
  intro args m e
  unfold tzS at e
  rcases args with _ | ⟨a, _ | ⟨c, l⟩⟩ <;> simp only [reduceCtorEq] at e
  cases a <;> simp only [reduceCtorEq] at e
  rename_i k s
  cases s with
  | negSucc n => simp at e
  | ofNat n =>
    simp only at e
    cases hk : (decide (k = .u64) && Nat.ble (Nat.succ n) 18446744073709551616) with
    | false => rw [hk] at e; cases e
    | true =>
      rw [hk] at e
      cases e
      simp only [Bool.and_eq_true, decide_eq_true_eq] at hk
      refine ⟨loc_ret _, ?_⟩
      intro h nx v h' nx' R W e r w args' ha hM hN
      cases ha with
      | cons ha1 ha2 =>
        cases ha2
        obtain rfl := ha1.int
        obtain ⟨rfl, hn⟩ := hk
        have hn := Nat.le_of_ble_eq_true hn
        simpa [Goes] using goes_val e rfl hM ((tz64 n hn w hM.base).mono fun _ _ ⟨h1, h2⟩ => ⟨h1, h2 ▸ Below.refl _ _⟩)
end Ev
end Go.Proofs.YtjjbhadnakjhdaaGreatDoor
namespace Go.Proofs.YtjjbhadnakjhdaaGreatDoor
open Go Go.RowKit
namespace Ev
noncomputable def strsOf (l : List Value) : Option (List ByteArray) := List.rec (motive := fun _ => Option (List ByteArray)) (some []) (fun v _ ih => match v with
  | .string s => match ih with
    | some l => some (s :: l)
    | none => none
  | _ => none) l
theorem strsOf_ok : ∀ {l : List Value} {xs : List ByteArray}, strsOf l = some xs → l = xs.map .string
  | [], xs, h => by cases (show some [] = some xs from h); rfl
  | v :: l, xs, h => by
    cases v with
    | string s =>
      have h' : (match strsOf l with | some l => some (s :: l) | none => none) = some xs := h
      cases hl : strsOf l with
      | none => rw [hl] at h'; cases h'
      | some ys =>
        rw [hl] at h'
        cases h'
        rw [strsOf_ok hl]; rfl
    | _ => exact absurd (show (none : Option (List ByteArray)) = some xs from h) (by simp)
theorem strs_same {r : Ren} : ∀ {xs : List ByteArray} {l : List Value}, VsR r (xs.map .string) l → l = xs.map .string
  | [], _, h => by cases h; rfl
  | x :: xs, _, h => by
    cases h with
    | cons a b => rw [a.str, strs_same b]; rfl
noncomputable def capOf (c : Nat) : Nat := cond (Nat.ble capX c) (Nat.mod c capX) c
theorem capOf_le {r : Ren} {b off l c : Nat} {v' : Value} (h : VR r (vslice b off l c) v') : ∃ b' c', r.blk b = some b' ∧ v' = vslice b' off l c' ∧ capOf c ≤ c' := by
  obtain ⟨b', c', hb, hv, hc⟩ := slice_cases h
  refine ⟨b', c', hb, hv, ?_⟩
  unfold capOf
  rcases hc with ⟨hlt, rfl⟩ | ⟨s, c0, rfl, hc0, hle, _⟩
  · have hb0 : Nat.ble capX c' = false := by
      cases hq : Nat.ble capX c' with
      | false => rfl
      | true => have := Nat.le_of_ble_eq_true hq; omega
    rw [hb0]; exact Nat.le_refl _
  · have hmod : Nat.mod (capX * (s + 1) + c0) capX = c0 := by
      show (capX * (s + 1) + c0) % capX = c0
      unfold capX at hc0 ⊢; omega
    have hb0 : Nat.ble capX (capX * (s + 1) + c0) = true := Nat.ble_eq_true_of_le (by unfold capX; omega)
    rw [hb0, hmod]; exact hle
noncomputable def joined (xs : List ByteArray) (sep : ByteArray) : List UInt8 := Lib.join (xs.map (·.data.toList)) sep.data.toList
noncomputable def joinK (xs : List ByteArray) (n c : Nat) (sep : ByteArray) : M Nat Value := cond (Nat.ble n (capOf c) && Nat.ble n 100000 && Nat.ble (joined xs sep).length 100000) (ret (.string ⟨(joined xs sep).toArray⟩)) fail
noncomputable def joinS (args : List Value) : Option (M Nat Value) := match args with
  | [v, s] => match s with
    | .string sep => match sliceOf v with
      | some y => match y.1 with
        | some a => some (bind (rowO a.1 a.2 y.2.1) fun l => match strsOf l with
          | some xs => joinK xs y.2.1 y.2.2 sep
          | none => fail)
        | none => none
      | none => none
    | _ => none
  | _ => none
theorem sum_join : SumF natSig Tryz.prog 116 joinS := by
  intro args m e
  unfold joinS at e
  rcases args with _ | ⟨v, _ | ⟨s, _ | ⟨z, l⟩⟩⟩ <;> simp only [reduceCtorEq] at e
  cases s <;> simp only [reduceCtorEq] at e
  rename_i sep
  cases hs : sliceOf v with
  | none => rw [hs] at e; cases e
  | some y =>
  obtain ⟨base, n, c⟩ := y
  rw [hs] at e
  simp only at e
  cases base with
  | none => cases e
  | some a =>
  obtain ⟨b, off⟩ := a
  cases e
  refine ⟨loc_bind (loc_rowO _ _ _) fun l => by
    split
    · exact loc_cond (loc_ret _) loc_fail
    · exact loc_fail, ?_⟩
  intro h nx u h' nx' R W e r w args' hargs hM hN
  cases hargs with
  | cons h1 h2 => cases h2 with
    | cons h2 h3 =>
      cases h3
      obtain rfl := h2.str
      have hvs : v = vslice b off n c := sliceOf_of hs
      subst hvs
      obtain ⟨b', c', hb, rfl, hc⟩ := capOf_le h1
      obtain ⟨l, g1, nx1, R1, W1, R2, W2, e1, e2, rfl, rfl⟩ := bind_ok e
      obtain ⟨rfl, rfl, rfl, hl, l', q1, _, q3⟩ := rowO_ok e1 hM hb
      cases hx : strsOf l with
      | none => rw [hx] at e2; simp [fail] at e2
      | some xs =>
        rw [hx] at e2
        simp only at e2
        obtain rfl := strsOf_ok hx
        obtain rfl := strs_same q1
        unfold joinK at e2
        obtain ⟨hk, e3⟩ := cond_ok e2
        simp only [Bool.and_eq_true] at hk
        obtain ⟨⟨k1, k2⟩, k3⟩ := hk
        have k1 := Nat.le_of_ble_eq_true k1
        have k2 := Nat.le_of_ble_eq_true k2
        have k3 := Nat.le_of_ble_eq_true k3
        have hn : xs.length = n := by simpa using hl
        subst hn
        have hcall := Tryz.strings_Join b' off c' xs sep w (fun j x hj => q3 j _ (by rw [List.getElem?_map, hj]; rfl)) (hM.lt _ _ hb) (by omega) (by omega) (by unfold joined at k3; omega)
        simpa [Goes, vslice] using goes_val e3 rfl hM hcall
end Ev
end Go.Proofs.YtjjbhadnakjhdaaGreatDoor
