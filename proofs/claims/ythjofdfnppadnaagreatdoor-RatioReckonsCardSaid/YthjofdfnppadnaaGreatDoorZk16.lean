/- Contracts, in this order: nat: Shl, Bits. · exact: log2, nearestQuo. · The interpreter: package nat's functions, of what is known. · The interpreter: package nat's texts, and what it answers in · The interpreter: from a run to what the program does. · The interpreter: calls of plain values whose answers are kno -/
import Derived.Test.YthjofdfnppadnaaGreatDoorZk09
import Derived.Test.YthjofdfnppadnaaGreatDoorZk08
import Derived.Deep.RegionWith
import Derived.StillTailTactics
import Derived.Test.YthjofdfnppadnaaGreatDoorZk15
import Derived.Test.YthjofdfnppadnaaGreatDoorZk14
namespace Go.Proofs.YthjofdfnppadnaaGreatDoor
open Go.RowKit
theorem splice_at (k : IntKind) (off : Nat) (cur xs : List Nat) : splice (cellsOf k cur).toList off (xs.map fun d => Value.int k ((d : Nat) : Int)) = (cellsOf k (cur.take off ++ (xs ++ cur.drop (off + xs.length)))).toList := by
  simp [splice, cellsOf_toList, List.map_drop, List.map_take]
set_option maxRecDepth 100000 in
theorem copy_run (W : World) (g off g2 n : Nat) (cur xs : List Nat) (hb : Blk W g 87 .u64 cur) (hs : Blk W g2 87 .u64 xs) (hx : xs.length = n) (hfit : off + n ≤ cur.length) (ty : TypeId) :
    ∃ W', (Builtin.copy_ #[69, 69] ty #[.slice (some ⟨g, off, none⟩) n n, .slice (some ⟨g2, 0, none⟩) n n]).run Tryz.prog W = .ok (.int .i64 (n : Int)) W' ∧
      Hid (Blk W' g 87 .u64 (cur.take off ++ (xs ++ cur.drop (off + n))) ∧ ∀ B w0, Below B w0 W → B ≤ g → Below B w0 W') := by
  subst hx
  have hu : (Tryz.prog.info? 87).map (·.size) = some 1 := by
    obtain ⟨i0, hi, -, hz1, -⟩ := info_parts Tryz.infoU64
    rw [hi]; simp [hz1]
  have hlen : (xs.map fun d => Value.int .u64 ((d : Nat) : Int)).length = xs.length := by simp
  have h := run_copy_row (P := Tryz.prog) W 69 69 ty 87 g off xs.length xs.length ⟨g2, 0, none⟩ xs.length xs.length (cellsOf .u64 cur) 87 (xs.map fun d => Value.int .u64 ((d : Nat) : Int))
    Tryz.underlying69 hu hb (by rw [hlen]; exact (Nat.min_self _).symm) (fun j v hv => by
      have hj : j < xs.length := by
        rcases Nat.lt_or_ge j xs.length with h | h
        · exact h
        · rw [List.getElem?_eq_none (by simpa using h)] at hv; cases hv
      rw [List.getElem?_map, List.getElem?_eq_getElem hj] at hv
      have := hs.cell j hj
      unfold Big.nth at this
      rw [List.getD_eq_getElem?_getD, List.getElem?_eq_getElem hj] at this
      simp at hv
      rw [← hv]
      unfold Addr.add
      split
      · rename_i h0; subst h0; simpa using this
      · simpa using this) (by rw [hlen]; simpa [cellsOf] using hfit) (by intro v hv; simp at hv; obtain ⟨_, _, rfl⟩ := hv; rfl)
  rw [hlen] at h
  refine ⟨_, h, Lib.hid ⟨?_, fun B w0 hB hg => below_setRow hB hg _⟩⟩
  have e := setRow_heap W g (cellsOf .u64 cur) ((cellsOf .u64 cur).toList.take off ++ (xs.map fun d => Value.int .u64 ((d : Nat) : Int)) ++ (cellsOf .u64 cur).toList.drop (off + xs.length)).toArray 87 _ hb
  unfold Blk
  rw [e]
  congr 2
  simp [cellsOf, List.map_drop, List.map_take]
def IsBits (n s : Nat) : Prop := (n = 0 ∧ s = 0) ∨ (1 ≤ s ∧ 2 ^ (s - 1) ≤ n ∧ n < 2 ^ s)
theorem M64_pow (k : Nat) : Big.M64 ^ k = 2 ^ (64 * k) := by rw [Big.M64_eq, show (18446744073709551616 : Nat) = 2 ^ 64 by decide, ← Nat.pow_mul]
theorem isBits_top {r : List Nat} {t b : Nat} (or : Big.Ok Big.M64 r) (h1 : 2 ^ (b - 1) ≤ t) (h2 : t < 2 ^ b) (hb : 1 ≤ b) : IsBits (Big.val Big.M64 (r ++ [t])) (64 * r.length + b) := by
  rw [Big.val_snoc, M64_pow]
  have hr := Big.val_lt r or
  rw [M64_pow] at hr
  refine .inr ⟨by omega, ?_, ?_⟩
  · rw [show 64 * r.length + b - 1 = 64 * r.length + (b - 1) by omega, Nat.pow_add]
    have := Nat.mul_le_mul_left (2 ^ (64 * r.length)) h1
    omega
  · rw [Nat.pow_add]
    have := Nat.mul_le_mul_left (2 ^ (64 * r.length)) (show t + 1 ≤ 2 ^ b from h2)
    rw [Nat.mul_add] at this
    omega
theorem bits_any (w : World) (v : Value) (n : Nat) (h : NatIn w v n) (hn : n < Big.M64 ^ Big.KX) :
    Calls Tryz.prog 213 #[v] w fun e w' => ∃ s : Nat, e = .returned (.int .i64 (s : Int)) ∧ IsBits n s ∧ s ≤ 64000000000 ∧ w = w' := by
  obtain ⟨l, hw, ol, nl, rfl⟩ := h
  have hl := len_of_lt nl hn
  rw [Big.KX_eq] at hl
  obtain ⟨A, c, rfl, h1, h2, h3⟩ := hw
  by_cases hne : l = []
  · subst hne
    clear hn h3 nl ol
    go_enter Tryz.func213, Tryz.ntmps213
    go_wp2
    go_ret
    exact ⟨0, rfl, .inl ⟨rfl, rfl⟩, by omega, rfl⟩
  · obtain ⟨r, t, rfl, ht0⟩ := norm_last nl hne
    have hlr : (r ++ [t]).length = r.length + 1 := by simp
    obtain ⟨b, o, rfl, hlt, hc, -⟩ := h3 (by omega)
    have hcell := hc r.length (by omega)
    have ent : Big.nth (r ++ [t]) r.length = t := by unfold Big.nth; rw [List.getD_eq_getElem?_getD, List.getElem?_append_right (Nat.le_refl _)]; simp
    rw [ent] at hcell
    have htM : t < 18446744073709551616 := by rw [← Big.M64_eq]; exact ol t (by simp)
    obtain ⟨b1, b2, b3, b4⟩ := bitLen_bd t htM ht0
    have HS := Lib.hid (isBits_top (b := Lib.bitLen t) (fun d hd => ol d (by simp [hd]) : Big.Ok Big.M64 r) b3 b4 b1)
    have hc0 : (((r ++ [t]).length : Int) == 0) = false := beq_eq_false_iff_ne.2 (by omega)
    have CL := Lib.hid (lz_any t htM)
    rw [hlr] at h1 hl hc0 ⊢
    clear h3 hc hlr ent b3 b4 htM hne nl ol hn
    generalize Lib.bitLen t = bl at *
    generalize Big.val Big.M64 (r ++ [t]) = N at *
    generalize r.length = m at *
    have hc1 : ((m : Int) + 1 == 0) = false := beq_eq_false_iff_ne.2 (by omega)
    go_enter Tryz.func213, Tryz.ntmps213
    go_wp2_with (go_at_call 187; refine (CL.out _).mono ?_; rintro e w' ⟨rfl, rfl⟩)
    go_ret
    refine ⟨_, ?_, HS.out, by omega, rfl⟩
    apply ret_int
    omega
theorem shl_val {l Z : List Nat} {d r : Nat} (oZ : Big.Ok Big.M64 Z) (hZ : Z.length = l.length + 1) (hv : Big.val Big.M64 Z = Big.val Big.M64 l * 2 ^ r) :
    Big.Ok Big.M64 ((List.replicate (d + (l.length + 1)) 0).take d ++ (Z ++ (List.replicate (d + (l.length + 1)) 0).drop (d + (l.length + 1)))) ∧ Big.val Big.M64 ((List.replicate (d + (l.length + 1)) 0).take d ++ (Z ++ (List.replicate (d + (l.length + 1)) 0).drop (d + (l.length + 1)))) = Big.val Big.M64 l * 2 ^ (64 * d + r) ∧
    ((List.replicate (d + (l.length + 1)) 0).take d ++ (Z ++ (List.replicate (d + (l.length + 1)) 0).drop (d + (l.length + 1)))).length = d + (l.length + 1) := by
  rw [List.drop_eq_nil_of_le (by simp), List.append_nil, List.take_replicate, show min d (d + (l.length + 1)) = d by omega]
  refine ⟨Big.Ok.append (fun x hx => by rw [List.mem_replicate] at hx; rw [hx.2]; exact Big.M64_pos) oZ, ?_, by simp [hZ]⟩
  rw [Big.val_append, Big.val_replicate, List.length_replicate, hv, M64_pow, Nat.pow_add, Nat.zero_add, Nat.mul_left_comm]
theorem alloc_sz (w : World) (o : Obj) : (w.alloc o).heap.size = w.heap.size + 1 := by simp
set_option maxRecDepth 100000 in
theorem slice_from (g d n : Nat) (W : World) :
    (Instr.slice 69 (.slice (some ⟨g, 0, none⟩) (d + (n + 1)) (d + (n + 1))) (some (.int .i64 (d : Int))) none none).run Tryz.prog W = .ok (.slice (some ⟨g, d, none⟩) (n + 1) (n + 1)) W := by
  have e : Tryz.prog.elem 69 = 87 := by kernel_rfl
  have hs : (sizeOf 87).run Tryz.prog W = .ok 1 W := by kernel_rfl
  rw [run_slice_l (P := Tryz.prog) (w := W) 69 (some ⟨g, 0, none⟩) (d + (n + 1)) (d + (n + 1)) (by rw [e]; exact Tryz.underlying69) .i64 (d : Int) (by omega) (by omega), e, hs]
  show Result.ok _ W = _
  simp only [sliced, Int.toNat_natCast, Nat.mul_one]
  rw [if_neg (by omega), show d + (n + 1) - d = n + 1 by omega]
  congr 1
  simp [Addr.add]
  omega
theorem shl_fin {w : World} {g d n x : Nat} {R : List Nat} (hd : d ≤ 1000000000) (hl : n ≤ 1000000000) (hb : Blk w g 87 .u64 R) (h : Big.Ok Big.M64 R ∧ Big.val Big.M64 R = x ∧ R.length = d + (n + 1)) :
    ∃ R : List Nat, Wd w .u64 (.slice (some ⟨g, 0, none⟩) (d + (n + 1)) (d + (n + 1))) R ∧ Big.Ok Big.M64 R ∧ Big.val Big.M64 R = x := by
  obtain ⟨h1, h2, h3⟩ := h
  refine ⟨R, ?_, h1, h2⟩
  have := hb.wd0 (d + (n + 1)) (by omega) (by omega)
  rwa [h3] at this
set_option maxRecDepth 100000 in
set_option maxHeartbeats 2000000 in
theorem shl_words (w : World) (v : Value) (l : List Nat) (d r : Nat) (h : Wd w .u64 v l) (ol : Big.Ok Big.M64 l) (hl0 : l.length ≠ 0) (hr : r ≤ 63) (hd : d ≤ 1000000000) (h0 : 64 * d + r ≠ 0) (hl : l.length ≤ 1000000000) :
    Calls Tryz.prog 165 #[v, .int .i64 ((64 * d + r : Nat) : Int)] w fun e w' => ∃ v', e = .returned v' ∧ NatIn w' v' (Big.val Big.M64 l * 2 ^ (64 * d + r)) ∧ Below w.heap.size w w' := by
  obtain ⟨i0, hi, hz0, hz1, hz2⟩ := info_parts Tryz.infoU64
  have hmk := fun W => make_words (P := Tryz.prog) Tryz.underlying69 hi hz0 hz1 (by rw [hz2]; omega) .i64 .i64 (d + (l.length + 1)) (d + (l.length + 1)) (Nat.le_refl _) (by omega) W
  rw [show ((d + (l.length + 1) : Nat) : Int) = (d : Int) + (l.length : Int) + 1 by omega] at hmk
  have hu : (Tryz.prog.info? 87).map (·.size) = some 1 := by rw [hi]; simp [hz1]
  have hb0 : Blk (w.alloc (.cells (cellsOf .u64 (List.replicate (d + (l.length + 1)) 0)) 87)) w.heap.size 87 .u64 (List.replicate (d + (l.length + 1)) 0) := Blk.new _ _ _ _
  have hbel0 : Below w.heap.size w (w.alloc (.cells (cellsOf .u64 (List.replicate (d + (l.length + 1)) 0)) 87)) := (Below.refl _ _).alloc (Nat.le_refl _) _
  have hw0 : Wd (w.alloc (.cells (cellsOf .u64 (List.replicate (d + (l.length + 1)) 0)) 87)) .u64 v l := Wd.keep h hbel0
  have H0 := Lib.hid (And.intro hb0 (And.intro hbel0 hw0))
  have CS := Lib.hid (show ∀ W (hW : Wd W .u64 v l) (hs : W.heap.size = w.heap.size + 1), Calls Tryz.prog 188 #[v, .int .i64 (r : Int)] W fun e w' => e = .returned (.slice (some ⟨w.heap.size + 1, 0, none⟩) (l.length + 1) (l.length + 1)) ∧
      ∃ Z, Blk w' (w.heap.size + 1) 87 .u64 Z ∧ Z.length = l.length + 1 ∧ Big.Ok Big.M64 Z ∧ Big.val Big.M64 Z = Big.val Big.M64 l * 2 ^ r ∧ Below (w.heap.size + 1) W w' from fun W hW hs => by
    have h := shifted_any W v l r hW ol hr hl
    rw [hs] at h; exact h)
  have hsz : ((w.alloc (.cells (cellsOf .u64 (List.replicate (d + (l.length + 1)) 0)) 87)).drew).heap.size = w.heap.size + 1 := alloc_sz w _
  have HSZ := Lib.hid hsz
  have HV := Lib.hid (fun Z (o : Big.Ok Big.M64 Z) e1 e2 => shl_val (l := l) (d := d) (r := r) (Z := Z) o e1 e2)
  obtain ⟨n, hn⟩ : ∃ n : Int, ((64 * d + r : Nat) : Int) = n := ⟨_, rfl⟩
  have q1 : Int.tdiv n 64 = d := by subst hn; rw [Int.tdiv_eq_ediv_of_nonneg (Int.natCast_nonneg _)]; omega
  have q2 : Int.tmod n 64 = r := by subst hn; rw [Int.tmod_eq_emod_of_nonneg (Int.natCast_nonneg _)]; omega
  have q3 : (n ≤ 0) = False := by rw [eq_iff_iff, iff_false]; omega
  rw [hn]
  have hc0 : ((l.length : Int) == 0) = false := beq_eq_false_iff_ne.2 (by omega)
  obtain ⟨A, c, rfl, h1, h2, h3⟩ := h
  clear hb0 hbel0 hw0 h3 ol hn hsz
  have hcap : ¬ (d + (l.length + 1) = d) := by omega
  have hcap2 : d + (l.length + 1) - d = l.length + 1 := by omega
  have hw3 : (d : Int) ≤ (d : Int) + (l.length + 1 : Int) := by omega
  have hwr : IntKind.i64.wrap ((d : Nat) : Int) = (d : Int) := by rw [IntKind.wrap_i64]; omega
  go_enter Tryz.func165, Tryz.ntmps165
  go_wp2_with fail
  go_region_with (first
    | (go_at_call 188; (with_reducible refine (CS.out _ (H0.out.2.2.keep (Below.refl _ _).drew) HSZ.out).mono ?_); rintro e w2 ⟨rfl, Z, hB, hZ, oZ, vZ, hw2⟩; obtain ⟨w3, hcp, HC⟩ := copy_run w2 w.heap.size d (w.heap.size + 1) _ _ _ (Blk.below' (H0.out.1.drewN 1) hw2 (Nat.lt_succ_self _)) hB hZ (by simp) 3;
       have HF := Lib.hid (shl_fin hd hl HC.out.1 (HV.out Z oZ hZ vZ)); have HBel := Lib.hid (HC.out.2 _ _ ((H0.out.2.1.drew).trans (hw2.mono (Nat.le_succ _))) (Nat.le_refl _)); clear HC hB hZ oZ vZ hw2))
  all_goals
    go_wp2_with (go_at_call 122; (with_reducible refine (trim_any _ _ _ HF.out.choose_spec.1).mono ?_); rintro e w' ⟨v', rfl, hv', rfl⟩)
    go_ret
    exact ⟨v', rfl, ⟨_, hv', Big.strip_ok HF.out.choose_spec.2.1, Big.strip_norm _, by rw [Big.strip_val, HF.out.choose_spec.2.2]⟩, HBel.out⟩
theorem shl_any (w : World) (v : Value) (x : Nat) (n : Int) (h : NatIn w v x) (hx : x < Big.M64 ^ Big.KX) (hn : n ≤ 64000000000) :
    Calls Tryz.prog 165 #[v, .int .i64 n] w fun e w' => ∃ v', e = .returned v' ∧ NatIn w' v' (x * 2 ^ n.toNat) ∧ Below w.heap.size w w' := by
  have HN := h
  obtain ⟨l, h1, h2, h3, rfl⟩ := h
  have hl := len_of_lt h3 hx
  rw [Big.KX_eq] at hl
  by_cases l0 : l.length = 0
  · obtain rfl : l = [] := List.eq_nil_of_length_eq_zero l0
    have H := Lib.hid HN
    obtain ⟨A, c, rfl, -, -, -⟩ := h1
    simp only [Big.val, Nat.zero_mul]
    clear hx hn h2 h3 hl HN
    go_enter Tryz.func165, Tryz.ntmps165
    go_wp2
    go_ret
    exact ⟨_, rfl, H.out, Below.refl _ _⟩
  by_cases n0 : n ≤ 0
  · have H := Lib.hid HN
    obtain ⟨A, c, rfl, -, -, -⟩ := h1
    have t1 : ((l.length : Int) == 0) = false := beq_eq_false_iff_ne.2 (by omega)
    rw [show n.toNat = 0 by omega, Nat.pow_zero, Nat.mul_one]
    generalize Big.val Big.M64 l = X at *
    clear hx hn h2 h3 hl HN l0
    go_enter Tryz.func165, Tryz.ntmps165
    go_wp2
    go_ret
    exact ⟨_, rfl, H.out, Below.refl _ _⟩
  obtain ⟨N, rfl⟩ : ∃ N : Nat, n = N := ⟨n.toNat, by omega⟩
  rw [Int.toNat_natCast]
  have e : 64 * (N / 64) + N % 64 = N := Nat.div_add_mod N 64
  have C := shl_words w v l (N / 64) (N % 64) h1 h2 l0 (by omega) (by omega) (by omega) hl
  rw [e] at C
  exact C
theorem isBits_fn {n s t : Nat} (h : IsBits n s) (k : IsBits n t) : s = t := by
  rcases h with ⟨rfl, rfl⟩ | ⟨h1, h2, h3⟩ <;> rcases k with ⟨k0, rfl⟩ | ⟨k1, k2, k3⟩
  · rfl
  · have := Nat.pow_pos (n := t - 1) (show 0 < 2 by omega); omega
  · have := Nat.pow_pos (n := s - 1) (show 0 < 2 by omega); omega
  · rcases Nat.lt_trichotomy s t with h | h | h
    · have := Nat.pow_le_pow_right (show 0 < 2 by omega) (show s ≤ t - 1 by omega); omega
    · exact h
    · have := Nat.pow_le_pow_right (show 0 < 2 by omega) (show t ≤ s - 1 by omega); omega
end Go.Proofs.YthjofdfnppadnaaGreatDoor
namespace Go.Proofs.YthjofdfnppadnaaGreatDoor
open Go.RowKit
def bitsN (n : Nat) : Nat := if n = 0 then 0 else Nat.log2 n + 1
theorem bitsN_is (n : Nat) : IsBits n (bitsN n) := by
  unfold bitsN
  split
  · rename_i h; exact .inl ⟨h, rfl⟩
  · rename_i h
    refine .inr ⟨by omega, ?_, Nat.lt_log2_self⟩
    rw [Nat.add_sub_cancel]; exact Nat.log2_self_le h
theorem bits_num (w : World) (v : Value) (n k : Nat) (h : NatIn w v n) (hn : Sz k n) (hk : k ≤ 100000000) :
    Calls Tryz.prog 213 #[v] w fun e w' => e = .returned (.int .i64 ((bitsN n : Nat) : Int)) ∧ w = w' :=
  (bits_any w v n h (hn.kx hk)).mono fun _ _ ⟨s, h1, h2, _, h3⟩ => ⟨by rw [h1, isBits_fn h2 (bitsN_is n)], h3⟩
theorem bitsN_le {k n : Nat} (h : Sz k n) : bitsN n ≤ 64 * k := by
  rcases bitsN_is n with ⟨_, h2⟩ | ⟨h1, h2, _⟩
  · omega
  · rcases Nat.lt_or_ge (64 * k) (bitsN n) with hlt | hge
    · have h3 := h.out
      rw [M64_pow] at h3
      have := Nat.pow_le_pow_right (show 0 < 2 by omega) (show 64 * k ≤ bitsN n - 1 by omega)
      omega
    · exact hge
theorem Sz.shl {k j n S : Nat} (h : Sz k n) (hS : S ≤ 64 * j) : Sz (k + j) (n * 2 ^ S) := by
  refine ⟨?_⟩
  rw [Nat.pow_add, M64_pow j]
  exact Nat.lt_of_lt_of_le (Nat.mul_lt_mul_of_pos_right h.out (Nat.pow_pos (by omega))) (Nat.mul_le_mul_left _ (Nat.pow_le_pow_right (by omega) hS))
theorem shl_num (w : World) (v : Value) (n k : Nat) (s : Int) (h : NatIn w v n) (hn : Sz k n) (hk : k ≤ 100000000) (hs : s ≤ 64000000000) :
    Calls Tryz.prog 165 #[v, .int .i64 s] w (Nat1 w (n * 2 ^ s.toNat)) := shl_any w v n s h (hn.kx hk) hs
theorem lg_cmp {n d a b : Nat} {k : Int} (h : (b : Int) - a = k) : (n * 2 ^ (-k).toNat < d * 2 ^ k.toNat ↔ n * 2 ^ a < d * 2 ^ b) := by
  rcases Nat.le_total a b with hab | hab
  · obtain ⟨j, rfl⟩ := Nat.exists_eq_add_of_le hab
    rw [show (-k).toNat = 0 by omega, show k.toNat = j by omega, Nat.pow_zero, Nat.mul_one, Nat.pow_add, Nat.mul_comm (2 ^ a), ← Nat.mul_assoc]
    exact (Nat.mul_lt_mul_right (Nat.pow_pos (by omega))).symm
  · obtain ⟨j, rfl⟩ := Nat.exists_eq_add_of_le hab
    rw [show (-k).toNat = j by omega, show k.toNat = 0 by omega, Nat.pow_zero, Nat.mul_one, Nat.pow_add, Nat.mul_comm (2 ^ b), ← Nat.mul_assoc]
    exact (Nat.mul_lt_mul_right (Nat.pow_pos (by omega))).symm
def IsLog (n d : Nat) (k : Int) : Prop := d * 2 ^ k.toNat ≤ n * 2 ^ (-k).toNat ∧ n * 2 ^ (-(k + 1)).toNat < d * 2 ^ (k + 1).toNat
def lgN (n d : Nat) : Int := (bitsN n : Int) - (bitsN d : Int)
def lgQ (n d : Nat) : Int := if n * 2 ^ (-lgN n d).toNat < d * 2 ^ (lgN n d).toNat then lgN n d - 1 else lgN n d
theorem lgQ_is {n d : Nat} (hn : n ≠ 0) (hd : d ≠ 0) : IsLog n d (lgQ n d) := by
  have bn := bitsN_is n
  have bd := bitsN_is d
  unfold lgQ lgN
  generalize bitsN n = s at *
  generalize bitsN d = t at *
  rcases bn with ⟨e, _⟩ | ⟨s1, s2, s3⟩
  · exact absurd e hn
  rcases bd with ⟨e, _⟩ | ⟨t1, t2, t3⟩
  · exact absurd e hd
  have up : n * 2 ^ t < d * 2 ^ (s + 1) := by
    have h1 : 2 ^ t ≤ d * 2 := by rw [show t = t - 1 + 1 by omega, Nat.pow_succ]; omega
    calc n * 2 ^ t ≤ n * (d * 2) := Nat.mul_le_mul_left _ h1
      _ < 2 ^ s * (d * 2) := Nat.mul_lt_mul_of_pos_right s3 (by omega)
      _ = d * 2 ^ (s + 1) := by rw [Nat.pow_succ, Nat.mul_left_comm]
  have lo : ¬ n * 2 ^ t < d * 2 ^ (s - 1) := by
    have := Nat.mul_le_mul (Nat.le_of_lt t3) s2
    rw [Nat.mul_comm (2 ^ t)] at this
    omega
  split
  · rename_i h
    refine ⟨Nat.le_of_not_lt fun h' => lo ((lg_cmp (by omega)).1 h'), ?_⟩
    rw [show (s : Int) - t - 1 + 1 = (s : Int) - t by omega]
    exact h
  · rename_i h
    exact ⟨Nat.le_of_not_lt h, (lg_cmp (a := t) (b := s + 1) (by omega)).2 up⟩
def nearQ (n d : Nat) : Nat := if d < 2 * (n % d) then n / d + 1 else if 2 * (n % d) = d then n / d + n / d % 2 else n / d
set_option maxRecDepth 100000 in
set_option maxHeartbeats 4000000 in
theorem near_any (w : World) (v u : Value) (n d k j : Nat) (h : NatIn w v n) (i : NatIn w u d) (hn : Sz k n) (hm : Sz j d) (hk : k ≤ 100000000) (hj : j ≤ 100000000) (hd : d ≠ 0) (hq : n / d < 9223372036854775808) :
    Calls Tryz.prog 164 #[v, u] w fun e w' => e = .returned (.int .u64 ((nearQ n d : Nat) : Int)) ∧ Below w.heap.size w w' := by
  have hr : n % d < d := Nat.mod_lt _ (by omega)
  have CQ := Lib.hid (quoRem_num w v u n d k h i hn hk)
  have CW := Lib.hid (fun W x (hx : NatIn W x (n / d)) => (word2_any W x (n / d) hx))
  have CS := Lib.hid (fun W x (hx : NatIn W x (n % d)) => shl_num W x (n % d) j 1 hx (hm.le (Nat.le_of_lt hr)) hj (by omega))
  have HU := Lib.hid i
  have e1 : (if n / d < Big.M64 then n / d else 0) = n / d := if_pos (by rw [Big.M64_eq]; omega)
  have e2 : decide (n / d < Big.M64) = true := decide_eq_true (by rw [Big.M64_eq]; omega)
  rw [e1, e2] at CW
  have CC := Lib.hid (fun W x (hx : NatIn W x (n % d * 2 ^ (1 : Int).toNat)) (hu : NatIn W u d) => cmp_num W x u _ d hx hu)
  have hand : bits .and .u64 ((n / d : Nat) : Int) 1 = ((n / d % 2 : Nat) : Int) := by
    have := u64_and_nat (n / d) 1 (by omega) (by omega)
    rw [show ((1 : Nat) : Int) = 1 from rfl] at this
    rw [this, Nat.and_one_is_mod]
  have ec : Big.cmpI (n % d * 2 ^ (1 : Int).toNat) d = if d < 2 * (n % d) then 1 else if 2 * (n % d) = d then 0 else -1 := by
    rw [show (1 : Int).toNat = 1 from rfl, Nat.pow_one]
    unfold Big.cmpI
    split <;> split <;> (try split) <;> omega
  rw [ec] at CC
  unfold nearQ
  obtain ⟨q, hqe⟩ : ∃ q, n / d = q := ⟨_, rfl⟩
  rw [hqe] at CQ CW hand hq ⊢
  have hm2 : q % 2 < 2 := Nat.mod_lt _ (by omega)
  obtain ⟨p, hp⟩ : ∃ p, q % 2 = p := ⟨_, rfl⟩
  rw [hp] at hand hm2 ⊢
  clear h i hn hm hr e1 e2 ec hqe
  generalize n % d * 2 ^ (1 : Int).toNat = R2 at *
  by_cases c1 : d < 2 * (n % d)
  · rw [if_pos c1] at CC ⊢
    clear c1
    go_enter Tryz.func164, Tryz.ntmps164
    go_wp2_with (first
      | (go_at_call 131; (with_reducible refine CQ.out.mono ?_); rintro e w2 ⟨a, b, rfl, ha, hb, hw2⟩)
      | (go_at_call 63; (with_reducible refine (CW.out _ _ ha).mono ?_); rintro e w' ⟨rfl, rfl⟩)
      | (go_at_call 165; (with_reducible refine (CS.out _ _ hb).mono ?_); rintro e w3 ⟨c, rfl, hc, hw3⟩)
      | (go_at_call 130; (with_reducible refine (CC.out _ _ hc ((HU.out.keep hw2).keep hw3)).mono ?_); rintro e w4 ⟨rfl, hw4⟩))
    go_ret
    exact ⟨by apply ret_int; omega, (hw2.trans (hw3.mono hw2.size)).trans (hw4.below _)⟩
  · rw [if_neg c1] at CC ⊢
    by_cases c2 : 2 * (n % d) = d
    · rw [if_pos c2] at CC ⊢
      clear c1 c2
      go_enter Tryz.func164, Tryz.ntmps164
      go_wp2_with (first
        | (go_at_call 131; (with_reducible refine CQ.out.mono ?_); rintro e w2 ⟨a, b, rfl, ha, hb, hw2⟩)
        | (go_at_call 63; (with_reducible refine (CW.out _ _ ha).mono ?_); rintro e w' ⟨rfl, rfl⟩)
        | (go_at_call 165; (with_reducible refine (CS.out _ _ hb).mono ?_); rintro e w3 ⟨c, rfl, hc, hw3⟩)
        | (go_at_call 130; (with_reducible refine (CC.out _ _ hc ((HU.out.keep hw2).keep hw3)).mono ?_); rintro e w4 ⟨rfl, hw4⟩))
      go_ret
      exact ⟨by apply ret_int; omega, (hw2.trans (hw3.mono hw2.size)).trans (hw4.below _)⟩
    · rw [if_neg c2] at CC ⊢
      clear c1 c2
      go_enter Tryz.func164, Tryz.ntmps164
      go_wp2_with (first
        | (go_at_call 131; (with_reducible refine CQ.out.mono ?_); rintro e w2 ⟨a, b, rfl, ha, hb, hw2⟩)
        | (go_at_call 63; (with_reducible refine (CW.out _ _ ha).mono ?_); rintro e w' ⟨rfl, rfl⟩)
        | (go_at_call 165; (with_reducible refine (CS.out _ _ hb).mono ?_); rintro e w3 ⟨c, rfl, hc, hw3⟩)
        | (go_at_call 130; (with_reducible refine (CC.out _ _ hc ((HU.out.keep hw2).keep hw3)).mono ?_); rintro e w4 ⟨rfl, hw4⟩))
      go_ret
      exact ⟨rfl, (hw2.trans (hw3.mono hw2.size)).trans (hw4.below _)⟩
end Go.Proofs.YthjofdfnppadnaaGreatDoor
namespace Go.Proofs.YthjofdfnppadnaaGreatDoor
open Go Go.RowKit
namespace Ev
section
variable {h h' : Tr (Blk Nat)} {nx nx' : Nat} {R W : List Nat} {r : Ren} {w : World} {v : Value}
def Goes (f : FuncId) (args' : List Value) (r : Ren) (w : World) (nx nx' : Nat) (W : List Nat) (g' : Nat → Option (Blk Nat)) (v : Value) : Prop :=
  Calls Tryz.prog f ⟨args'⟩ w fun e w' => ∃ v' r', e = .returned v' ∧ VR r' v v' ∧ Ext natSig r w nx nx' W g' r' w'
theorem goes_new {N : Nat} {f : FuncId} {args' : List Value} (e : (newFact N : M Nat Value) h nx = .ok v h' nx' R W) (hM : Mod natSig r h.get w) (hN : New r nx nx') (c : Calls Tryz.prog f ⟨args'⟩ w (Nat1 w N)) : Goes f args' r w nx nx' W h'.get v := by
  obtain ⟨i, h1, nx1, R1, W1, R2, W2, e1, e2, rfl, rfl⟩ := bind_ok e
  obtain ⟨rfl, rfl, rfl, rfl⟩ := ret_ok e2
  unfold fresh at e1
  cases e1
  refine c.mono ?_
  rintro en w' ⟨v', rfl, hv, hb⟩
  obtain ⟨r', hX, hr⟩ := ext_fact (S := natSig) (f := N) hM hb hN hv (nat_one hv)
  exact ⟨v', r', rfl, .opq hr (nat_one hv), by simpa using hX.congr fun n => .inr (Tr.get_set _ _ _ _)⟩
theorem goes_val {u : Value} {f : FuncId} {args' : List Value} (e : (ret u : M Nat Value) h nx = .ok v h' nx' R W) (hp : plain2 u = true) (hM : Mod natSig r h.get w) (c : Calls Tryz.prog f ⟨args'⟩ w fun e w' => e = .returned u ∧ Below w.heap.size w w') : Goes f args' r w nx nx' W h'.get v := by
  obtain ⟨rfl, rfl, rfl, rfl⟩ := ret_ok e
  refine c.mono ?_
  rintro en w' ⟨rfl, hb⟩
  exact ⟨_, r, rfl, VR.same2 hp, ext_below hM hb _⟩
theorem same_below {f : FuncId} {args' : List Value} {u : Value} (c : Calls Tryz.prog f ⟨args'⟩ w fun e w' => e = .returned u ∧ w = w') : Calls Tryz.prog f ⟨args'⟩ w fun e w' => e = .returned u ∧ Below w.heap.size w w' :=
  c.mono fun _ _ ⟨h1, h2⟩ => ⟨h1, h2 ▸ Below.refl _ _⟩
theorem drew_below {f : FuncId} {args' : List Value} {u : Value} (c : Calls Tryz.prog f ⟨args'⟩ w fun e w' => e = .returned u ∧ Drew w w') : Calls Tryz.prog f ⟨args'⟩ w fun e w' => e = .returned u ∧ Below w.heap.size w w' :=
  c.mono fun _ _ ⟨h1, h2⟩ => ⟨h1, h2.below _⟩
noncomputable def small (n : Nat) : Bool := Nat.ble (Nat.log2 n) 60000
theorem m64_log {n k : Nat} (h : Nat.log2 n + 1 ≤ 64 * k) : n < Big.M64 ^ k := by
  have hM : ∀ k, Big.M64 ^ k = 2 ^ (64 * k) := fun k => by rw [Nat.pow_mul]; rfl
  rw [hM]
  exact Nat.lt_of_lt_of_le Nat.lt_log2_self (Nat.pow_le_pow_right (by omega) h)
theorem sz_log {n k : Nat} (h : Nat.log2 n + 1 ≤ 64 * k) : Sz k n := ⟨m64_log h⟩
theorem sz_small {n : Nat} (h : small n = true) : Sz 1000 n := by
  have h1 := Nat.le_of_ble_eq_true h
  exact sz_log (by omega)
noncomputable def two (args : List Value) (k : Nat → Nat → M Nat Value) : Option (M Nat Value) := match args with
  | [a, b] => some (bind (natV a) fun n => bind (natV b) fun m => cond (small n && small m) (k n m) fail)
  | _ => none
noncomputable def one (args : List Value) (k : Nat → M Nat Value) : Option (M Nat Value) := match args with
  | [a] => some (bind (natV a) fun n => cond (small n) (k n) fail)
  | _ => none
theorem two_ok {f : FuncId} {k : Nat → Nat → M Nat Value} (hl : ∀ n m, Loc (k n m)) (hk : ∀ n m (h : Tr (Blk Nat)) nx v h' nx' R W, k n m h nx = .ok v h' nx' R W → ∀ r w a b, NatIn w a n → NatIn w b m → Sz 1000 n → Sz 1000 m → Mod natSig r h.get w → New r nx nx' → Goes f [a, b] r w nx nx' W h'.get v) :
    SumF natSig Tryz.prog f (fun args => two args k) := by
  intro args m e
  unfold two at e
  rcases args with _ | ⟨a, _ | ⟨b, _ | ⟨c, l⟩⟩⟩ <;> simp only [reduceCtorEq, Option.some.injEq] at e
  subst e
  refine ⟨loc_bind (loc_natV a) fun n => loc_bind (loc_natV b) fun m => loc_cond (hl n m) loc_fail, ?_⟩
  intro h nx v h' nx' R W e r w args' ha hM hN
  cases ha with
  | cons ha1 ha2 =>
    cases ha2 with
    | cons hb1 hb2 =>
      cases hb2
      obtain ⟨n, h1, nx1, R1, W1, R2, W2, e1, e2, rfl, rfl⟩ := bind_ok e
      obtain ⟨rfl, rfl, rfl, hn⟩ := natV_ok e1 ha1 hM
      obtain ⟨m, h2, nx2, R3, W3, R4, W4, e3, e4, rfl, rfl⟩ := bind_ok e2
      obtain ⟨rfl, rfl, rfl, hm⟩ := natV_ok e3 hb1 hM
      obtain ⟨hs, e5⟩ := cond_ok e4
      simp only [Bool.and_eq_true] at hs
      simpa [Goes] using hk n m _ _ _ _ _ _ _ e5 r w _ _ hn hm (sz_small hs.1) (sz_small hs.2) hM hN
theorem one_ok {f : FuncId} {k : Nat → M Nat Value} (hl : ∀ n, Loc (k n)) (hk : ∀ n (h : Tr (Blk Nat)) nx v h' nx' R W, k n h nx = .ok v h' nx' R W → ∀ r w a, NatIn w a n → Sz 1000 n → Mod natSig r h.get w → New r nx nx' → Goes f [a] r w nx nx' W h'.get v) :
    SumF natSig Tryz.prog f (fun args => one args k) := by
  intro args m e
  unfold one at e
  rcases args with _ | ⟨a, _ | ⟨c, l⟩⟩ <;> simp only [reduceCtorEq, Option.some.injEq] at e
  subst e
  refine ⟨loc_bind (loc_natV a) fun n => loc_cond (hl n) loc_fail, ?_⟩
  intro h nx v h' nx' R W e r w args' ha hM hN
  cases ha with
  | cons ha1 ha2 =>
    cases ha2
    obtain ⟨n, h1, nx1, R1, W1, R2, W2, e1, e2, rfl, rfl⟩ := bind_ok e
    obtain ⟨rfl, rfl, rfl, hn⟩ := natV_ok e1 ha1 hM
    obtain ⟨hs, e5⟩ := cond_ok e2
    simpa [Goes] using hk n _ _ _ _ _ _ _ e5 r w _ hn (sz_small hs) hM hN
theorem sum_add : SumF natSig Tryz.prog 132 (fun args => two args fun n m => newFact (Nat.add n m)) :=
  two_ok (fun _ _ => loc_newFact _) fun n m h nx v h' nx' R W e r w a b hn hm sn sm hM hN => goes_new e hM hN (add_num w a b n m _ _ hn hm sn sm (by omega) (by omega))
theorem sum_sub : SumF natSig Tryz.prog 194 (fun args => two args fun n m => newFact (Nat.sub n m)) :=
  two_ok (fun _ _ => loc_newFact _) fun n m h nx v h' nx' R W e r w a b hn hm sn sm hM hN => goes_new e hM hN (sub_num w a b n m _ hn hm sn (by omega))
theorem sum_mul : SumF natSig Tryz.prog 133 (fun args => two args fun n m => newFact (Nat.mul n m)) :=
  two_ok (fun _ _ => loc_newFact _) fun n m h nx v h' nx' R W e r w a b hn hm sn sm hM hN => goes_new e hM hN (mul_num w a b n m _ _ hn hm sn sm (by omega) (by omega))
theorem sum_quo : SumF natSig Tryz.prog 118 (fun args => two args fun n m => newFact (Nat.div n m)) :=
  two_ok (fun _ _ => loc_newFact _) fun n m h nx v h' nx' R W e r w a b hn hm sn sm hM hN => goes_new e hM hN (quo_num w a b n m _ hn hm sn (by omega))
theorem sum_gcd : SumF natSig Tryz.prog 117 (fun args => two args fun n m => newFact (Nat.gcd n m)) :=
  two_ok (fun _ _ => loc_newFact _) fun n m h nx v h' nx' R W e r w a b hn hm sn sm hM hN => goes_new e hM hN (gcd_num w a b n m _ _ hn hm sn sm (by omega) (by omega))
theorem sum_cmp : SumF natSig Tryz.prog 130 (fun args => two args fun n m => ret (.int .i64 (Big.cmpI n m))) :=
  two_ok (fun _ _ => loc_ret _) fun n m h nx v h' nx' R W e r w a b hn hm _ _ hM _ => goes_val e rfl hM (drew_below (cmp_num w a b n m hn hm))
theorem sum_isOne : SumF natSig Tryz.prog 126 (fun args => one args fun n => ret (.bool (decide (n = 1)))) :=
  one_ok (fun _ => loc_ret _) fun n h nx v h' nx' R W e r w a hn _ hM _ => goes_val e rfl hM ((isOne_num w a n hn).mono fun _ _ hh => by obtain ⟨h1, h2⟩ := hh; exact ⟨h1, by first | exact h2.below _ | exact h2 ▸ Below.refl _ _⟩)
theorem sum_size : SumF natSig Tryz.prog 205 (fun args => one args fun n => ret (.int .i64 ((szN n : Nat) : Int))) :=
  one_ok (fun _ => loc_ret _) fun n h nx v h' nx' R W e r w a hn sn hM _ => goes_val e rfl hM (same_below (size_num w a n _ hn sn (by omega)))
theorem sum_bytes : SumF natSig Tryz.prog 162 (fun args => one args fun n => ret (.string (bst n))) :=
  one_ok (fun _ => loc_ret _) fun n h nx v h' nx' R W e r w a hn sn hM _ => goes_val e rfl hM (bytes_num w a n _ hn sn (by omega))
theorem sum_shl : SumF natSig Tryz.prog 165 (fun args => match args with
    | [a, b] => match b with
      | .int k s => cond (decide (k = .i64) && decide (s ≤ 64000000000)) (some (bind (natV a) fun n => cond (small n) (newFact (n * 2 ^ s.toNat)) fail)) none
      | _ => none
    | _ => none) := by
  intro args m e
  rcases args with _ | ⟨a, _ | ⟨b, _ | ⟨c, l⟩⟩⟩ <;> simp only [reduceCtorEq] at e
  cases b with
  | int k s =>
    simp only at e
    cases hk : (decide (k = .i64) && decide (s ≤ 64000000000)) with
    | false => rw [hk] at e; cases e
    | true =>
      rw [hk] at e
      simp only [cond_true, Option.some.injEq] at e
      subst e
      simp only [Bool.and_eq_true, decide_eq_true_eq] at hk
      refine ⟨loc_bind (loc_natV a) fun n => loc_cond (loc_newFact _) loc_fail, ?_⟩
      intro h nx v h' nx' R W e r w args' ha hM hN
      cases ha with
      | cons ha1 ha2 =>
        cases ha2 with
        | cons hb1 hb2 =>
          cases hb2
          obtain ⟨n, h1, nx1, R1, W1, R2, W2, e1, e2, rfl, rfl⟩ := bind_ok e
          obtain ⟨rfl, rfl, rfl, hn⟩ := natV_ok e1 ha1 hM
          obtain ⟨hs, e5⟩ := cond_ok e2
          have hb := hb1.int
          subst hb
          rw [hk.1]
          simpa [Goes] using goes_new e5 hM hN (shl_num w _ n _ s hn (sz_small hs) (by omega) hk.2)
  | _ => simp at e
theorem sum_of : SumF natSig Tryz.prog 119 (fun args => match args with
    | [a] => match a with
      | .int k s => match s with
        | .ofNat n => cond (decide (k = .u64) && Nat.ble (Nat.succ n) 18446744073709551616) (some (newFact n)) none
        | _ => none
      | _ => none
    | _ => none) := by
  intro args m e
  rcases args with _ | ⟨a, _ | ⟨c, l⟩⟩ <;> simp only [reduceCtorEq] at e
  cases a with
  | int k s =>
    cases s with
    | negSucc _ => simp at e
    | ofNat n =>
      simp only at e
      cases hk : (decide (k = .u64) && Nat.ble (Nat.succ n) 18446744073709551616) with
      | false => rw [hk] at e; cases e
      | true =>
        rw [hk] at e
        simp only [cond_true, Option.some.injEq] at e
        subst e
        simp only [Bool.and_eq_true, decide_eq_true_eq] at hk
        have hlt : n < 18446744073709551616 := Nat.le_of_ble_eq_true hk.2
        refine ⟨loc_newFact _, ?_⟩
        intro h nx v h' nx' R W e r w args' ha hM hN
        cases ha with
        | cons ha1 ha2 =>
          cases ha2
          have hb := ha1.int
          subst hb
          rw [hk.1]
          exact goes_new e hM hN (of_num w n hlt)
  | _ => simp at e
theorem sum_fromBytes : SumF natSig Tryz.prog 176 (fun args => match args with
    | [a] => match a with
      | .string s => cond (Nat.ble s.size 100000) (some (newFact (Big.bnum s.data.toList))) none
      | _ => none
    | _ => none) := by
  intro args m e
  rcases args with _ | ⟨a, _ | ⟨c, l⟩⟩ <;> simp only [reduceCtorEq] at e
  cases a with
  | string s =>
    simp only at e
    cases hk : Nat.ble s.size 100000 with
    | false => rw [hk] at e; cases e
    | true =>
      rw [hk] at e
      simp only [cond_true, Option.some.injEq] at e
      subst e
      have hlt : s.size ≤ 100000 := Nat.le_of_ble_eq_true hk
      refine ⟨loc_newFact _, ?_⟩
      intro h nx v h' nx' R W e r w args' ha hM hN
      cases ha with
      | cons ha1 ha2 =>
        cases ha2
        have hb := ha1.str
        subst hb
        exact goes_new e hM hN (fromBytes_any w s (by omega))
  | _ => simp at e
end
end Ev
end Go.Proofs.YthjofdfnppadnaaGreatDoor
namespace Go.Proofs.YthjofdfnppadnaaGreatDoor
open Go Go.RowKit
namespace Ev
noncomputable def digF (k : Nat) : Nat → List UInt8 → List UInt8 :=
  Nat.rec (motive := fun _ => Nat → List UInt8 → List UInt8) (fun _ acc => acc) (fun _ ih u acc => cond (Nat.ble 10 u) (ih (Nat.div u 10) (UInt8.ofNat (48 + Nat.mod u 10) :: acc)) (UInt8.ofNat (48 + u) :: acc)) k
theorem digF_eq : ∀ (k u : Nat) (acc : List UInt8), u < 10 ^ k → 1 ≤ k → digF k u acc = Lib.decDigits u ++ acc
  | 0, _, _, _, h => absurd h (by omega)
  | k + 1, u, acc, h, _ => by
    show cond (Nat.ble 10 u) (digF k (Nat.div u 10) (UInt8.ofNat (48 + Nat.mod u 10) :: acc)) (UInt8.ofNat (48 + u) :: acc) = _
    cases hb : Nat.ble 10 u with
    | false =>
      have h10 : u < 10 := by
        rcases Nat.lt_or_ge u 10 with h1 | h1
        · exact h1
        · rw [Nat.ble_eq_true_of_le h1] at hb; cases hb
      rw [Lib.decDigits_one h10]; rfl
    | true =>
      have h10 := Nat.le_of_ble_eq_true hb
      rw [cond_true]
      have hk : 1 ≤ k := by
        rcases Nat.eq_zero_or_pos k with h0 | h0
        · subst h0; simp at h; omega
        · exact h0
      have hd : u / 10 < 10 ^ k := by
        rw [Nat.pow_succ] at h
        exact Nat.div_lt_of_lt_mul (by rw [Nat.mul_comm]; exact h)
      show digF k (u / 10) (UInt8.ofNat (48 + u % 10) :: acc) = _
      rw [digF_eq k (u / 10) _ hd hk, Big.dec_big (by omega : ¬ u < 10), List.append_assoc]
      rfl
noncomputable def digs (n : Nat) : List UInt8 := digF (Nat.succ (Nat.log2 n)) n []
theorem digs_eq (n : Nat) : digs n = Lib.decDigits n := by
  unfold digs
  have h : n < 2 ^ (Nat.log2 n + 1) := Nat.lt_log2_self
  rw [digF_eq _ _ _ (Nat.lt_of_lt_of_le h (Nat.pow_le_pow_left (by omega) _)) (by omega), List.append_nil]
noncomputable def isDig (c : UInt8) : Bool := Nat.ble 48 c.toNat && Nat.ble c.toNat 57
noncomputable def allDig (l : List UInt8) : Bool := List.rec (motive := fun _ => Bool) true (fun c _ ih => isDig c && ih) l
theorem allDig_ok : ∀ {l : List UInt8}, allDig l = true → Big.Digs l
  | [], _ => fun c hc => by simp at hc
  | c :: l, h => by
    have h' : (isDig c && allDig l) = true := h
    simp only [Bool.and_eq_true, isDig] at h'
    intro d hd
    rcases List.mem_cons.1 hd with rfl | hd
    · exact ⟨Nat.le_of_ble_eq_true h'.1.1, Nat.le_of_ble_eq_true h'.1.2⟩
    · exact allDig_ok h'.2 d hd
noncomputable def isTextB (l : List UInt8) : Bool := match l with
  | [] => false
  | c :: m => allDig (c :: m) && (match m with
    | [] => true
    | _ :: _ => Nat.ble 49 c.toNat)
theorem isTextB_ok {l : List UInt8} (h : isTextB l = true) : Big.IsText l := by
  match l, h with
  | [c], h =>
    simp only [isTextB, Bool.and_eq_true] at h
    exact ⟨by simp, fun e => by simp at e; rw [e], allDig_ok h.1⟩
  | c :: d :: m, h =>
    simp only [isTextB, Bool.and_eq_true] at h
    refine ⟨by simp, fun e => ?_, allDig_ok h.1⟩
    simp at e
    have := Nat.le_of_ble_eq_true h.2
    subst e
    exact absurd this (by decide)
noncomputable def dnumF (l : List UInt8) : Nat → Nat := List.rec (motive := fun _ => Nat → Nat) (fun n => n) (fun c _ ih n => ih (Nat.add (Nat.mul n 10) (Nat.sub c.toNat 48))) l
theorem dnumF_eq : ∀ (l : List UInt8) (n : Nat), dnumF l n = l.foldl (fun n c => n * 10 + (c.toNat - 48)) n
  | [], _ => rfl
  | _ :: l, _ => dnumF_eq l _
section
variable {h h' : Tr (Blk Nat)} {nx nx' : Nat} {R W : List Nat} {r : Ren} {w : World} {v : Value}
theorem goes_new1 {N : Nat} {u : Value} (hp : plain u = true) {f : FuncId} {args' : List Value} (e : (bind (newFact N) fun x => ret (.tuple ⟨[x, u]⟩) : M Nat Value) h nx = .ok v h' nx' R W) (hM : Mod natSig r h.get w) (hN : New r nx nx')
    (c : Calls Tryz.prog f ⟨args'⟩ w fun e w' => ∃ v', e = .returned (.tuple ⟨[v', u]⟩) ∧ NatIn w' v' N ∧ Below w.heap.size w w') : Goes f args' r w nx nx' W h'.get v := by
  obtain ⟨x, h0, nx0, R0, W0, R3, W3, e0, e3, rfl, rfl⟩ := bind_ok e
  obtain ⟨rfl, rfl, rfl, rfl⟩ := ret_ok e3
  obtain ⟨i, h1, nx1, R1, W1, R2, W2, e1, e2, rfl, rfl⟩ := bind_ok e0
  obtain ⟨rfl, rfl, rfl, rfl⟩ := ret_ok e2
  unfold fresh at e1
  cases e1
  refine c.mono ?_
  rintro en w' ⟨v', rfl, hv, hb⟩
  obtain ⟨r', hX, hr⟩ := ext_fact (S := natSig) (f := N) hM hb hN hv (nat_one hv)
  exact ⟨.tuple ⟨[v', u]⟩, r', rfl, .tuple (.cons (.opq hr (nat_one hv)) (.cons (.same hp) .nil)), by simpa using hX.congr fun n => .inr (Tr.get_set _ _ _ _)⟩
theorem goes_new2 {N M' : Nat} {f : FuncId} {args' : List Value} (e : (bind (newFact N) fun x => bind (newFact M') fun y => ret (.tuple ⟨[x, y]⟩) : M Nat Value) h nx = .ok v h' nx' R W) (hM : Mod natSig r h.get w) (hN : New r nx nx')
    (c : Calls Tryz.prog f ⟨args'⟩ w fun e w' => ∃ a b, e = .returned (.tuple ⟨[a, b]⟩) ∧ NatIn w' a N ∧ NatIn w' b M' ∧ Below w.heap.size w w') : Goes f args' r w nx nx' W h'.get v := by
  obtain ⟨x, h0, nx0, R0, W0, R3, W3, e0, e3, rfl, rfl⟩ := bind_ok e
  obtain ⟨i, h1, nx1, R1, W1, R2, W2, e1, e2, rfl, rfl⟩ := bind_ok e0
  obtain ⟨rfl, rfl, rfl, rfl⟩ := ret_ok e2
  unfold fresh at e1
  cases e1
  obtain ⟨y, h4, nx4, R4, W4, R5, W5, e4, e5, rfl, rfl⟩ := bind_ok e3
  obtain ⟨rfl, rfl, rfl, rfl⟩ := ret_ok e5
  obtain ⟨j, h6, nx6, R6, W6, R7, W7, e6, e7, rfl, rfl⟩ := bind_ok e4
  obtain ⟨rfl, rfl, rfl, rfl⟩ := ret_ok e7
  unfold fresh at e6
  cases e6
  refine c.mono ?_
  rintro en w' ⟨a, b, rfl, ha, hb', hb⟩
  obtain ⟨r1, hX, hr⟩ := ext_fact (S := natSig) (f := N) hM hb (hN.sub (Nat.le_refl _) (by omega)) ha (nat_one ha)
  have hN2 := New.after (hN.sub (lo' := nx) (hi' := nx + 1 + 1) (Nat.le_refl _) (by omega)) hX (by omega)
  obtain ⟨r2, hY, hs⟩ := ext_fact (S := natSig) (f := M') hX.mod (Below.refl _ w') hN2 hb' (nat_one hb')
  refine ⟨.tuple ⟨[a, b]⟩, r2, rfl, .tuple (.cons (.opq (hY.le.val _ _ hr) (nat_one ha)) (.cons (.opq hs (nat_one hb')) .nil)), ?_⟩
  have hZ := hX.trans hY (by omega) (by omega)
  refine Ext.congr (by simpa using hZ) fun n => .inr ?_
  rw [Tr.get_set, Tr.get_set]
end
theorem sum_bits : SumF natSig Tryz.prog 213 (fun args => one args fun n => ret (.int .i64 ((bitsN n : Nat) : Int))) :=
  one_ok (fun _ => loc_ret _) fun n h nx v h' nx' R W e r w a hn sn hM _ => goes_val e rfl hM (same_below (bits_num w a n _ hn sn (by omega)))
theorem sum_word : SumF natSig Tryz.prog 63 (fun args => one args fun n => ret (.tuple #[.int .u64 (((if n < Big.M64 then n else 0) : Nat) : Int), .bool (decide (n < Big.M64))])) :=
  one_ok (fun _ => loc_ret _) fun n h nx v h' nx' R W e r w a hn _ hM _ => goes_val e rfl hM (same_below (word2_any w a n hn))
theorem sum_text : SumF natSig Tryz.prog 53 (fun args => one args fun n => ret (.string ⟨⟨digs n⟩⟩)) :=
  one_ok (fun _ => loc_ret _) fun n h nx v h' nx' R W e r w a hn sn hM _ => goes_val e rfl hM (by
    rw [digs_eq]
    exact text_any w a n _ hn sn (by omega) hM.base)
theorem sum_quoRem : SumF natSig Tryz.prog 131 (fun args => two args fun n m => bind (newFact (Nat.div n m)) fun x => bind (newFact (Nat.mod n m)) fun y => ret (.tuple ⟨[x, y]⟩)) :=
  two_ok (fun _ _ => loc_bind (loc_newFact _) fun _ => loc_bind (loc_newFact _) fun _ => loc_ret _) fun n m h nx v h' nx' R W e r w a b hn hm sn sm hM hN => goes_new2 e hM hN (quoRem_num w a b n m _ hn hm sn (by omega))
theorem sum_parse : SumF natSig Tryz.prog 129 (fun args => match args with
    | [a] => match a with
      | .string s => cond (Nat.ble s.size 100000 && isTextB s.data.toList) (some (bind (newFact (dnumF s.data.toList 0)) fun x => ret (.tuple ⟨[x, .bool true]⟩))) none
      | _ => none
    | _ => none) := by
  intro args m e
  rcases args with _ | ⟨a, _ | ⟨c, l⟩⟩ <;> simp only [reduceCtorEq] at e
  cases a with
  | string s =>
    simp only at e
    cases hk : (Nat.ble s.size 100000 && isTextB s.data.toList) with
    | false => rw [hk] at e; cases e
    | true =>
      rw [hk] at e
      simp only [cond_true, Option.some.injEq] at e
      subst e
      simp only [Bool.and_eq_true] at hk
      have hlt : s.size ≤ 100000 := Nat.le_of_ble_eq_true hk.1
      refine ⟨loc_bind (loc_newFact _) fun _ => loc_ret _, ?_⟩
      intro h nx v h' nx' R W e r w args' ha hM hN
      cases ha with
      | cons ha1 ha2 =>
        cases ha2
        have hb := ha1.str
        subst hb
        exact goes_new1 rfl e hM hN (by
          rw [dnumF_eq]
          exact parse_any w s (isTextB_ok hk.2) (by omega))
  | _ => simp at e
end Ev
end Go.Proofs.YthjofdfnppadnaaGreatDoor
namespace Go.Proofs.YthjofdfnppadnaaGreatDoor
open Go Go.RowKit
namespace Ev
section
variable {F : Type} {S : Sig F} {P : Program}
noncomputable def geAll (k : Nat) (l : List Nat) : Bool := List.rec (motive := fun _ => Bool) true (fun n _ ih => Bool.rec (motive := fun _ => Bool) false ih (Nat.ble k n)) l
theorem geAll_ok {k : Nat} : ∀ {l : List Nat}, geAll k l = true → ∀ n ∈ l, k ≤ n
  | [], _, n, hn => by simp at hn
  | m :: l, h, n, hn => by
    have h' : (Bool.rec (motive := fun _ => Bool) false (geAll k l) (Nat.ble k m) : Bool) = true := h
    cases hb : Nat.ble k m with
    | false => rw [hb] at h'; cases h'
    | true =>
      rw [hb] at h'
      rcases List.mem_cons.1 hn with rfl | hn
      · exact Nat.le_of_ble_eq_true hb
      · exact geAll_ok h' n hn
noncomputable def plains (l : List Value) : Bool := plainL plain2 l
theorem plains_ok {r : Ren} : ∀ {l : List Value}, plains l = true → VsR r l l
  | [], _ => .nil
  | v :: l, h => by
    have h' : (plain2 v && plains l) = true := h
    simp only [Bool.and_eq_true] at h'
    exact .cons (VR.same2 h'.1) (plains_ok h'.2)
theorem VsR_eq {r : Ren} : ∀ {l l' : List Value}, plains l = true → VsR r l l' → l' = l
  | [], _, _, h => by cases h; rfl
  | v :: l, _, hp, h => by
    have h' : (plain2 v && plains l) = true := hp
    simp only [Bool.and_eq_true] at h'
    cases h with
    | cons a b => rw [a.eq_of_plain2 h'.1, VsR_eq h'.2 b]
noncomputable def plain3 (v : Value) : Bool := match v with
  | .tuple cs => plains cs.toList
  | v => plain2 v
theorem same3 {r : Ren} {v : Value} (h : plain3 v = true) : VR r v v := by
  cases v with
  | tuple cs => cases cs; exact .tuple (plains_ok (by simpa [plain3] using h))
  | _ => exact VR.same2 h
theorem eq_of_plain3 {r : Ren} {v v' : Value} (h : VR r v v') (hp : plain3 v = true) : v' = v := by
  cases h with
  | tuple a => rw [VsR_eq (by simpa [plain3] using hp) a]
  | same p => rfl
  | ptr p => exact (VR.ptr p).eq_of_plain2 hp
  | slice p => exact (VR.slice p).eq_of_plain2 hp
  | agg a => exact (VR.agg a).eq_of_plain2 hp
  | opq p o => exact (VR.opq p o).eq_of_plain2 hp
  | func a b => exact (VR.func a b).eq_of_plain2 hp
  | iface a => exact (VR.iface a).eq_of_plain2 hp
noncomputable def gives (nx : Nat) (m : M F Value) : Option Value := match m .nil nx with
  | .no => none
  | .ok a _ _ _ W => cond (plain3 a && geAll nx W) (some a) none
theorem gives_ok {nx : Nat} {m : M F Value} {v : Value} (e : gives nx m = some v) : ∃ h' nx' R W, m .nil nx = .ok v h' nx' R W ∧ plain3 v = true ∧ ∀ n ∈ W, nx ≤ n := by
  unfold gives at e
  cases hm : m .nil nx with
  | no => rw [hm] at e; cases e
  | ok a h' nx' R W =>
    rw [hm] at e
    simp only at e
    cases hc : (plain3 a && geAll nx W) with
    | false => rw [hc] at e; cases e
    | true =>
      rw [hc] at e
      simp only [cond_true, Option.some.injEq] at e
      subst e
      simp only [Bool.and_eq_true] at hc
      exact ⟨h', nx', R, W, rfl, hc.1, geAll_ok hc.2⟩
noncomputable def ren0 (G : Nat) : Ren := ⟨fun n => if n < G then some n else none, fun _ => none⟩
theorem mod0 {w : World} (hG : S.G ≤ w.heap.size) (hb : S.base w) : Mod S (ren0 S.G) (fun _ => none) w := by
  refine ⟨fun n m b h1 h2 => ?_, fun n b h => ?_, fun n c t h => (by cases h), fun n f h => (by cases h), hb, fun n hn => if_pos hn⟩
  · unfold ren0 at h1 h2
    simp only at h1 h2
    split at h1 <;> split at h2 <;> first | (cases h1; cases h2; rfl) | (cases h1; done) | (cases h2; done)
  · unfold ren0 at h
    simp only at h
    split at h
    · cases h; omega
    · cases h
theorem gives_calls {C : Cfg F} [HardLoc C] {sum : Sums F} {n nx : Nat} {f : FuncId} {args : List Value} {v : Value} (hF : Fits S P C) (hs : SumOK S P sum) (e : gives nx (call P C sum n f args) = some v) (ha : plains args = true) (hx : S.G ≤ nx) {w : World} (hG : S.G ≤ w.heap.size) (hb : S.base w) :
    Calls P f ⟨args⟩ w fun e w' => e = .returned v ∧ Below w.heap.size w w' := by
  obtain ⟨h', nx', R, W, hm, hp, hW⟩ := gives_ok e
  have hc := call_ok hF hs n
  have hfr : Fr (.nil : Tr (Blk F)) nx := fun k _ => Tr.get_nil k
  have hrun := Run.self (hc.loc f args) hm hfr
  have hN : New (ren0 S.G) nx nx' := fun k h1 h2 => ⟨if_neg (by omega), rfl⟩
  have hg : (Tr.get (.nil : Tr (Blk F))) = fun _ => none := funext fun k => Tr.get_nil k
  refine (hc.run f args _ _ _ _ _ _ _ hrun (ren0 S.G) w args (plains_ok ha) (by rw [hg]; exact mod0 hG hb) hN).mono ?_
  rintro en w' ⟨v', r', rfl, hv, hX⟩
  have hv' := eq_of_plain3 hv hp
  subst hv'
  refine ⟨rfl, hX.os, hX.tape, hX.output, hX.size, fun b hb' => ?_⟩
  have hbo : w.heap[b]? = some w.heap[b] := Array.getElem?_eq_getElem hb'
  rw [hbo]
  exact hX.keep b _ hbo fun k hk => by
    have := hW k hk
    show ¬ (if k < S.G then some k else none) = some b
    rw [if_neg (by omega)]
    simp
end
noncomputable def natList : List (Nat × (List Value → Option (M Nat Value))) := [
  (132, fun args => two args fun n m => newFact (Nat.add n m)),
  (194, fun args => two args fun n m => newFact (Nat.sub n m)),
  (133, fun args => two args fun n m => newFact (Nat.mul n m)),
  (118, fun args => two args fun n m => newFact (Nat.div n m)),
  (117, fun args => two args fun n m => newFact (Nat.gcd n m)),
  (131, fun args => two args fun n m => bind (newFact (Nat.div n m)) fun x => bind (newFact (Nat.mod n m)) fun y => ret (.tuple ⟨[x, y]⟩)),
  (130, fun args => two args fun n m => ret (.int .i64 (Big.cmpI n m))),
  (126, fun args => one args fun n => ret (.bool (decide (n = 1)))),
  (205, fun args => one args fun n => ret (.int .i64 ((szN n : Nat) : Int))),
  (213, fun args => one args fun n => ret (.int .i64 ((bitsN n : Nat) : Int))),
  (162, fun args => one args fun n => ret (.string (bst n))),
  (63, fun args => one args fun n => ret (.tuple #[.int .u64 (((if n < Big.M64 then n else 0) : Nat) : Int), .bool (decide (n < Big.M64))])),
  (53, fun args => one args fun n => ret (.string ⟨⟨digs n⟩⟩)),
  (165, fun args => match args with
    | [a, b] => match b with
      | .int k s => cond (decide (k = .i64) && decide (s ≤ 64000000000)) (some (bind (natV a) fun n => cond (small n) (newFact (n * 2 ^ s.toNat)) fail)) none
      | _ => none
    | _ => none),
  (119, fun args => match args with
    | [a] => match a with
      | .int k s => match s with
        | .ofNat n => cond (decide (k = .u64) && Nat.ble (Nat.succ n) 18446744073709551616) (some (newFact n)) none
        | _ => none
      | _ => none
    | _ => none),
  (176, fun args => match args with
    | [a] => match a with
      | .string s => cond (Nat.ble s.size 100000) (some (newFact (Big.bnum s.data.toList))) none
      | _ => none
    | _ => none),
  (129, fun args => match args with
    | [a] => match a with
      | .string s => cond (Nat.ble s.size 100000 && isTextB s.data.toList) (some (bind (newFact (dnumF s.data.toList 0)) fun x => ret (.tuple ⟨[x, .bool true]⟩))) none
      | _ => none
    | _ => none)]
theorem natList_ok : ∀ x ∈ natList, SumF natSig Tryz.prog x.1 x.2 := by
  unfold natList
  intro x hx
  simp only [List.mem_cons, List.not_mem_nil, or_false] at hx
  rcases hx with rfl | rfl | rfl | rfl | rfl | rfl | rfl | rfl | rfl | hx
  · exact sum_add
  · exact sum_sub
  · exact sum_mul
  · exact sum_quo
  · exact sum_gcd
  · exact sum_quoRem
  · exact sum_cmp
  · exact sum_isOne
  · exact sum_size
  rcases hx with rfl | hx
  · exact sum_bits
  rcases hx with rfl | rfl | rfl | hx
  · exact sum_bytes
  · exact sum_word
  · exact sum_text
  rcases hx with rfl | hx
  · exact sum_shl
  rcases hx with rfl | rfl | rfl
  · exact sum_of
  · exact sum_fromBytes
  · exact sum_parse
noncomputable def natSums : Sums Nat := sumsOf (mkTab natList)
theorem natSums_ok : SumOK natSig Tryz.prog natSums := sumsOf_ok natList_ok
noncomputable def runs (n : Nat) (f : FuncId) (args : List Value) : Option Value := gives 100000 (call Tryz.prog natCfg natSums n f args)
theorem glob_few : Tryz.prog.globals.size ≤ 100000 := by
  have h : Nat.ble Tryz.prog.globals.size 100000 = true := by kernel_rfl
  exact Nat.le_of_ble_eq_true h
theorem runs_calls {n : Nat} {f : FuncId} {args : List Value} {v : Value} (e : runs n f args = some v) (ha : plains args = true) {w : World} (hG : Tryz.prog.globals.size ≤ w.heap.size) (hb : Tab w) :
    Calls Tryz.prog f ⟨args⟩ w fun e w' => e = .returned v ∧ Below w.heap.size w w' :=
  gives_calls natFits natSums_ok e ha glob_few hG hb
end Ev
end Go.Proofs.YthjofdfnppadnaaGreatDoor
namespace Go.Proofs.YthjofdfnppadnaaGreatDoor
open Go Go.RowKit
namespace Ev
noncomputable def eqL {α : Type} (f : α → α → Bool) (l : List α) : List α → Bool := List.rec (motive := fun _ => List α → Bool)
  (fun m => match m with | [] => true | _ :: _ => false) (fun a _ ih m => match m with | [] => false | b :: m => f a b && ih m) l
theorem eqL_ok {α : Type} {f : α → α → Bool} (hf : ∀ a b, f a b = true → a = b) : ∀ {l m : List α}, eqL f l m = true → l = m
  | [], [], _ => rfl
  | [], _ :: _, h => by exact absurd (show false = true from h) (by simp)
  | _ :: _, [], h => by exact absurd (show false = true from h) (by simp)
  | a :: l, b :: m, h => by
    have h' : (f a b && eqL f l m) = true := h
    simp only [Bool.and_eq_true] at h'
    rw [hf _ _ h'.1, eqL_ok hf h'.2]
noncomputable def eqC (a b : UInt8) : Bool := Nat.beq a.toNat b.toNat
theorem eqC_ok (a b : UInt8) (h : eqC a b = true) : a = b := UInt8.toNat_inj.1 (Nat.eq_of_beq_eq_true h)
noncomputable def eqS (s t : ByteArray) : Bool := eqL eqC s.data.toList t.data.toList
theorem eqS_ok {s t : ByteArray} (h : eqS s t = true) : s = t := by
  obtain ⟨⟨l⟩⟩ := s
  obtain ⟨⟨m⟩⟩ := t
  have : l = m := eqL_ok eqC_ok h
  rw [this]
noncomputable def eq1 (v w : Value) : Bool := match v with
  | .bool a => match w with | .bool b => decide (a = b) | _ => false
  | .int k a => match w with | .int l b => decide (k = l) && decide (a = b) | _ => false
  | .float k a => match w with | .float l b => decide (k = l) && Nat.beq a b | _ => false
  | .complex k a b => match w with | .complex l c d => decide (k = l) && (Nat.beq a c && Nat.beq b d) | _ => false
  | .string s => match w with | .string t => eqS s t | _ => false
  | _ => false
theorem eq1_ok (v w : Value) (h : eq1 v w = true) : v = w := by
  unfold eq1 at h
  cases v <;> simp only [Bool.false_eq_true] at h <;> cases w <;> simp only [Bool.false_eq_true, Bool.and_eq_true, decide_eq_true_eq] at h
  · rw [h]
  · rw [h.1, h.2]
  · rw [h.1, Nat.eq_of_beq_eq_true h.2]
  · rw [h.1, Nat.eq_of_beq_eq_true h.2.1, Nat.eq_of_beq_eq_true h.2.2]
  · rw [eqS_ok h]
noncomputable def eqV (v w : Value) : Bool := match v with
  | .agg a => match w with | .agg b => eqL eq1 a.toList b.toList | _ => false
  | _ => eq1 v w
theorem eqV_ok (v w : Value) (h : eqV v w = true) : v = w := by
  unfold eqV at h
  cases v <;> try exact eq1_ok _ _ h
  cases w <;> simp only [Bool.false_eq_true] at h
  rename_i a b
  obtain ⟨l⟩ := a
  obtain ⟨m⟩ := b
  have : l = m := eqL_ok eq1_ok h
  rw [this]
theorem goes_val3 {h h' : Tr (Blk Nat)} {nx nx' : Nat} {R W : List Nat} {r : Ren} {w : World} {u v : Value} {f : FuncId} {args' : List Value} (e : (ret u : M Nat Value) h nx = .ok v h' nx' R W) (hp : plain3 u = true) (hM : Mod natSig r h.get w) (c : Calls Tryz.prog f ⟨args'⟩ w fun e w' => e = .returned u ∧ Below w.heap.size w w') : Goes f args' r w nx nx' W h'.get v := by
  obtain ⟨rfl, rfl, rfl, rfl⟩ := ret_ok e
  refine c.mono ?_
  rintro en w' ⟨rfl, hb⟩
  exact ⟨_, r, rfl, same3 hp, ext_below hM hb _⟩
structure Fact where
  f : FuncId
  args : List Value
  v : Value
def Fact.ok (x : Fact) : Prop := plains x.args = true ∧ plain3 x.v = true ∧ ∀ w : World, Tryz.prog.globals.size ≤ w.heap.size → Tab w → Calls Tryz.prog x.f ⟨x.args⟩ w fun e w' => e = .returned x.v ∧ Below w.heap.size w w'
theorem Fact.of_run {x : Fact} {n : Nat} (h : runs n x.f x.args = some x.v) (ha : plains x.args = true) : x.ok := by
  refine ⟨ha, ?_, fun w hG hT => runs_calls h ha hG hT⟩
  obtain ⟨_, _, _, _, _, hp, _⟩ := gives_ok h
  exact hp
noncomputable def look (f : FuncId) (args : List Value) (l : List Fact) : Option Value := List.rec (motive := fun _ => Option Value) none
  (fun x _ ih => Bool.rec (motive := fun _ => Option Value) ih (Bool.rec (motive := fun _ => Option Value) ih (some x.v) (eqL eqV x.args args)) (Nat.beq x.f f)) l
theorem look_ok {f : FuncId} {args : List Value} {v : Value} : ∀ {l : List Fact}, look f args l = some v → ∃ x ∈ l, x.f = f ∧ x.args = args ∧ x.v = v
  | [], h => by cases h
  | x :: l, h => by
    have h' : (Bool.rec (motive := fun _ => Option Value) (look f args l) (Bool.rec (motive := fun _ => Option Value) (look f args l) (some x.v) (eqL eqV x.args args)) (Nat.beq x.f f) : Option Value) = some v := h
    cases hb : Nat.beq x.f f with
    | false =>
      rw [hb] at h'
      obtain ⟨y, hy, r⟩ := look_ok h'
      exact ⟨y, List.mem_cons_of_mem _ hy, r⟩
    | true =>
      rw [hb] at h'
      cases hc : eqL eqV x.args args with
      | false =>
        rw [hc] at h'
        obtain ⟨y, hy, r⟩ := look_ok h'
        exact ⟨y, List.mem_cons_of_mem _ hy, r⟩
      | true =>
        rw [hc] at h'
        exact ⟨x, List.mem_cons_self, Nat.eq_of_beq_eq_true hb, eqL_ok eqV_ok hc, Option.some.inj h'⟩
noncomputable def known (l : List Fact) : Sums Nat := fun f args => match look f args l with
  | some v => some (ret v)
  | none => natSums f args
theorem known_ok {l : List Fact} (hl : ∀ x ∈ l, x.ok) : SumOK natSig Tryz.prog (known l) := by
  refine ⟨fun f args m e => ?_, fun f args m e h nx v h' nx' R W hr r w args' ha hM hN => ?_⟩
  · unfold known at e
    cases hk : look f args l with
    | none => rw [hk] at e; exact natSums_ok.loc f args m e
    | some v => rw [hk] at e; cases e; exact loc_ret _
  · unfold known at e
    cases hk : look f args l with
    | none => rw [hk] at e; exact natSums_ok.run f args m e h nx v h' nx' R W hr r w args' ha hM hN
    | some u =>
      rw [hk] at e
      cases e
      obtain ⟨x, hx, rfl, rfl, rfl⟩ := look_ok hk
      obtain ⟨h1, h2, h3⟩ := hl x hx
      obtain rfl : args' = x.args := VsR_eq h1 ha
      have hG : Tryz.prog.globals.size ≤ w.heap.size := by
        rcases Nat.eq_zero_or_pos Tryz.prog.globals.size with h0 | h0
        · omega
        · have := hM.lt _ _ (hM.glob (Tryz.prog.globals.size - 1) (show _ < Tryz.prog.globals.size by omega))
          omega
      exact goes_val3 hr.ok h2 hM (h3 w hG hM.base)
noncomputable def runsBy (l : List Fact) (n : Nat) (f : FuncId) (args : List Value) : Option Value := gives 100000 (call Tryz.prog natCfg (known l) n f args)
theorem runsBy_calls {l : List Fact} (hl : ∀ x ∈ l, x.ok) {n : Nat} {f : FuncId} {args : List Value} {v : Value} (e : runsBy l n f args = some v) (ha : plains args = true) {w : World} (hG : Tryz.prog.globals.size ≤ w.heap.size) (hb : Tab w) :
    Calls Tryz.prog f ⟨args⟩ w fun e w' => e = .returned v ∧ Below w.heap.size w w' :=
  gives_calls natFits (known_ok hl) e ha glob_few hG hb
theorem Fact.by_run {l : List Fact} (hl : ∀ x ∈ l, x.ok) {x : Fact} {n : Nat} (h : runsBy l n x.f x.args = some x.v) (ha : plains x.args = true) : x.ok := by
  refine ⟨ha, ?_, fun w hG hT => runsBy_calls hl h ha hG hT⟩
  obtain ⟨_, _, _, _, _, hp, _⟩ := gives_ok h
  exact hp
end Ev
end Go.Proofs.YthjofdfnppadnaaGreatDoor
