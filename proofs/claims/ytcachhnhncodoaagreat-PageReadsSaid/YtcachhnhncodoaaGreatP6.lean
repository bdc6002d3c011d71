/- KR3, FW4, FW5, FW6, FR3, KR5, BitsTB, BitsU8, KR6, KR7, HR3, HR4. -/
import Derived.Test.YtcachhnhncodoaaGreatP5
namespace Go.Proofs.YtcachhnhncodoaaGreat
open Go.RowKit
set_option linter.unusedVariables false
def plainB (l : List (List UInt8)) : List UInt8 := l.flatMap fun x => V.enc x.length ++ x
def txB (way : Nat) (l : List (List UInt8)) : List UInt8 :=
  if way = 5 then [5] ++ plainB l
  else if way = 6 then [6] ++ V.enc (T.bk l).length ++ B.le (B.sz (l.length * bw (T.bk l).length)) (B.pk (bw (T.bk l).length) (l.map (T.plc (T.bk l)))) ++ F.fb [] (T.bk l)
  else [7] ++ F.fb [] l
theorem plainB_snoc (l : List (List UInt8)) (j : Nat) (h : j < l.length) : plainB (l.take (j + 1)) = plainB (l.take j) ++ (V.enc (l.getD j []).length ++ l.getD j []) := by
  unfold plainB
  rw [ttake_succ l j h, List.flatMap_append]
  simp
theorem plainB_len (l : List (List UInt8)) (hx : ∀ x ∈ l, x.length ≤ 16) : (plainB l).length ≤ 25 * l.length := by
  unfold plainB
  induction l with
  | nil => simp
  | cons x t ih =>
    have h1 := hx x (by simp)
    have h2 := ih (fun y hy => hx y (by simp [hy]))
    have h3 := V.sz_le x.length
    rw [List.flatMap_cons, List.length_append, List.length_append, V.enc_length, List.length_cons]
    omega
theorem bw_le (n : Nat) (h : n ≤ 64) : bw n ≤ 64 := by
  unfold bw
  by_cases h1 : n ≤ 1
  · rw [if_pos h1]; omega
  · rw [if_neg h1]; exact (B.bl_le _ 64).2 (by omega)
theorem bw_fit {x n : Nat} (h : x < n) : x < 2 ^ bw n := by
  unfold bw
  by_cases h1 : n ≤ 1
  · rw [if_pos h1]
    have : x = 0 := by omega
    subst this; decide
  · rw [if_neg h1]
    have := (B.bl_le (n - 1) (B.bl (n - 1))).1 (Nat.le_refl _)
    omega
theorem bk_fit {l : List (List UInt8)} (h : fitR l = 0) : fitR (T.bk l) = 0 := by
  obtain ⟨h1, h2⟩ := fit_zero h
  have hl := bk_length l
  exact fit_of (by omega) fun x hx => h2 x ((T.bk_mem l x).1 hx)
set_option maxHeartbeats 4000000 in
set_option maxRecDepth 100000 in
theorem textBytes5_any (a : Option Addr) (c : Nat) (l : List (List UInt8)) (w : World) (hf : fitR l = 0) (hu : Txts w w.heap.size a l) :
    Calls Tryz.prog 69 #[.slice a l.length c, .int .i64 5] w (TextPost (txB 5 l) w) := by
  obtain ⟨hl, hx⟩ := fit_zero hf
  have HO1 := Lib.hid (show ∀ W, Calls Tryz.prog 33 #[.int .i64 5] W (TextPost [5] W) from fun W => one_any 5 W (by omega))
  have HU := Lib.hid hu
  have HS := Lib.hid (fun j (h : j < l.length) => show str ([5] ++ plainB (l.take (j + 1))) = str ([5] ++ plainB (l.take j)) ++ (str (V.enc (l.getD j []).length) ++ str (l.getD j [])) by rw [plainB_snoc l j h, text_cat, text_cat, List.append_assoc])
  have HL := Lib.hid (fun j => show (str ([5] ++ plainB (l.take j))).size ≤ 10000 by
    rw [str_size, List.length_append]
    have := plainB_len (l.take j) (fun x hx' => hx x (List.mem_of_mem_take hx'))
    rw [List.length_take] at this
    simp only [List.length_cons, List.length_nil]; omega)
  have HXL := Lib.hid (fun j (h : j < l.length) => hx _ (tgetD_mem l j h))
  have HA := Lib.hid (show str ([5] ++ plainB (l.take l.length)) = str (txB 5 l) by rw [List.take_length]; rfl)
  have h0 : str ([5] ++ plainB (l.take 0)) = str [5] := rfl
  unfold TextPost at HO1 ⊢
  rw [← h0] at HO1
  clear hu hx hf h0
  generalize str (txB 5 l) = R at *
  go_enter Tryz.func69, Tryz.ntmps69
  go_wp2_with fail
  refine (HO1.out _).mono ?_
  rintro e w1 ⟨rfl, hb1⟩
  go_wp2_with fail
  go_loopw [5, 6] (fun v i wr => ∃ j : Nat, j ≤ l.length ∧ i = .int .i64 j ∧ v = .string (str ([5] ++ plainB (l.take j))) ∧ Below w.heap.size w wr) (fun _ i _ => l.length - (intOf i).toNat)
  case atStart => exact ⟨0, by omega, rfl, rfl, hb1⟩
  case round =>
    clear hb1
    obtain ⟨j, hj, rfl, rfl, hbw⟩ := hrel
    by_cases hlt : j < l.length
    · obtain ⟨b, off, rfl, hb, hcc⟩ := HU.out (fun e => by rw [e] at hlt; simp at hlt)
      have k0 := (hbw.cell (p := ⟨b, off + j, none⟩) hb).trans (hcc j hlt)
      have hbl : b < wr.heap.size := Nat.lt_of_lt_of_le hb hbw.size
      have HSJ := Lib.hid (HS.out j hlt)
      have hlj := HL.out j
      have hxl := HXL.out j hlt
      have hjI : (j : Int) < (l.length : Int) := by omega
      have hj0 : (0 : Int) ≤ (j : Int) := by omega
      generalize str ([5] ++ plainB (l.take j)) = acc at *
      generalize l.getD j [] = x at *
      have hV := fun W => vbytes_any x.length W (by omega)
      have hts : (str (V.enc x.length)).size ≤ 9 := by rw [str_size, V.enc_length]; exact V.sz_le _
      have hXs := str_size x
      unfold TextPost at hV
      generalize str (V.enc x.length) = t1 at *
      obtain ⟨X, hX⟩ : ∃ X, X = str x := ⟨_, rfl⟩
      rw [← hX] at hXs k0 HSJ
      rw [← hXs] at hV
      have f0 : ∀ p : WB wr, p.w.cell? ⟨b, off + j, none⟩ = some (.string X) := fun p => p.cell hbl k0
      have HV := Lib.hid hV
      have hw3 : IntKind.u64.wrap (X.size : Int) = (X.size : Int) := by rw [IntKind.wrap_u64]; omega
      have c1 : ¬ 9223372036854775807 < t1.size + X.size := by omega
      have c2 : ¬ 9223372036854775807 < acc.size + (t1.size + X.size) := by omega
      clear k0 hcc hX hXs hV hts hlj hxl hbl
      go_wp2_with fail
      refine wp_region_wbh (by kernel_rfl) (by kernel_rfl) ?_
      iterate 15 (refine wq_step (fun K hK => ?_); go_simp; first | (refine hK _ ?_; clear hK K) | (apply Exists.intro; refine ⟨fun _ => ?_, hK _ ?_⟩; (go_at_call 15; exact calls_wb (HV.out _)); clear hK K))
      refine wq_nil ?_
      rintro _ ⟨p, rfl⟩
      have hbp := below_then hbw p.below
      clear f0
      generalize p.w = W4 at *
      clear p
      go_wp2_with fail
      exact ⟨⟨j + 1, by omega, by go_num, by rw [HSJ.out], hbp⟩, by simp [intOf]; omega⟩
    · obtain rfl : j = l.length := by omega
      have HAA := Lib.hid HA.out
      go_wp2_with fail
      go_ret
      exact ⟨by rw [← HAA.out]; rfl, hbw⟩
set_option maxHeartbeats 2000000 in
set_option maxRecDepth 100000 in
theorem textBytes7_any (a : Option Addr) (c : Nat) (l : List (List UInt8)) (w : World) (hf : fitR l = 0) (hu : Txts w w.heap.size a l) :
    Calls Tryz.prog 69 #[.slice a l.length c, .int .i64 7] w (TextPost (txB 7 l) w) := by
  obtain ⟨hl, hx⟩ := fit_zero hf
  have HO1 := Lib.hid (show ∀ W, Calls Tryz.prog 33 #[.int .i64 7] W (TextPost [7] W) from fun W => one_any 7 W (by omega))
  have HF := Lib.hid (fun W (hb : Below w.heap.size w W) => fbytes_any a c l W hf (hu.next hb))
  have HR := Lib.hid (show str (txB 7 l) = str [7] ++ str (F.fb [] l) by rw [text_cat]; rfl)
  have s1 := str_size [7]
  have s2 := str_size (F.fb [] l)
  have s3 := fb_bound l [] hx
  unfold TextPost at HO1 HF ⊢
  generalize str (txB 7 l) = R at *
  generalize str [7] = t1 at *
  generalize str (F.fb [] l) = t2 at *
  simp only [List.length_cons, List.length_nil] at s1
  have c1 : ¬ 9223372036854775807 < t1.size + t2.size := by omega
  clear s1 s2 s3 hx hu hf
  go_enter Tryz.func69, Tryz.ntmps69
  go_wp2_with fail
  refine (HO1.out _).mono ?_
  rintro e w1 ⟨rfl, hb1⟩
  go_wp2_with fail
  refine (HF.out _ hb1).mono ?_
  rintro e w2 ⟨rfl, hb2⟩
  go_wp2_with fail
  go_ret
  exact ⟨by rw [HR.out]; rfl, below_then hb1 hb2⟩
set_option maxHeartbeats 2000000 in
set_option maxRecDepth 100000 in
theorem textBytes6_any (a : Option Addr) (c : Nat) (l : List (List UInt8)) (w : World) (hf : fitR l = 0) (hu : Txts w w.heap.size a l) :
    Calls Tryz.prog 69 #[.slice a l.length c, .int .i64 6] w (TextPost (txB 6 l) w) := by
  obtain ⟨hl, hx⟩ := fit_zero hf
  have HO1 := Lib.hid (show ∀ W, Calls Tryz.prog 33 #[.int .i64 6] W (TextPost [6] W) from fun W => one_any 6 W (by omega))
  have HB := Lib.hid (rbook_any a c l w (by omega) (fun x h => by have := hx x h; unfold maxLen; omega) hu)
  have hbl := bk_length l
  have hbk : (T.bk l).length ≤ 64 := by omega
  have HV := Lib.hid (fun W => vbytes_any (T.bk l).length W (by omega))
  have HW := Lib.hid (fun W => bookWidth_any (T.bk l).length W hbk)
  have hcl : ∀ x ∈ l.map (T.plc (T.bk l)), x < (T.bk l).length := fun x h => by
    obtain ⟨y, hy, rfl⟩ := List.mem_map.1 h
    exact (code_lt hy).1
  have HP := Lib.hid (fun a2 c2 W (h : Nums W W.heap.size a2 (l.map (T.plc (T.bk l)))) => packed_any a2 c2 (l.map (T.plc (T.bk l))) (bw (T.bk l).length) W (by simpa using hl) (bw_le _ hbk) (fun x h => bw_fit (hcl x h)) (fun x h => by have := hcl x h; omega) h)
  rw [List.length_map] at HP
  have HF := Lib.hid (fun a3 c3 W (h : Txts W W.heap.size a3 (T.bk l)) => fbytes_any a3 c3 (T.bk l) W (bk_fit hf) h)
  have HR := Lib.hid (show str (txB 6 l) = str [6] ++ str (V.enc (T.bk l).length) ++ str (B.le (B.sz (l.length * bw (T.bk l).length)) (B.pk (bw (T.bk l).length) (l.map (T.plc (T.bk l))))) ++ str (F.fb [] (T.bk l)) by rw [text_cat, text_cat, text_cat]; rfl)
  have s1 := str_size [6]
  have s2 : (str (V.enc (T.bk l).length)).size ≤ 9 := by rw [str_size, V.enc_length]; exact V.sz_le _
  have s3 : (str (B.le (B.sz (l.length * bw (T.bk l).length)) (B.pk (bw (T.bk l).length) (l.map (T.plc (T.bk l)))))).size ≤ 1048576 := by
    rw [str_size, B.le_length]; unfold B.sz
    have := Nat.mul_le_mul hl (bw_le _ hbk)
    omega
  have s4 : (str (F.fb [] (T.bk l))).size ≤ 1048576 := by
    rw [str_size]
    have := fb_bound (T.bk l) [] (fit_zero (bk_fit hf)).2
    omega
  unfold TextPost at HO1 HV HP HF ⊢
  unfold BookOfPost at HB
  generalize str (txB 6 l) = R at *
  generalize l.map (T.plc (T.bk l)) = cs at *
  generalize T.bk l = bk at *
  generalize bw bk.length = wd at *
  generalize str [6] = t1 at *
  generalize str (V.enc bk.length) = t2 at *
  generalize str (B.le (B.sz (l.length * wd)) (B.pk wd cs)) = t3 at *
  generalize str (F.fb [] bk) = t4 at *
  simp only [List.length_cons, List.length_nil] at s1
  have c1 : ¬ 9223372036854775807 < t1.size + t2.size := by omega
  have c2 : ¬ 9223372036854775807 < t1.size + t2.size + t3.size := by omega
  have c3 : ¬ 9223372036854775807 < t1.size + t2.size + t3.size + t4.size := by omega
  have hw3 : IntKind.u64.wrap (bk.length : Int) = (bk.length : Int) := by rw [IntKind.wrap_u64]; omega
  clear s1 s2 s3 s4 hx hu hf hcl
  go_enter Tryz.func69, Tryz.ntmps69
  go_wp2_with fail
  refine (HB.out).mono ?_
  rintro e w1 ⟨ab, cb, ac, cc, rfl, hT, hN, hb1⟩
  go_wp2_with fail
  refine (HO1.out _).mono ?_
  rintro e w2 ⟨rfl, hb2⟩
  go_wp2_with fail
  refine (HV.out _).mono ?_
  rintro e w3 ⟨rfl, hb3⟩
  go_wp2_with fail
  refine (HW.out _).mono ?_
  rintro e w4 ⟨rfl, rfl⟩
  have r3 := below_then hb2 hb3
  go_wp2_with fail
  refine (HP.out _ _ _ (hN.next r3)).mono ?_
  rintro e w5 ⟨rfl, hb5⟩
  have r5 := below_then r3 hb5
  go_wp2_with fail
  refine (HF.out _ _ _ (hT.next r5)).mono ?_
  rintro e w6 ⟨rfl, hb6⟩
  go_wp2_with fail
  go_ret
  exact ⟨by rw [HR.out]; rfl, below_then (below_then hb1 r5) hb6⟩
end Go.Proofs.YtcachhnhncodoaaGreat
namespace Go.Proofs.YtcachhnhncodoaaGreat
open Go.RowKit
set_option linter.unusedVariables false
theorem rdall_any (s : ByteArray) (w : World) (hs : s.size ≤ maxLen) : Calls Tryz.prog 55 #[.string s] w (ReadPost (V.rd s.data.toList) w) := by
  by_cases h0 : s.size = 0
  · have e : s.data.toList = [] := data_empty s h0
    rw [e]
    exact read_empty s w (empty_true s h0)
  · exact read_any s w hs (by omega) (empty_false s h0)
def toldR (s : List UInt8) : (Nat × Nat) × List UInt8 × Nat :=
  if (V.rd s).2.2 ≠ 0 then ((0, 0), [], (V.rd s).2.2)
  else if (V.rd (s.drop (V.rd s).2.1)).2.2 ≠ 0 then ((0, 0), [], (V.rd (s.drop (V.rd s).2.1)).2.2)
  else (((V.rd s).1, (V.rd (s.drop (V.rd s).2.1)).1), (s.drop (V.rd s).2.1).drop (V.rd (s.drop (V.rd s).2.1)).2.1, 0)
def ToldPost (r : (Nat × Nat) × List UInt8 × Nat) (w : World) (e : Ending) (w' : World) : Prop :=
  e = .returned (.tuple #[.agg #[.int .u64 (r.1.1 : Nat), .int .u64 (r.1.2 : Nat)], .string (str r.2.1), .int .i64 (r.2.2 : Nat)]) ∧ Below w.heap.size w w'
def Two (w : World) (b n m : Nat) : Prop := w.heap[b]? = some (.cells #[.int .u64 (n : Int), .int .u64 (m : Int)] 171 (0, 0))
theorem Two.cell0 {w : World} {b n m : Nat} (h : Two w b n m) : w.cell? ⟨b, 0, none⟩ = some (.int .u64 (n : Int)) := by unfold Two at h; simp [World.cell?, h]
theorem Two.cell1 {w : World} {b n m : Nat} (h : Two w b n m) : w.cell? ⟨b, 1, none⟩ = some (.int .u64 (m : Int)) := by unfold Two at h; simp [World.cell?, h]
theorem Two.free {w : World} {b n m : Nat} (h : Two w b n m) (i : Nat) : w.frozen? ⟨b, i, none⟩ = false := by unfold Two at h; simp [World.frozen?, h]
theorem Two.lt {w : World} {b n m : Nat} (h : Two w b n m) : b < w.heap.size := lt_of_block h
theorem Two.next {w w' : World} {b n m : Nat} (h : Two w b n m) (hb : Below w.heap.size w w') : Two w' b n m := (hb.block b h.lt).trans h
theorem Two.set0 {w : World} {b n m : Nat} (h : Two w b n m) (x : Nat) : Two (w.setCell ⟨b, 0, none⟩ (.int .u64 (x : Int))) b x m := by
  unfold Two at *; simp [World.setCell, Array.getElem?_modify, h]
theorem Two.set1 {w : World} {b n m : Nat} (h : Two w b n m) (x : Nat) : Two (w.setCell ⟨b, 1, none⟩ (.int .u64 (x : Int))) b n x := by
  unfold Two at *; simp [World.setCell, Array.getElem?_modify, h]
theorem Two.far {w : World} {b n m : Nat} (h : Two w b n m) (b' i : Nat) (v : Value) (hne : b' ≠ b) : Two (w.setCell ⟨b', i, none⟩ v) b n m := by
  unfold Two at *; simp [World.setCell, Array.getElem?_modify, h, hne]
theorem Two.drew {w : World} {b n m : Nat} (h : Two w b n m) : Two w.drew b n m := h
theorem two_made (w : World) : Two ((w.alloc (.cells #[.int .u64 0, .int .u64 0] 171)).alloc (.cells #[.int .u64 0, .int .u64 0] 171)) w.heap.size 0 0 ∧ Two ((w.alloc (.cells #[.int .u64 0, .int .u64 0] 171)).alloc (.cells #[.int .u64 0, .int .u64 0] 171)) (w.heap.size + 1) 0 0 := by
  constructor
  · exact (Below.heap_alloc _ _ _ (by simp)).trans (heap_alloc_new _ _)
  · have : (w.alloc (.cells #[.int .u64 0, .int .u64 0] 171)).heap.size = w.heap.size + 1 := by simp
    unfold Two; rw [← this]; exact heap_alloc_new _ _
def tgo : Nat → List UInt8 → Nat → Nat → (Nat × Nat) × List UInt8 × Nat
  | 0, r, x, y => if (V.rd r).2.2 ≠ 0 then ((0, 0), [], (V.rd r).2.2) else
      if (V.rd (r.drop (V.rd r).2.1)).2.2 ≠ 0 then ((0, 0), [], (V.rd (r.drop (V.rd r).2.1)).2.2) else (((V.rd r).1, (V.rd (r.drop (V.rd r).2.1)).1), (r.drop (V.rd r).2.1).drop (V.rd (r.drop (V.rd r).2.1)).2.1, 0)
  | 1, r, x, y => if (V.rd r).2.2 ≠ 0 then ((0, 0), [], (V.rd r).2.2) else ((x, (V.rd r).1), r.drop (V.rd r).2.1, 0)
  | _, r, x, y => ((x, y), r, 0)
theorem tgo_zero {r : List UInt8} {n k x y : Nat} (h : V.rd r = (n, k, 0)) : tgo 0 r x y = tgo 1 (r.drop k) n y := by
  simp [tgo, h]
theorem tgo_one {r : List UInt8} {n k x y : Nat} (h : V.rd r = (n, k, 0)) : tgo 1 r x y = tgo 2 (r.drop k) x n := by
  simp [tgo, h]
theorem tgo_bad {r : List UInt8} {n k e j x y : Nat} (h : V.rd r = (n, k, e)) (he : e ≠ 0) (hj : j < 2) : tgo j r x y = ((0, 0), [], e) := by
  have : j = 0 ∨ j = 1 := by omega
  rcases this with rfl | rfl <;> simp [tgo, h, he]
set_option maxHeartbeats 1000000 in
set_option maxRecDepth 100000 in
theorem told_any (s : List UInt8) (w : World) (hs : s.length ≤ maxLen) :
    Calls Tryz.prog 200 #[.string (str s)] w (ToldPost (toldR s) w) := by
  unfold maxLen at hs
  have H0 := Lib.hid (show toldR s = tgo 0 s 0 0 from rfl)
  generalize toldR s = R at *
  obtain ⟨t1, t2⟩ := two_made w
  have hbel : Below w.heap.size w ((w.alloc (.cells #[.int .u64 0, .int .u64 0] 171)).alloc (.cells #[.int .u64 0, .int .u64 0] 171)) := ((Below.refl _ _).alloc (Nat.le_refl _) _).alloc (by simp) _
  go_enter Tryz.func200, Tryz.ntmps200
  go_wp2_with fail
  obtain ⟨W1, hW1⟩ : ∃ W1, W1 = (w.alloc (.cells #[.int .u64 0, .int .u64 0] 171)).alloc (.cells #[.int .u64 0, .int .u64 0] 171) := ⟨_, rfl⟩
  obtain ⟨b0, hb0⟩ : ∃ b0, b0 = w.heap.size := ⟨_, rfl⟩
  obtain ⟨b1, hb1⟩ : ∃ b1, b1 = w.heap.size + 1 := ⟨_, rfl⟩
  rw [← hW1, ← hb0] at t1
  rw [← hW1, ← hb1] at t2
  rw [← hW1] at hbel
  rw [← hW1, ← hb1, ← hb0]
  have hne : b0 ≠ b1 := by omega
  have hg0 : w.heap.size ≤ b0 := by omega
  have hg1 : w.heap.size ≤ b1 := by omega
  clear hW1 hb0 hb1
  go_loopw [0, 6, 7, 8, 9, 10] (fun t _ _ _ _ i wr => ∃ (j x y : Nat) (r : List UInt8), j ≤ 2 ∧ i = .int .i64 j ∧ t = .string (str r) ∧ r.length ≤ 9223372036854775807 ∧ Two wr b0 0 0 ∧ Two wr b1 x y ∧ Below w.heap.size w wr ∧ Hid (R = tgo j r x y)) (fun _ _ _ _ _ i _ => 2 - (intOf i).toNat)
  case atStart => exact ⟨0, 0, 0, s, by omega, rfl, rfl, by omega, t1, t2, hbel, H0⟩
  case round =>
    obtain ⟨j, x, y, r, hj, rfl, rfl, hrl, q0, q1, hbw, HJ⟩ := hrel
    clear t1 t2 hbel
    by_cases hlt : j < 2
    · have hr := rdall_any (str r) wr (by rw [str_size]; unfold maxLen; omega)
      rw [str_data] at hr
      have hbad := V.rd_bad r
      have hok := V.rd_ok r
      have HZ := Lib.hid (fun n k h => tgo_zero (r := r) (n := n) (k := k) (x := x) (y := y) h)
      have HO := Lib.hid (fun n k h => tgo_one (r := r) (n := n) (k := k) (x := x) (y := y) h)
      have HB := Lib.hid (fun n k e h he => tgo_bad (r := r) (n := n) (k := k) (e := e) (j := j) (x := x) (y := y) h he hlt)
      have hsr := str_size r
      obtain ⟨n, k, e, he⟩ : ∃ n k e, V.rd r = (n, k, e) := ⟨_, _, _, rfl⟩
      rw [he] at hr hbad
      have HC := Lib.hid hr
      clear hr
      by_cases he0 : e = 0
      · subst he0
        obtain ⟨hk1, hkl, _, hn, _, _⟩ := hok n k he
        have HXT := Lib.hid (show (str r).extract k (str r).size = str (r.drop k) by
          apply ByteArray.ext; apply Array.toList_inj.mp
          rw [show ((str r).extract k (str r).size).data.toList = (str r).data.toList.drop k from cut_data _ k]; rfl)
        have HZ2 := Lib.hid (HZ.out n k he)
        have HO2 := Lib.hid (HO.out n k he)
        have hdl : (r.drop k).length ≤ 9223372036854775807 := by rw [List.length_drop]; omega
        have hkI : (k : Int) ≤ ((str r).size : Int) := by omega
        generalize r.drop k = r2 at *
        generalize str r = S at *
        clear hbad hok hsr he HB HZ HO
        go_wp2_with fail
        refine (HC.out).mono ?_
        rintro e2 w1 ⟨rfl, hbr⟩
        have p0 := q0.next hbr
        have p1 := q1.next hbr
        have hbw1 := below_then hbw hbr
        have hjj : j = 0 ∨ j = 1 := by omega
        rcases hjj with rfl | rfl
        · have c1 := p1.cell0
          have f1 := p1.free 0
          have c1d : w1.drew.cell? ⟨b1, 0, none⟩ = some (.int .u64 (x : Int)) := c1
          have f1d : w1.drew.frozen? ⟨b1, 0, none⟩ = false := f1
          go_wp2_with fail
          go_region
          all_goals
            go_wp2_with fail
          all_goals
            exact ⟨⟨1, n, y, r2, by omega, rfl, by rw [HXT.out], hdl, (p0.far b1 0 _ (fun h => hne h.symm)).drew, (p1.set0 n).drew, (hbw1.setCell (p := ⟨b1, 0, none⟩) hg1 _).drew, Lib.hid (by rw [HJ.out, HZ2.out])⟩, by simp [intOf]⟩
        · have c1 := p1.cell1
          have f1 := p1.free 1
          have c1d : w1.drew.cell? ⟨b1, 1, none⟩ = some (.int .u64 (y : Int)) := c1
          have f1d : w1.drew.frozen? ⟨b1, 1, none⟩ = false := f1
          go_wp2_with fail
          go_region
          all_goals
            go_wp2_with fail
          all_goals
            exact ⟨⟨2, x, n, r2, by omega, rfl, by rw [HXT.out], hdl, (p0.far b1 1 _ (fun h => hne h.symm)).drew, (p1.set1 n).drew, (hbw1.setCell (p := ⟨b1, 1, none⟩) hg1 _).drew, Lib.hid (by rw [HJ.out, HO2.out])⟩, by simp [intOf]⟩
      · have HR := Lib.hid (show R = ((0, 0), [], e) by rw [HJ.out]; exact HB.out n k e he he0)
        have heb : e = 5 ∨ e = 1 := by
          rcases hbad with h | h | h
          · exact absurd h he0
          · exact Or.inl ((Prod.mk.injEq _ _ _ _).mp ((Prod.mk.injEq _ _ _ _).mp h).2).2
          · exact Or.inr ((Prod.mk.injEq _ _ _ _).mp ((Prod.mk.injEq _ _ _ _).mp h).2).2
        have hjI : (j : Int) < 2 := by omega
        generalize str r = S at *
        clear hbad hok hsr he HZ HO HB HJ
        go_wp2_with fail
        refine (HC.out).mono ?_
        rintro e2 w1 ⟨rfl, hbr⟩
        have p0 := q0.next hbr
        have hbw1 := below_then hbw hbr
        have c0 := p0.cell0
        have c0' := p0.cell1
        have f0 := p0.free 0
        have f0' := p0.free 1
        have p2 := (p0.set0 0).set1 0
        have hbw2 : Below w.heap.size w ((w1.setCell ⟨b0, 0, none⟩ (.int .u64 ((0 : Nat) : Int))).setCell ⟨b0, 1, none⟩ (.int .u64 ((0 : Nat) : Int))) := (hbw1.setCell (p := ⟨b0, 0, none⟩) hg0 _).setCell (p := ⟨b0, 1, none⟩) hg0 _
        have d1 := (p0.set0 0).cell1
        have d1f := (p0.set0 0).free 1
        have z0 := p2.cell0
        have z1 := p2.cell1
        have g1 : ((e : Int) != 0) = true := by rw [bne_iff_ne]; omega
        simp only [Int.natCast_zero] at d1 d1f z0 z1
        clear he0
        go_wp2_with fail
        refine bodyPost_ret (v := .tuple #[.agg #[.int .u64 0, .int .u64 0], .string ⟨#[]⟩, .int .i64 e]) (by simp [results, Tryz.results200, go_sem, z0, z1]) rfl ⟨by rw [HR.out]; rfl, hbw2⟩
    · obtain rfl : j = 2 := by omega
      have HR := Lib.hid (show R = ((x, y), r, 0) by rw [HJ.out]; rfl)
      clear HJ
      have c0 := q0.cell0
      have c0' := q0.cell1
      have f0 := q0.free 0
      have f0' := q0.free 1
      have e0 := q1.cell0
      have e0' := q1.cell1
      have p2 := (q0.set0 x).set1 y
      have d1 := (q0.set0 x).cell1
      have d1f := (q0.set0 x).free 1
      have z0 := p2.cell0
      have z1 := p2.cell1
      have hbw2 : Below w.heap.size w ((wr.setCell ⟨b0, 0, none⟩ (.int .u64 (x : Int))).setCell ⟨b0, 1, none⟩ (.int .u64 (y : Int))) := (hbw.setCell (p := ⟨b0, 0, none⟩) hg0 _).setCell (p := ⟨b0, 1, none⟩) hg0 _
      obtain ⟨S, hS⟩ : ∃ S, S = str r := ⟨_, rfl⟩
      have HS := Lib.hid hS
      rw [← hS]
      clear hS
      go_wp2_with fail
      refine bodyPost_ret (v := .tuple #[.agg #[.int .u64 x, .int .u64 y], .string S, .int .i64 0]) (by simp [results, Tryz.results200, go_sem, z0, z1]) rfl ⟨by rw [HR.out, HS.out]; rfl, hbw2⟩
end Go.Proofs.YtcachhnhncodoaaGreat
namespace Go.Proofs.YtcachhnhncodoaaGreat
open Go.RowKit
set_option linter.unusedVariables false
def nextR (s last : List UInt8) : List UInt8 × List UInt8 × Nat :=
  if (toldR s).2.2 ≠ 0 then ([], [], (toldR s).2.2)
  else if last.length < (toldR s).1.1 then ([], [], 3)
  else if 16 - (toldR s).1.1 < (toldR s).1.2 then ([], [], 2)
  else if (toldR s).2.1.length < (toldR s).1.2 then ([], [], 5)
  else if (toldR s).1.1 < F.sh last (last.take (toldR s).1.1 ++ (toldR s).2.1.take (toldR s).1.2) then ([], [], 1)
  else (last.take (toldR s).1.1 ++ (toldR s).2.1.take (toldR s).1.2, (toldR s).2.1.drop (toldR s).1.2, 0)
def NextPost (r : List UInt8 × List UInt8 × Nat) (w : World) (e : Ending) (w' : World) : Prop :=
  e = .returned (.tuple #[.string (str r.1), .string (str r.2.1), .int .i64 (r.2.2 : Nat)]) ∧ Below w.heap.size w w'
theorem told_bd (s : List UInt8) : (toldR s).1.1 < 18446744073709551616 ∧ (toldR s).1.2 < 18446744073709551616 ∧ (toldR s).2.1.length ≤ s.length ∧ (toldR s).2.2 ≤ 5 := by
  have b1 := V.rd_bad s
  obtain ⟨n, k, e, h⟩ : ∃ n k e, V.rd s = (n, k, e) := ⟨_, _, _, rfl⟩
  unfold toldR
  rw [h] at b1
  simp only [h]
  by_cases he : e = 0
  · subst he
    have o1 := V.rd_ok _ _ _ h
    have b2 := V.rd_bad (s.drop k)
    obtain ⟨m, j, f, h2⟩ : ∃ m j f, V.rd (s.drop k) = (m, j, f) := ⟨_, _, _, rfl⟩
    rw [h2] at b2
    simp only [h2]
    by_cases hf : f = 0
    · subst hf
      have o2 := V.rd_ok _ _ _ h2
      refine ⟨?_, ?_, ?_, ?_⟩
      · simpa using o1.2.2.2.1
      · simpa using o2.2.2.2.1
      · simp
        try omega
      · simp
    · simp [hf]
      rcases b2 with c | c | c <;> simp at c <;> omega
  · simp [he]
    rcases b1 with c | c | c <;> simp at c <;> omega
set_option maxHeartbeats 1000000 in
set_option maxRecDepth 100000 in
theorem next_any (s last : List UInt8) (w : World) (hs : s.length ≤ maxLen) (hl : last.length ≤ 16) :
    Calls Tryz.prog 183 #[.string (str s), .string (str last)] w (NextPost (nextR s last) w) := by
  have hto := told_any s w hs
  unfold maxLen at hs
  have htb := told_bd s
  obtain ⟨R, HR2⟩ : ∃ R, R = nextR s last := ⟨_, rfl⟩
  rw [← HR2]
  unfold nextR at HR2
  obtain ⟨n, m, r, e, he⟩ : ∃ n m r e, toldR s = ((n, m), r, e) := ⟨_, _, _, _, rfl⟩
  rw [he] at hto htb HR2
  obtain ⟨hn, hm, hrl, he5⟩ := htb
  simp only at hn hm hrl he5
  simp only at HR2
  unfold ToldPost at hto
  simp only at hto
  have HT := Lib.hid hto
  clear hto he
  have hsl := str_size last
  have hsr := str_size r
  by_cases h0 : e = 0
  · subst h0
    rw [if_neg (by simp)] at HR2
    by_cases h1 : last.length < n
    · rw [if_pos h1] at HR2
      have HRE := Lib.hid HR2
      generalize str s = S at *
      generalize str last = L at *
      have g1 : decide (L.size < n) = true := decide_eq_true (by omega)
      have hwl : IntKind.u64.wrap (L.size : Int) = (L.size : Int) := by rw [IntKind.wrap_u64]; omega
      clear HR2 hsl hsr
      go_enter Tryz.func183, Tryz.ntmps183
      go_wp2_with fail
      refine (HT.out).mono ?_
      rintro e2 w1 ⟨rfl, hb1⟩
      go_wp2_with fail
      go_quiet (fail)
      go_wp2_with fail
      go_ret3
      exact ⟨by rw [HRE.out]; rfl, below_drewN ((Below.refl _ _).trans (hb1.alloc hb1.size _)) _⟩
    · rw [if_neg h1] at HR2
      by_cases h2 : 16 - n < m
      · rw [if_pos h2] at HR2
        have HRE := Lib.hid HR2
        generalize str s = S at *
        generalize str last = L at *
        have g1 : decide (L.size < n) = false := decide_eq_false (by omega)
        have hwl : IntKind.u64.wrap (L.size : Int) = (L.size : Int) := by rw [IntKind.wrap_u64]; omega
        have hws : IntKind.u64.wrap ((16 : Int) - (n : Int)) = ((16 - n : Nat) : Int) := by rw [IntKind.wrap_u64]; omega
        have g2 : decide (16 - n < m) = true := decide_eq_true h2
        have hnL : n ≤ L.size := by omega
        clear HR2 hsl hsr h1 h2
        go_enter Tryz.func183, Tryz.ntmps183
        go_wp2_with fail
        refine (HT.out).mono ?_
        rintro e2 w1 ⟨rfl, hb1⟩
        go_wp2_with fail
        go_quiet (fail)
        go_wp2_with fail
        go_ret3
        exact ⟨by rw [HRE.out]; rfl, below_drewN ((Below.refl _ _).trans (hb1.alloc hb1.size _)) _⟩
      · rw [if_neg h2] at HR2
        by_cases h3 : r.length < m
        · rw [if_pos h3] at HR2
          have HRE := Lib.hid HR2
          generalize str s = S at *
          generalize str last = L at *
          generalize str r = RR at *
          have g1 : decide (L.size < n) = false := decide_eq_false (by omega)
          have hwl : IntKind.u64.wrap (L.size : Int) = (L.size : Int) := by rw [IntKind.wrap_u64]; omega
          have hwr : IntKind.u64.wrap (RR.size : Int) = (RR.size : Int) := by rw [IntKind.wrap_u64]; omega
          have hws : IntKind.u64.wrap ((16 : Int) - (n : Int)) = ((16 - n : Nat) : Int) := by rw [IntKind.wrap_u64]; omega
          have g2 : decide (16 - n < m) = false := decide_eq_false h2
          have g3 : decide (RR.size < m) = true := decide_eq_true (by omega)
          have hnL : n ≤ L.size := by omega
          have HRRZ := Lib.hid hsr
          clear HR2 hsl hsr h1 h2 h3
          go_enter Tryz.func183, Tryz.ntmps183
          go_wp2_with fail
          refine (HT.out).mono ?_
          rintro e2 w1 ⟨rfl, hb1⟩
          go_wp2_with fail
          go_quiet (fail)
          go_wp2_with fail
          go_ret3
          exact ⟨by rw [HRE.out]; rfl, below_drewN ((Below.refl _ _).trans (hb1.alloc hb1.size _)) _⟩
        · rw [if_neg h3] at HR2
          have HSH := Lib.hid (fun W => shared_any last (last.take n ++ r.take m) W (by unfold maxLen; omega) (by rw [List.length_append, List.length_take, List.length_take]; unfold maxLen; omega))
          have hq16 := F.sh_le_left last (last.take n ++ r.take m)
          have HCT := Lib.hid (show str (last.take n ++ r.take m) = (str last).extract 0 n ++ (str r).extract 0 m by
            apply ByteArray.ext; apply Array.toList_inj.mp
            simp [str])
          rw [HCT.out] at HSH
          have HXT := Lib.hid (show (str r).extract m (str r).size = str (r.drop m) by
            apply ByteArray.ext; apply Array.toList_inj.mp
            rw [show ((str r).extract m (str r).size).data.toList = (str r).data.toList.drop m from cut_data _ m]; rfl)
          generalize last.take n ++ r.take m = t at *
          generalize F.sh last t = q at *
          generalize str s = S at *
          generalize str last = L at *
          generalize str r = RR at *
          have g1 : decide (L.size < n) = false := decide_eq_false (by omega)
          have hwl : IntKind.u64.wrap (L.size : Int) = (L.size : Int) := by rw [IntKind.wrap_u64]; omega
          have hwr : IntKind.u64.wrap (RR.size : Int) = (RR.size : Int) := by rw [IntKind.wrap_u64]; omega
          have hwq : IntKind.u64.wrap (q : Int) = (q : Int) := by rw [IntKind.wrap_u64]; omega
          have hws : IntKind.u64.wrap ((16 : Int) - (n : Int)) = ((16 - n : Nat) : Int) := by rw [IntKind.wrap_u64]; omega
          have g2 : decide (16 - n < m) = false := decide_eq_false h2
          have g3 : decide (RR.size < m) = false := decide_eq_false (by omega)
          have hnL : n ≤ L.size := by omega
          have hmR : m ≤ RR.size := by omega
          have hnLI : (n : Int) ≤ (L.size : Int) := by omega
          have hmRI : (m : Int) ≤ (RR.size : Int) := by omega
          have hc1 : ¬ 9223372036854775807 < min n L.size + min m RR.size := by omega
          have hc2 : ¬ 9223372036854775807 < n + m := by omega
          by_cases h4 : n < q
          · rw [if_pos h4] at HR2
            have HRE := Lib.hid HR2
            have g4 : decide (n < q) = true := decide_eq_true h4
            clear HR2 hsl hsr h1 h2 h3
            go_enter Tryz.func183, Tryz.ntmps183
            go_wp2_with fail
            refine (HT.out).mono ?_
            rintro e2 w1 ⟨rfl, hb1⟩
            go_wp2_with fail
            go_quiet (fail)
            go_wp2_with fail
            go_quiet (fail)
            go_wp2_with fail
            refine (HSH.out _).mono ?_
            rintro e2 w2 ⟨rfl, d, rfl⟩
            go_wp2_with fail
            go_ret3
            exact ⟨by rw [HRE.out]; rfl, below_drewN ((Below.refl _ _).trans (hb1.alloc hb1.size _)) _⟩
          · rw [if_neg h4] at HR2
            have HRE := Lib.hid HR2
            have g4 : decide (n < q) = false := decide_eq_false h4
            clear HR2 hsl hsr h1 h2 h3
            go_enter Tryz.func183, Tryz.ntmps183
            go_wp2_with fail
            refine (HT.out).mono ?_
            rintro e2 w1 ⟨rfl, hb1⟩
            go_wp2_with fail
            go_quiet (fail)
            go_wp2_with fail
            go_quiet (fail)
            go_wp2_with fail
            refine (HSH.out _).mono ?_
            rintro e2 w2 ⟨rfl, d, rfl⟩
            go_wp2_with fail
            go_quiet (fail)
            go_wp2_with fail
            go_ret3
            exact ⟨by rw [HRE.out]; simp only; rw [HCT.out, HXT.out]; rfl, below_drewN (below_drewN ((Below.refl _ _).trans (hb1.alloc hb1.size _)) _) _⟩
  · rw [if_pos h0] at HR2
    have HRE := Lib.hid HR2
    have g1 : ((e : Int) != 0) = true := by rw [bne_iff_ne]; omega
    clear HR2 hsl hsr
    go_enter Tryz.func183, Tryz.ntmps183
    go_wp2_with fail
    refine (HT.out).mono ?_
    rintro e2 w1 ⟨rfl, hb1⟩
    go_wp2_with fail
    go_ret3
    exact ⟨by rw [HRE.out]; rfl, (Below.refl _ _).trans (hb1.alloc hb1.size _)⟩
end Go.Proofs.YtcachhnhncodoaaGreat
namespace Go.Proofs.YtcachhnhncodoaaGreat
open Go.RowKit
set_option linter.unusedVariables false
theorem next_bd (s last : List UInt8) (hl : last.length ≤ 16) : (nextR s last).1.length ≤ 16 ∧ (nextR s last).2.1.length ≤ s.length ∧ (nextR s last).2.2 ≤ 5 := by
  obtain ⟨h1, h2, h3, h4⟩ := told_bd s
  unfold nextR
  generalize toldR s = T at *
  by_cases g0 : T.2.2 ≠ 0
  · rw [if_pos g0]; simp; omega
  rw [if_neg g0]
  by_cases g1 : last.length < T.1.1
  · rw [if_pos g1]; simp
  rw [if_neg g1]
  by_cases g2 : 16 - T.1.1 < T.1.2
  · rw [if_pos g2]; simp
  rw [if_neg g2]
  by_cases g3 : T.2.1.length < T.1.2
  · rw [if_pos g3]; simp
  rw [if_neg g3]
  by_cases g4 : T.1.1 < F.sh last (last.take T.1.1 ++ T.2.1.take T.1.2)
  · rw [if_pos g4]; simp
  rw [if_neg g4]
  refine ⟨?_, ?_, by simp⟩
  · simp only [List.length_append, List.length_take]; omega
  · simp only [List.length_drop]; omega
theorem fr_next (k : Nat) (last s : List UInt8) (hl : last.length ≤ 16) :
    F.fr (k + 1) last s = if (nextR s last).2.2 ≠ 0 then ([], (nextR s last).2.2)
      else if (F.fr k (nextR s last).1 (nextR s last).2.1).2 ≠ 0 then ([], (F.fr k (nextR s last).1 (nextR s last).2.1).2)
      else ((nextR s last).1 :: (F.fr k (nextR s last).1 (nextR s last).2.1).1, 0) := by
  rw [F.fr]
  unfold nextR toldR
  obtain ⟨n, a, e, h⟩ : ∃ n a e, V.rd s = (n, a, e) := ⟨_, _, _, rfl⟩
  simp only [h]
  by_cases he : e ≠ 0
  · simp [he]
  simp only [he, if_false]
  obtain ⟨m, b, f, h2⟩ : ∃ m b f, V.rd (s.drop a) = (m, b, f) := ⟨_, _, _, rfl⟩
  simp only [h2]
  by_cases hf : f ≠ 0
  · simp [hf]
  simp only [hf, if_false]
  have e0 : ((0 : Nat) ≠ 0) = False := by simp
  simp only [e0, if_false, List.drop_drop]
  by_cases h3 : last.length < n
  · simp [h3]
  simp only [h3, if_false]
  by_cases h4 : 16 < n + m
  · have h4' : 16 - n < m := by omega
    simp [h4, h4']
  have h4' : ¬ 16 - n < m := by omega
  simp only [h4, h4', if_false]
  by_cases h5 : (s.drop (a + b)).length < m
  · simp only [h5, if_true]; simp
  simp only [h5, if_false]
  have hge : n ≤ F.sh last (last.take n ++ (s.drop (a + b)).take m) := by
    refine F.sh_ge n _ _ (by omega) (by rw [List.length_append, List.length_take]; omega) ?_
    rw [List.take_append_of_le_length (by rw [List.length_take]; omega), List.take_take, Nat.min_self]
  by_cases h6 : F.sh last (last.take n ++ (s.drop (a + b)).take m) ≠ n
  · have h6' : n < F.sh last (last.take n ++ (s.drop (a + b)).take m) := by omega
    simp only [h6, h6', ne_eq, not_false_eq_true, if_true]; simp
  have h6' : ¬ n < F.sh last (last.take n ++ (s.drop (a + b)).take m) := by omega
  simp only [h6, h6', if_false]
  simp
def glue (acc : List (List UInt8)) (y : List (List UInt8) × Nat) : List (List UInt8) × Nat := if y.2 ≠ 0 then ([], y.2) else (acc ++ y.1, 0)
theorem glue_nil (k : Nat) (last s : List UInt8) : glue [] (F.fr k last s) = F.fr k last s := by
  unfold glue
  by_cases h : (F.fr k last s).2 ≠ 0
  · rw [if_pos h, ← F.fr_err k last s h]
  · rw [if_neg h, List.nil_append]
    have : (F.fr k last s).2 = 0 := by omega
    rw [← this]
theorem glue_bad (acc : List (List UInt8)) (k : Nat) (last s : List UInt8) (hl : last.length ≤ 16) (h : (nextR s last).2.2 ≠ 0) : glue acc (F.fr (k + 1) last s) = ([], (nextR s last).2.2) := by
  rw [fr_next k last s hl, if_pos h]; unfold glue; rw [if_pos h]
theorem glue_on (acc : List (List UInt8)) (k : Nat) (last s : List UInt8) (hl : last.length ≤ 16) (h : (nextR s last).2.2 = 0) :
    glue acc (F.fr (k + 1) last s) = glue (acc ++ [(nextR s last).1]) (F.fr k (nextR s last).1 (nextR s last).2.1) := by
  rw [fr_next k last s hl, if_neg (by omega)]
  unfold glue
  by_cases h2 : (F.fr k (nextR s last).1 (nextR s last).2.1).2 ≠ 0
  · rw [if_pos h2, if_pos h2, if_pos h2]
  · rw [if_neg h2, if_neg h2, if_neg (by simp)]; simp
theorem glue_end (acc : List (List UInt8)) (last s : List UInt8) : glue acc (F.fr 0 last s) = if s = [] then (acc, 0) else ([], 1) := by
  rw [F.fr]; unfold glue
  by_cases h : s = []
  · simp [h]
  · simp [h]
def freadR (s : List UInt8) (many : Int) : List (List UInt8) × Nat := if many < 0 then ([], 3) else if 64 < many then ([], 2) else F.fr many.toNat [] s
theorem fill_step (acc : List (List UInt8)) (t : List UInt8) (n : Nat) (h : acc.length < n) : (acc ++ List.replicate (n - acc.length) []).set acc.length t = (acc ++ [t]) ++ List.replicate (n - (acc ++ [t]).length) [] := by
  rw [List.set_append_right _ _ (by omega), Nat.sub_self, show n - acc.length = (n - (acc.length + 1)) + 1 by omega, List.replicate_succ, List.set_cons_zero, List.append_assoc]
  simp
set_option maxHeartbeats 1000000 in
set_option maxRecDepth 100000 in
theorem fread_ok (s : List UInt8) (n : Nat) (w : World) (hs : s.length ≤ maxLen) (hn : n ≤ 64) :
    Calls Tryz.prog 153 #[.string (str s), .int .i64 (n : Int)] w (TextsPost (F.fr n [] s) w) := by
  obtain ⟨i0, hi, hz0, hz1, hz2⟩ := info_parts info_str
  unfold maxLen at hs
  have H0 := Lib.hid (show F.fr n [] s = glue [] (F.fr (n - ([] : List (List UInt8)).length) [] s) by rw [glue_nil]; rfl)
  obtain ⟨R, hR⟩ : ∃ R, R = F.fr n [] s := ⟨_, rfl⟩
  rw [← hR] at H0 ⊢
  clear hR
  have g1 : decide ((64 : Int) < (n : Int)) = false := decide_eq_false (by omega)
  have g2 : decide ((n : Int) < 0) = false := decide_eq_false (by omega)
  go_enter Tryz.func153, Tryz.ntmps153
  go_wp2_with (at_make; refine wpList_make_full _ rfl _ _ 66 rfl w.heap.size 9 i0 (.string ByteArray.empty) 1 Tryz.underlying66 hi hz0 hz1 .i64 .i64 _ _ n rfl rfl rfl rfl (by rw [hz2]; omega) (by unfold maxLen; omega) (Nat.le_refl _) ?_; intro w0 hown0 hgrow0)
  have hb0 : Below w.heap.size w w0 := (Below.refl _ _).grown hgrow0 (Nat.le_refl _) (fun k hk => by cases hk)
  have hrow := made_trow hown0
  obtain ⟨g, hg⟩ : ∃ g, g = w.heap.size := ⟨_, rfl⟩
  have hgl : w.heap.size ≤ g := by omega
  rw [← hg] at hrow ⊢
  have hrow' : TRow w.heap.size (List.replicate n []) (.slice (some ⟨g, 0, none⟩) n n) w0 := by rw [← hg]; exact hrow
  clear hown0 hgrow0 hrow hg
  go_loopw [0, 7, 8, 9, 10, 11, 20] (fun t b _ _ _ _ i wr => ∃ (acc : List (List UInt8)) (last r : List UInt8), acc.length ≤ n ∧ i = .int .i64 (acc.length : Nat) ∧ t = .string (str r) ∧ b = .string (str last) ∧ last.length ≤ 16 ∧ r.length ≤ 9223372036854775807 ∧ TRow w.heap.size (acc ++ List.replicate (n - acc.length) []) (.slice (some ⟨g, 0, none⟩) n n) wr ∧ Below w.heap.size w wr ∧ Hid (R = glue acc (F.fr (n - acc.length) last r))) (fun _ _ _ _ _ _ i _ => n - (intOf i).toNat)
  case atStart => exact ⟨[], [], s, by simp, rfl, rfl, rfl, by simp, by omega, hrow', hb0, H0⟩
  case round =>
    obtain ⟨acc, last, r, hj, rfl, rfl, rfl, hl, hr, hrw, hbw, HJ⟩ := hrel
    clear hrow' hb0
    obtain ⟨j, hj2⟩ : ∃ j, j = acc.length := ⟨_, rfl⟩
    rw [← hj2] at hj HJ hrw ⊢
    have HJ2 := Lib.hid hj2
    clear hj2
    by_cases hlt : j < n
    · have hnx := next_any r last wr (by unfold maxLen; omega) hl
      obtain ⟨b1, b2, b3⟩ := next_bd r last hl
      have HGB := Lib.hid (glue_bad acc (n - (j + 1)) last r hl)
      have HGO := Lib.hid (glue_on acc (n - (j + 1)) last r hl)
      rw [show n - (j + 1) + 1 = n - j by omega] at HGB HGO
      unfold NextPost at hnx
      obtain ⟨t, q, e, he⟩ : ∃ t q e, nextR r last = (t, q, e) := ⟨_, _, _, rfl⟩
      rw [he] at hnx b1 b2 b3 HGB HGO
      simp only at hnx b1 b2 b3 HGB HGO
      have HN := Lib.hid hnx
      have HFS := Lib.hid (show (acc ++ List.replicate (n - j) []).set j t = (acc ++ [t]) ++ List.replicate (n - (acc ++ [t]).length) [] by have h2 := HJ2.out; rw [h2]; exact fill_step acc t n (by omega))
      have HL2 := Lib.hid (show (acc ++ [t]).length = j + 1 by have h2 := HJ2.out; rw [h2]; simp)
      have hjI : (j : Int) < (n : Int) := by omega
      clear hnx he
      by_cases h0 : e = 0
      · subst h0
        have HRN := Lib.hid (show R = glue (acc ++ [t]) (F.fr (n - (j + 1)) t q) by rw [HJ.out]; exact HGO.out rfl)
        clear HGB HGO HJ
        go_wp2_with fail
        refine (HN.out).mono ?_
        rintro e2 w1 ⟨rfl, hb1⟩
        have hrw1 := hrw.below hb1
        have c1 := hrw1.cell j (by rw [List.length_append, List.length_replicate]; have := HJ2.out; omega)
        have f1 := hrw1.free j
        have hrw2 := hrw1.put j t
        rw [HFS.out] at hrw2
        have hbw2 : Below w.heap.size w (w1.setCell ⟨g, j, none⟩ (.string (str t))) := (below_then hbw hb1).setCell (p := ⟨g, j, none⟩) hgl _
        generalize (acc ++ List.replicate (n - j) []).getD j [] = old at *
        have HRW := Lib.hid hrw2
        clear hrw hrw1 hrw2
        go_wp2_with fail
        exact ⟨⟨acc ++ [t], t, q, by rw [HL2.out]; omega, by rw [HL2.out]; go_num, rfl, rfl, b1, by omega, HRW.out, hbw2, Lib.hid (by rw [HL2.out]; exact HRN.out)⟩, by simp [intOf]; omega⟩
      · have HRN := Lib.hid (show R = ([], e) by rw [HJ.out]; exact HGB.out h0)
        have g3 : ((e : Int) != 0) = true := by rw [bne_iff_ne]; omega
        clear HGB HGO HJ
        go_wp2_with fail
        refine (HN.out).mono ?_
        rintro e2 w1 ⟨rfl, hb1⟩
        go_wp2_with fail
        go_ret2
        rw [HRN.out]
        exact TextsPost.none _ (below_then hbw hb1)
    · obtain rfl : j = n := by omega
      rw [Nat.sub_self, glue_end] at HJ
      rw [Nat.sub_self, List.replicate_zero, List.append_nil] at hrw
      have hsr := str_size r
      by_cases hr0 : r = []
      · subst hr0
        have HRN := Lib.hid (show R = (acc, 0) by rw [HJ.out, if_pos rfl])
        obtain ⟨htx, hnl⟩ := hrw.txts
        have hne : (str []).toList.isEmpty = true := by rw [str_toList]; rfl
        clear HJ hrw
        go_wp2_with fail
        go_ret2
        rw [HRN.out]
        exact ⟨_, _, by simp only; rw [← HJ2.out]; rfl, htx, hbw⟩
      · have HRN := Lib.hid (show R = ([], 1) by rw [HJ.out, if_neg hr0])
        have hne : (str r).toList.isEmpty = false := by
          rw [str_toList]
          cases r with
          | nil => exact absurd rfl hr0
          | cons x t => rfl
        generalize str r = S at *
        clear HJ hrw
        go_wp2_with fail
        go_ret2
        rw [HRN.out]
        exact TextsPost.none 1 hbw
set_option maxHeartbeats 400000 in
theorem fread_low (s : ByteArray) (n : Int) (w : World) (hn : n < 0) :
    Calls Tryz.prog 153 #[.string s, .int .i64 n] w (TextsPost ([], 3) w) := by
  go_enter Tryz.func153, Tryz.ntmps153
  go_wp2_with fail
  go_ret2
  exact TextsPost.none 3 (Below.refl _ _)
set_option maxHeartbeats 400000 in
theorem fread_high (s : ByteArray) (n : Int) (w : World) (h0 : ¬ n < 0) (hn : 64 < n) :
    Calls Tryz.prog 153 #[.string s, .int .i64 n] w (TextsPost ([], 2) w) := by
  go_enter Tryz.func153, Tryz.ntmps153
  go_wp2_with fail
  go_ret2
  exact TextsPost.none 2 (Below.refl _ _)
theorem fread_any (s : List UInt8) (n : Int) (w : World) (hs : s.length ≤ maxLen) :
    Calls Tryz.prog 153 #[.string (str s), .int .i64 n] w (TextsPost (freadR s n) w) := by
  unfold freadR
  by_cases h0 : n < 0
  · rw [if_pos h0]; exact fread_low _ n w h0
  rw [if_neg h0]
  by_cases h1 : 64 < n
  · rw [if_pos h1]; exact fread_high _ n w h0 h1
  rw [if_neg h1]
  have := fread_ok s n.toNat w hs (by omega)
  rwa [show ((n.toNat : Nat) : Int) = n by omega] at this
end Go.Proofs.YtcachhnhncodoaaGreat
namespace Go.Proofs.YtcachhnhncodoaaGreat
open Go.RowKit
set_option linter.unusedVariables false
theorem frvof_any (s : ByteArray) (w : World) (hs : s.size ≤ maxLen) : Calls Tryz.prog 63 #[.string s] w (ReadPost (V.rd s.data.toList) w) := by
  by_cases h0 : s.size = 0
  · have e : s.data.toList = [] := data_empty s h0
    rw [e]
    exact vof_empty s w h0
  · exact vof_any s w hs (by omega)
theorem next_e1 {r last : List UInt8} {n k e : Nat} (h : V.rd r = (n, k, e)) (he : e ≠ 0) : nextR r last = ([], [], e) := by
  unfold nextR toldR; simp [h, he]
theorem next_e2 {r last : List UInt8} {n k m j e : Nat} (h : V.rd r = (n, k, 0)) (h2 : V.rd (r.drop k) = (m, j, e)) (he : e ≠ 0) : nextR r last = ([], [], e) := by
  unfold nextR toldR; simp [h, h2, he]
theorem told_ok {r : List UInt8} {n k m j : Nat} (h : V.rd r = (n, k, 0)) (h2 : V.rd (r.drop k) = (m, j, 0)) : toldR r = ((n, m), r.drop (k + j), 0) := by
  unfold toldR; simp [h, h2]
theorem next_e3 {r last : List UInt8} {n m : Nat} {q : List UInt8} (h : toldR r = ((n, m), q, 0)) (h3 : last.length < n) : nextR r last = ([], [], 3) := by
  unfold nextR; simp [h, h3]
theorem next_e4 {r last : List UInt8} {n m : Nat} {q : List UInt8} (h : toldR r = ((n, m), q, 0)) (h3 : ¬ last.length < n) (hl : last.length ≤ 16) (h4 : 16 < n + m) : nextR r last = ([], [], 2) := by
  have : 16 - n < m := by omega
  unfold nextR; simp [h, h3, this]
theorem next_e5 {r last : List UInt8} {n m : Nat} {q : List UInt8} (h : toldR r = ((n, m), q, 0)) (h3 : ¬ last.length < n) (h4 : ¬ 16 < n + m) (h5 : q.length < m) : nextR r last = ([], [], 5) := by
  have : ¬ 16 - n < m := by omega
  unfold nextR; simp [h, h3, this, h5]
theorem next_e6 {r last : List UInt8} {n m : Nat} {q : List UInt8} (h : toldR r = ((n, m), q, 0)) (h3 : ¬ last.length < n) (h4 : ¬ 16 < n + m) (h5 : ¬ q.length < m) :
    nextR r last = if F.sh last (last.take n ++ q.take m) ≠ n then ([], [], 1) else (last.take n ++ q.take m, q.drop m, 0) := by
  have h4' : ¬ 16 - n < m := by omega
  have hge : n ≤ F.sh last (last.take n ++ q.take m) := by
    refine F.sh_ge n _ _ (by omega) (by rw [List.length_append, List.length_take]; omega) ?_
    rw [List.take_append_of_le_length (by rw [List.length_take]; omega), List.take_take, Nat.min_self]
  unfold nextR
  rw [h]
  simp only
  rw [if_neg (by simp), if_neg h3, if_neg h4', if_neg h5]
  by_cases h6 : F.sh last (last.take n ++ q.take m) ≠ n
  · rw [if_pos h6, if_pos (by omega)]
  · rw [if_neg h6, if_neg (by omega)]
set_option maxHeartbeats 2000000 in
set_option maxRecDepth 100000 in
theorem fof_ok (s : List UInt8) (n : Nat) (w : World) (hs : s.length ≤ maxLen) (hn : n ≤ 64) :
    Calls Tryz.prog 99 #[.string (str s), .int .i64 (n : Int)] w (TextsPost (F.fr n [] s) w) := by
  unfold maxLen at hs
  have H0 := Lib.hid (show F.fr n [] s = glue [] (F.fr (n - ([] : List (List UInt8)).length) [] s) by rw [glue_nil]; rfl)
  obtain ⟨R, hR⟩ : ∃ R, R = F.fr n [] s := ⟨_, rfl⟩
  rw [← hR] at H0 ⊢
  clear hR
  have g1 : decide ((64 : Int) < (n : Int)) = false := decide_eq_false (by omega)
  have g2 : decide ((n : Int) < 0) = false := decide_eq_false (by omega)
  go_enter Tryz.func99, Tryz.ntmps99
  go_wp2_with fail
  go_loopw [0, 6, 7, 8, 9, 10, 11, 12, 13] (fun t b v _ _ _ _ _ _ wr => ∃ (acc : List (List UInt8)) (last r : List UInt8), acc.length ≤ n ∧ t = .string (str r) ∧ b = .string (str last) ∧ last.length ≤ 16 ∧ r.length ≤ 9223372036854775807 ∧ TRow w.heap.size acc v wr ∧ Below w.heap.size w wr ∧ Hid (R = glue acc (F.fr (n - acc.length) last r))) (fun _ _ v _ _ _ _ _ _ _ => n - (match v with | .slice _ k _ => k | _ => 0))
  case atStart => exact ⟨[], [], s, by simp, rfl, rfl, by simp, by omega, tnilRow _ _, Below.refl _ _, H0⟩
  case round =>
    obtain ⟨acc, last, r, hj, rfl, rfl, hl, hr, hrw, hbw, HJ⟩ := hrel
    obtain ⟨a0, c0, rfl, htx, _, _⟩ := tRow_txts hrw
    obtain ⟨j, hj2⟩ : ∃ j, j = acc.length := ⟨_, rfl⟩
    rw [← hj2] at hj HJ hrw ⊢
    have HJ2 := Lib.hid hj2
    clear hj2
    by_cases hlt : j < n
    · have hjI : (j : Int) < (n : Int) := by omega
      have HGB := Lib.hid (glue_bad acc (n - (j + 1)) last r hl)
      have HGO := Lib.hid (glue_on acc (n - (j + 1)) last r hl)
      rw [show n - (j + 1) + 1 = n - j by omega] at HGB HGO
      rw [← HJ.out] at HGB HGO
      have HERR := Lib.hid (fun (e : Nat) (he : e ≠ 0) (h : nextR r last = ([], [], e)) => show R = ([], e) by have := HGB.out; rw [h] at this; exact this he)
      have HRW := Lib.hid hrw
      have hv1 := frvof_any (str r) wr (by rw [str_size]; unfold maxLen; omega)
      rw [str_data] at hv1
      unfold ReadPost at hv1
      have hsr := str_size r
      have hb1 := V.rd_bad r
      obtain ⟨x, k, e, he⟩ : ∃ x k e, V.rd r = (x, k, e) := ⟨_, _, _, rfl⟩
      rw [he] at hv1 hb1
      simp only at hv1
      have HV1 := Lib.hid hv1
      clear hv1 hrw htx HGB
      by_cases h0 : e = 0
      · subst h0
        obtain ⟨hk1, hkl, _, hx, hk9, _⟩ := V.rd_ok _ _ _ he
        have hv2 := fun W => frvof_any (str (r.drop k)) W (by rw [str_size, List.length_drop]; unfold maxLen; omega)
        rw [str_data] at hv2
        unfold ReadPost at hv2
        have hb2 := V.rd_bad (r.drop k)
        have HXT := Lib.hid (show (str r).extract k (str r).size = str (r.drop k) by
          apply ByteArray.ext; apply Array.toList_inj.mp
          rw [show ((str r).extract k (str r).size).data.toList = (str r).data.toList.drop k from cut_data _ k]; rfl)
        obtain ⟨m, i, f, hf⟩ : ∃ m i f, V.rd (r.drop k) = (m, i, f) := ⟨_, _, _, rfl⟩
        rw [hf] at hv2 hb2
        rw [← HXT.out] at hv2
        simp only at hv2
        have HV2 := Lib.hid hv2
        have hkI : (k : Int) ≤ ((str r).size : Int) := by omega
        clear hv2 hb1
        by_cases h02 : f = 0
        · subst h02
          obtain ⟨hi1, hil, _, hm, hi9, _⟩ := V.rd_ok _ _ _ hf
          rw [List.length_drop] at hil
          have hto := told_ok he hf
          have HXT2 := Lib.hid (show (str r).extract (k + i) (str r).size = str (r.drop (k + i)) by
            apply ByteArray.ext; apply Array.toList_inj.mp
            rw [show ((str r).extract (k + i) (str r).size).data.toList = (str r).data.toList.drop (k + i) from cut_data _ _]; rfl)
          obtain ⟨q, hq⟩ : ∃ q, q = r.drop (k + i) := ⟨_, rfl⟩
          have hql : q.length ≤ 9223372036854775807 := by rw [hq, List.length_drop]; omega
          rw [← hq] at hto HXT2
          have hkiI : (k : Int) + (i : Int) ≤ ((str r).size : Int) := by omega
          have hki0 : (0 : Int) ≤ (k : Int) + (i : Int) := by omega
          have hwki : IntKind.i64.wrap ((k : Int) + (i : Int)) = (k : Int) + (i : Int) := by rw [IntKind.wrap_i64]; omega
          have hkin : ((k : Int) + (i : Int)).toNat = k + i := by omega
          have hsl := str_size last
          have hsq := str_size q
          have HSL := Lib.hid hsl
          have HSQ := Lib.hid hsq
          have hL : (str last).size ≤ 16 := by omega
          have hQ : (str q).size ≤ 9223372036854775807 := by omega
          clear hq hb2 hsl hsq hsr he hf
          by_cases h3 : last.length < x
          · have HRE := Lib.hid (HERR.out 3 (by decide) (next_e3 hto h3))
            have g3 : decide ((str last).size < x) = true := decide_eq_true (by have := HSL.out; omega)
            have hwl : IntKind.u64.wrap ((str last).size : Int) = ((str last).size : Int) := by rw [IntKind.wrap_u64]; omega
            generalize str r = S at *
            generalize str q = Q at *
            generalize str last = L at *
            clear HGO HERR HJ h3 hto
            go_wp2_with fail
            refine (HV1.out).mono ?_
            rintro e2 w1 ⟨rfl, hbl⟩
            go_wp2_with fail
            refine (HV2.out _).mono ?_
            rintro e3 w2 ⟨rfl, hbl2⟩
            have hbl3 := below_then hbl hbl2
            go_wp2_with fail
            go_ret2
            rw [HRE.out]
            exact TextsPost.none _ (below_then hbw hbl3)
          have g3 : decide ((str last).size < x) = false := decide_eq_false (by have := HSL.out; omega)
          have hwl : IntKind.u64.wrap ((str last).size : Int) = ((str last).size : Int) := by rw [IntKind.wrap_u64]; omega
          by_cases h4 : 16 < x + m
          · have HRE := Lib.hid (HERR.out 2 (by decide) (next_e4 hto h3 hl h4))
            by_cases h41 : 16 < m
            · have g4 : decide (16 < m) = true := decide_eq_true h41
              have g4' : decide ((16 : Int) < (m : Int)) = true := decide_eq_true (by omega)
              generalize str r = S at *
              generalize str q = Q at *
              generalize str last = L at *
              clear HGO HERR HJ hto h4 h3
              go_wp2_with fail
              refine (HV1.out).mono ?_
              rintro e2 w1 ⟨rfl, hbl⟩
              go_wp2_with fail
              refine (HV2.out _).mono ?_
              rintro e3 w2 ⟨rfl, hbl2⟩
              have hbl3 := below_then hbl hbl2
              go_wp2_with fail
              go_ret2
              rw [HRE.out]
              exact TextsPost.none _ (below_then hbw hbl3)
            · have g4 : decide (16 < m) = false := decide_eq_false h41
              have g4' : decide ((16 : Int) < (m : Int)) = false := decide_eq_false (by omega)
              have hwn : IntKind.u64.wrap ((x : Int) + (m : Int)) = (x : Int) + (m : Int) := by rw [IntKind.wrap_u64]; omega
              have g5 : decide ((16 : Int) < (x : Int) + (m : Int)) = true := decide_eq_true (by omega)
              generalize str r = S at *
              generalize str q = Q at *
              generalize str last = L at *
              clear HGO HERR HJ hto h4 h3
              go_wp2_with fail
              refine (HV1.out).mono ?_
              rintro e2 w1 ⟨rfl, hbl⟩
              go_wp2_with fail
              refine (HV2.out _).mono ?_
              rintro e3 w2 ⟨rfl, hbl2⟩
              have hbl3 := below_then hbl hbl2
              go_wp2_with fail
              go_ret2
              rw [HRE.out]
              exact TextsPost.none _ (below_then hbw hbl3)
          have g4 : decide (16 < m) = false := decide_eq_false (by omega)
          have g4' : decide ((16 : Int) < (m : Int)) = false := decide_eq_false (by omega)
          have hwn : IntKind.u64.wrap ((x : Int) + (m : Int)) = (x : Int) + (m : Int) := by rw [IntKind.wrap_u64]; omega
          have g5 : decide ((16 : Int) < (x : Int) + (m : Int)) = false := decide_eq_false (by omega)
          have hwm : IntKind.i64.wrap (m : Int) = (m : Int) := by rw [IntKind.wrap_i64]; omega
          have hwx : IntKind.i64.wrap (x : Int) = (x : Int) := by rw [IntKind.wrap_i64]; omega
          by_cases h5 : q.length < m
          · have HRE := Lib.hid (HERR.out 5 (by decide) (next_e5 hto h3 h4 h5))
            have hse : (str r).size - (k + i) = q.length := by
              have h1 := congrArg ByteArray.size HXT2.out
              rw [HSQ.out] at h1
              rw [← h1]; simp
            have g6 : decide ((str r).size - (k + i) < m) = true := decide_eq_true (by omega)
            have g6' : decide ((((str r).size - (k + i) : Nat) : Int) < (m : Int)) = true := decide_eq_true (by omega)
            clear hse
            generalize str r = S at *
            generalize str last = L at *
            clear HGO HERR HJ hto h4 h3 h5
            go_wp2_with fail
            refine (HV1.out).mono ?_
            rintro e2 w1 ⟨rfl, hbl⟩
            go_wp2_with fail
            refine (HV2.out _).mono ?_
            rintro e3 w2 ⟨rfl, hbl2⟩
            have hbl3 := below_then hbl hbl2
            go_wp2_with fail
            go_ret2
            rw [HRE.out]
            exact TextsPost.none _ (below_then hbw hbl3)
          have hse : (str r).size - (k + i) = q.length := by
            have h1 := congrArg ByteArray.size HXT2.out
            rw [HSQ.out] at h1
            rw [← h1]; simp
          have g6 : decide ((str r).size - (k + i) < m) = false := decide_eq_false (by omega)
          have g6' : decide ((((str r).size - (k + i) : Nat) : Int) < (m : Int)) = false := decide_eq_false (by omega)
          have HE6 := next_e6 hto h3 h4 h5
          have HSH := Lib.hid (fun W => sharedOf_any last (last.take x ++ q.take m) W (by unfold maxLen; omega) (by rw [List.length_append, List.length_take, List.length_take]; unfold maxLen; omega))
          have hq16 := F.sh_le_left last (last.take x ++ q.take m)
          have hxL : x ≤ (str last).size := by have := HSL.out; omega
          have hmQ : m ≤ (str q).size := by have := HSQ.out; omega
          have HCT := Lib.hid (show str (last.take x ++ q.take m) = (str last).extract 0 x ++ ((str r).extract (k + i) (str r).size).extract 0 m by
            rw [HXT2.out]
            apply ByteArray.ext; apply Array.toList_inj.mp
            simp [str])
          have htl : (last.take x ++ q.take m).length ≤ 16 := by rw [List.length_append, List.length_take, List.length_take]; omega
          have HXT3 := Lib.hid (show ((str r).extract (k + i) (str r).size).extract m ((str r).size - (k + i)) = str (q.drop m) by
            rw [hse, ← HSQ.out, HXT2.out]
            apply ByteArray.ext; apply Array.toList_inj.mp
            rw [show ((str q).extract m (str q).size).data.toList = (str q).data.toList.drop m from cut_data _ m]; rfl)
          have hdl : (q.drop m).length ≤ 9223372036854775807 := by rw [List.length_drop]; omega
          have hmS : m ≤ (str r).size - (k + i) := by omega
          have hxLI : (x : Int) ≤ ((str last).size : Int) := by omega
          have hmSI : (m : Int) ≤ (((str r).size - (k + i) : Nat) : Int) := by omega
          rw [HCT.out] at HSH
          have hc1 : ¬ 9223372036854775807 < min x (str last).size + min m ((str r).size - (k + i)) := by omega
          have hc2 : ¬ 9223372036854775807 < x + m := by omega
          clear hse
          generalize last.take x ++ q.take m = t at *
          generalize F.sh last t = z at *
          generalize q.drop m = q2 at *
          generalize str r = S at *
          generalize str q = Q at *
          generalize str last = L at *
          by_cases h6 : z ≠ x
          · rw [if_pos h6] at HE6
            have HRE := Lib.hid (HERR.out 1 (by decide) HE6)
            have g7 : ((z : Int) != (x : Int)) = true := by rw [bne_iff_ne]; omega
            clear HGO HERR HJ hto h4 h3 h5 h6 HE6
            go_wp2_with fail
            refine (HV1.out).mono ?_
            rintro e2 w1 ⟨rfl, hbl⟩
            go_wp2_with fail
            refine (HV2.out _).mono ?_
            rintro e3 w2 ⟨rfl, hbl2⟩
            have hbl3 := below_then hbl hbl2
            go_wp2_with fail
            go_quiet (fail)
            go_wp2_with fail
            refine (HSH.out _).mono ?_
            rintro e4 w4 ⟨rfl, d, rfl⟩
            go_wp2_with fail
            go_ret2
            rw [HRE.out]
            exact TextsPost.none 1 (below_drewN (below_then hbw hbl3) _)
          · rw [if_neg h6] at HE6
            have hGO := HGO.out
            rw [HE6] at hGO
            have HRN := Lib.hid (show R = glue (acc ++ [t]) (F.fr (n - (j + 1)) t q2) from hGO rfl)
            have g7 : ((z : Int) != (x : Int)) = false := by rw [bne_eq_false_iff_eq]; omega
            have hJ2 := HJ2.out
            have hlb : (acc.length + 1) * 16 ≤ 140737488355328 := by omega
            clear HGO HERR HJ hto h4 h3 h5 h6 HE6 hGO hJ2
            go_wp2_with fail
            refine (HV1.out).mono ?_
            rintro e2 w1 ⟨rfl, hbl⟩
            go_wp2_with fail
            refine (HV2.out _).mono ?_
            rintro e3 w2 ⟨rfl, hbl2⟩
            have hbl3 := below_then hbl hbl2
            have hrw2 := (HRW.out).below hbl3
            have hszw := (below_then hbw hbl3).size
            go_wp2_with fail
            go_quiet (fail)
            go_wp2_with fail
            refine (HSH.out _).mono ?_
            rintro e4 w4 ⟨rfl, hd⟩
            have hb4 : Below w2.heap.size w2 w4 := by obtain ⟨d, rfl⟩ := hd; exact below_drewN (below_drewN (Below.refl _ _) _) _
            clear hd
            have hrw4 := hrw2.below hb4
            have hbw4 := below_then (below_then hbw hbl3) hb4
            have HROW := Lib.hid hrw4
            rw [← HCT.out]
            clear hrw4 hrw2
            generalize hT : str t = T at *
            have hb5 : w.heap.size ≤ (w4.alloc (.cells #[.string T] 9)).heap.size := by have := hbw4.size; simp; omega
            go_wp2_with (at_builtin; refine wpList_append_onet rfl (.tmp 78) (.tmp 80) rfl w.heap.size _ acc rfl (HROW.out.alloc_ _) w4.heap.size t rfl (by rw [hT]; exact World.cell?_alloc_new _ _ _ _) hlb hb5 ?_)
            intro v' w5 hown5 hb5w
            have hbw5 : Below w.heap.size w w5 := (hbw4.alloc hbw4.size _).trans hb5w
            have HL2 := Lib.hid (show (acc ++ [t]).length = j + 1 by have h2 := HJ2.out; rw [h2]; simp)
            have HV := Lib.hid (show ∃ a c, v' = .slice a (j + 1) c by obtain ⟨a', c', e', _⟩ := tRow_txts hown5; exact ⟨a', c', by rw [e', HL2.out]⟩)
            go_wp2_with fail
            refine ⟨⟨acc ++ [t], t, q2, by rw [HL2.out]; omega, by rw [HXT3.out], by rw [hT], htl, hdl, hown5, hbw5, Lib.hid (by rw [HL2.out]; exact HRN.out)⟩, ?_⟩
            obtain ⟨a', c', e'⟩ := HV.out
            rw [e']
            show n - (j + 1) < n - j
            omega
        · have hfb : f = 5 ∨ f = 1 := by
            rcases hb2 with h | h | h
            · exact absurd h h02
            · exact Or.inl ((Prod.mk.injEq _ _ _ _).mp ((Prod.mk.injEq _ _ _ _).mp h).2).2
            · exact Or.inr ((Prod.mk.injEq _ _ _ _).mp ((Prod.mk.injEq _ _ _ _).mp h).2).2
          have HRE := Lib.hid (HERR.out f h02 (next_e2 he hf h02))
          have g3 : ((f : Int) != 0) = true := by rw [bne_iff_ne]; omega
          generalize str r = S at *
          clear HGO HERR hsr he hf HJ h02 hfb hb2
          go_wp2_with fail
          refine (HV1.out).mono ?_
          rintro e2 w1 ⟨rfl, hbl⟩
          go_wp2_with fail
          refine (HV2.out _).mono ?_
          rintro e3 w2 ⟨rfl, hbl2⟩
          have hbl3 := below_then hbl hbl2
          go_wp2_with fail
          go_ret2
          rw [HRE.out]
          exact TextsPost.none _ (below_then hbw hbl3)
      · have g3 : ((e : Int) != 0) = true := by rw [bne_iff_ne]; omega
        have HRE := Lib.hid (HERR.out e h0 (next_e1 he h0))
        generalize str r = S at *
        clear HGO HERR hsr hb1 he HJ
        go_wp2_with fail
        refine (HV1.out).mono ?_
        rintro e2 w1 ⟨rfl, hbl⟩
        go_wp2_with fail
        go_ret2
        rw [HRE.out]
        exact TextsPost.none _ (below_then hbw hbl)
    · obtain rfl : j = n := by omega
      rw [Nat.sub_self, glue_end] at HJ
      have hsr := str_size r
      by_cases hr0 : r = []
      · subst hr0
        have HRN := Lib.hid (show R = (acc, 0) by rw [HJ.out, if_pos rfl])
        have hne : decide (0 < (str []).size) = false := by rw [str_size]; rfl
        have hne2 : decide ((0 : Int) < ((str []).size : Int)) = false := by rw [str_size]; rfl
        clear HJ hrw hsr
        go_wp2_with fail
        go_ret2
        rw [HRN.out]
        exact ⟨a0, c0, by simp only; rw [← HJ2.out]; rfl, htx, hbw⟩
      · have HRN := Lib.hid (show R = ([], 1) by rw [HJ.out, if_neg hr0])
        have hpos := List.length_pos_iff.2 hr0
        have hne : decide (0 < (str r).size) = true := decide_eq_true (by omega)
        have hne2 : decide ((0 : Int) < ((str r).size : Int)) = true := decide_eq_true (by omega)
        generalize str r = S at *
        clear HJ hrw
        go_wp2_with fail
        go_ret2
        rw [HRN.out]
        exact TextsPost.none 1 hbw
set_option maxHeartbeats 400000 in
theorem fof_low (s : ByteArray) (n : Int) (w : World) (hn : n < 0) :
    Calls Tryz.prog 99 #[.string s, .int .i64 n] w (TextsPost ([], 3) w) := by
  go_enter Tryz.func99, Tryz.ntmps99
  go_wp2_with fail
  go_ret2
  exact TextsPost.none 3 (Below.refl _ _)
set_option maxHeartbeats 400000 in
theorem fof_high (s : ByteArray) (n : Int) (w : World) (h0 : ¬ n < 0) (hn : 64 < n) :
    Calls Tryz.prog 99 #[.string s, .int .i64 n] w (TextsPost ([], 2) w) := by
  go_enter Tryz.func99, Tryz.ntmps99
  go_wp2_with fail
  go_ret2
  exact TextsPost.none 2 (Below.refl _ _)
theorem fof_any (s : List UInt8) (n : Int) (w : World) (hs : s.length ≤ maxLen) :
    Calls Tryz.prog 99 #[.string (str s), .int .i64 n] w (TextsPost (freadR s n) w) := by
  unfold freadR
  by_cases h0 : n < 0
  · rw [if_pos h0]; exact fof_low _ n w h0
  rw [if_neg h0]
  by_cases h1 : 64 < n
  · rw [if_pos h1]; exact fof_high _ n w h0 h1
  rw [if_neg h1]
  have := fof_ok s n.toNat w hs (by omega)
  rwa [show ((n.toNat : Nat) : Int) = n by omega] at this
end Go.Proofs.YtcachhnhncodoaaGreat
namespace Go.Proofs.YtcachhnhncodoaaGreat
open Go.RowKit
set_option linter.unusedVariables false
def plR : Nat → List UInt8 → List (List UInt8) × Nat
  | 0, s => if s = [] then ([], 0) else ([], 1)
  | m + 1, s =>
    if (V.rd s).2.2 ≠ 0 then ([], (V.rd s).2.2)
    else if 16 < (V.rd s).1 then ([], 2)
    else if s.length < (V.rd s).2.1 + (V.rd s).1 then ([], 5)
    else if (plR m (s.drop ((V.rd s).2.1 + (V.rd s).1))).2 ≠ 0 then ([], (plR m (s.drop ((V.rd s).2.1 + (V.rd s).1))).2)
    else ((s.drop (V.rd s).2.1).take (V.rd s).1 :: (plR m (s.drop ((V.rd s).2.1 + (V.rd s).1))).1, 0)
def plG (acc : List (List UInt8)) (q : List (List UInt8) × Nat) : List (List UInt8) × Nat := if q.2 ≠ 0 then ([], q.2) else (acc ++ q.1, 0)
theorem plG_bad {acc : List (List UInt8)} {m n k e : Nat} {s : List UInt8} (h : V.rd s = (n, k, e)) (he : e ≠ 0) : plG acc (plR (m + 1) s) = ([], e) := by
  unfold plR; rw [h]; simp [plG, he]
theorem plG_many {acc : List (List UInt8)} {m n k : Nat} {s : List UInt8} (h : V.rd s = (n, k, 0)) (hn : 16 < n) : plG acc (plR (m + 1) s) = ([], 2) := by
  unfold plR; rw [h]; simp [plG, hn]
theorem plG_short {acc : List (List UInt8)} {m n k : Nat} {s : List UInt8} (h : V.rd s = (n, k, 0)) (hn : ¬ 16 < n) (hs : s.length < k + n) : plG acc (plR (m + 1) s) = ([], 5) := by
  unfold plR; rw [h]; simp [plG, hn, hs]
theorem plG_next {acc : List (List UInt8)} {m n k : Nat} {s : List UInt8} (h : V.rd s = (n, k, 0)) (hn : ¬ 16 < n) (hs : ¬ s.length < k + n) : plG acc (plR (m + 1) s) = plG (acc ++ [(s.drop k).take n]) (plR m (s.drop (k + n))) := by
  rw [plR, h]
  simp only [ne_eq, not_true_eq_false, if_false, if_neg hn, if_neg hs]
  unfold plG
  by_cases hq : (plR m (s.drop (k + n))).2 = 0
  · simp [hq]
  · simp [hq]
theorem str_drop (s : List UInt8) (k : Nat) : (str s).extract k (str s).size = str (s.drop k) := by
  apply ByteArray.ext; apply Array.toList_inj.mp
  rw [show ((str s).extract k (str s).size).data.toList = (str s).data.toList.drop k from cut_data _ k]; rfl
theorem str_cut (s : List UInt8) (k n : Nat) : (str s).extract k (k + n) = str ((s.drop k).take n) := by
  apply ByteArray.ext; apply Array.toList_inj.mp
  simp [str, ByteArray.data_extract, List.take_drop]
theorem plR_plG (many : Nat) (s : List UInt8) : plR many s = plG [] (plR many s) := by
  unfold plG
  by_cases h : (plR many s).2 ≠ 0
  · rw [if_pos h]
    have e : (plR many s).1 = [] := by
      cases many with
      | zero => unfold plR at h ⊢; by_cases hq : s = [] <;> simp [hq] at h ⊢
      | succ m =>
        unfold plR at h ⊢
        by_cases h1 : (V.rd s).2.2 ≠ 0
        · rw [if_pos h1]
        rw [if_neg h1] at h ⊢
        by_cases h2 : 16 < (V.rd s).1
        · rw [if_pos h2]
        rw [if_neg h2] at h ⊢
        by_cases h3 : s.length < (V.rd s).2.1 + (V.rd s).1
        · rw [if_pos h3]
        rw [if_neg h3] at h ⊢
        by_cases h4 : (plR m (s.drop ((V.rd s).2.1 + (V.rd s).1))).2 ≠ 0
        · rw [if_pos h4]
        · rw [if_neg h4] at h; exact absurd rfl h
    exact Prod.ext e rfl
  · rw [if_neg h]; exact Prod.ext (by simp) (Classical.not_not.1 h)
def atR (v : Value) : Nat := match v with | .slice _ k _ => k | _ => 0
set_option maxHeartbeats 2000000 in
set_option maxRecDepth 100000 in
theorem plainOf_any (s : List UInt8) (n : Nat) (w : World) (hs : s.length ≤ maxLen) (hn : n ≤ 64) :
    Calls Tryz.prog 97 #[.string (str s), .int .i64 (n : Int)] w (TextsPost (plR n s) w) := by
  unfold maxLen at hs
  have H0 := Lib.hid (show plR n s = plG [] (plR (n - ([] : List (List UInt8)).length) s) from plR_plG n s)
  obtain ⟨R, hR⟩ : ∃ R, R = plR n s := ⟨_, rfl⟩
  rw [← hR] at H0 ⊢
  clear hR
  go_enter Tryz.func97, Tryz.ntmps97
  go_wp2_with fail
  go_loopw [0, 6, 7, 8, 9] (fun t v _ _ _ wr => ∃ (acc : List (List UInt8)) (r : List UInt8), acc.length ≤ n ∧ t = .string (str r) ∧ r.length ≤ 9223372036854775807 ∧ TRow w.heap.size acc v wr ∧ Below w.heap.size w wr ∧ Hid (R = plG acc (plR (n - acc.length) r))) (fun _ v _ _ _ _ => n - atR v)
  case atStart => exact ⟨[], s, by simp, rfl, by omega, tnilRow _ _, Below.refl _ _, H0⟩
  case round =>
    obtain ⟨acc, r, hj, rfl, hr, hrw, hbw, HJ⟩ := hrel
    obtain ⟨a0, c0, rfl, htx, _, _⟩ := tRow_txts hrw
    obtain ⟨j, hj2⟩ : ∃ j, j = acc.length := ⟨_, rfl⟩
    rw [← hj2] at hj HJ hrw ⊢
    have HJ2 := Lib.hid hj2
    clear hj2
    by_cases hlt : j < n
    · have hjI : (j : Int) < (n : Int) := by omega
      have HJ3 := Lib.hid (show R = plG acc (plR (n - (j + 1) + 1) r) by rw [show n - (j + 1) + 1 = n - j by omega]; exact HJ.out)
      have HRW := Lib.hid hrw
      have hv1 := frvof_any (str r) wr (by rw [str_size]; unfold maxLen; omega)
      rw [str_data] at hv1
      unfold ReadPost at hv1
      have hsr := str_size r
      have hb1 := V.rd_bad r
      obtain ⟨x, k, e, he⟩ : ∃ x k e, V.rd r = (x, k, e) := ⟨_, _, _, rfl⟩
      rw [he] at hv1 hb1
      simp only at hv1
      have HV1 := Lib.hid hv1
      clear hv1 hrw htx HJ
      by_cases h0 : e = 0
      · subst h0
        obtain ⟨hk1, hkl, _, hx, hk9, _⟩ := V.rd_ok _ _ _ he
        by_cases h2 : 16 < x
        · have HRE := Lib.hid (show R = ([], 2) by rw [HJ3.out]; exact plG_many he h2)
          have g3 : decide (16 < x) = true := decide_eq_true h2
          have g3' : decide ((16 : Int) < (x : Int)) = true := decide_eq_true (by omega)
          generalize str r = S at *
          clear HJ3 hsr hb1 he h2
          go_wp2_with fail
          refine (HV1.out).mono ?_
          rintro e2 w1 ⟨rfl, hbl⟩
          go_wp2_with fail
          go_ret2
          rw [HRE.out]
          exact TextsPost.none _ (below_then hbw hbl)
        have g3 : decide (16 < x) = false := decide_eq_false h2
        have g3' : decide ((16 : Int) < (x : Int)) = false := decide_eq_false (by omega)
        have hwx : IntKind.i64.wrap (x : Int) = (x : Int) := by rw [IntKind.wrap_i64]; omega
        have hwk : IntKind.i64.wrap ((k : Int) + (x : Int)) = (k : Int) + (x : Int) := by rw [IntKind.wrap_i64]; omega
        by_cases h5 : r.length < k + x
        · have HRE := Lib.hid (show R = ([], 5) by rw [HJ3.out]; exact plG_short he h2 h5)
          have g6 : decide ((str r).size < k + x) = true := decide_eq_true (by omega)
          have g6' : decide (((str r).size : Int) < (k : Int) + (x : Int)) = true := decide_eq_true (by omega)
          generalize str r = S at *
          clear HJ3 hsr hb1 he h2 h5
          go_wp2_with fail
          refine (HV1.out).mono ?_
          rintro e2 w1 ⟨rfl, hbl⟩
          go_wp2_with fail
          go_ret2
          rw [HRE.out]
          exact TextsPost.none _ (below_then hbw hbl)
        have g6 : decide ((str r).size < k + x) = false := decide_eq_false (by omega)
        have g6' : decide (((str r).size : Int) < (k : Int) + (x : Int)) = false := decide_eq_false (by omega)
        have HRN := Lib.hid (show R = plG (acc ++ [(r.drop k).take x]) (plR (n - (j + 1)) (r.drop (k + x))) by rw [HJ3.out]; exact plG_next he h2 h5)
        have HXT := Lib.hid (show (str r).extract (k + x) (str r).size = str (r.drop (k + x)) from str_drop r _)
        have HXC := Lib.hid (show (str r).extract k (k + x) = str ((r.drop k).take x) from str_cut r k x)
        have hdl : (r.drop (k + x)).length ≤ 9223372036854775807 := by rw [List.length_drop]; omega
        have hkx : k + x ≤ (str r).size := by omega
        have hkxI : (k : Int) + (x : Int) ≤ ((str r).size : Int) := by omega
        have hkxn : ((k : Int) + (x : Int)).toNat = k + x := by omega
        have hkx0 : (0 : Int) ≤ (k : Int) + (x : Int) := by omega
        have hkx1 : (k : Int) ≤ (k : Int) + (x : Int) := by omega
        have hlb : (acc.length + 1) * 16 ≤ 140737488355328 := by have := HJ2.out; omega
        generalize (r.drop k).take x = t at *
        generalize r.drop (k + x) = q at *
        generalize str r = S at *
        clear HJ3 hsr hb1 he h2 h5
        go_wp2_with fail
        refine (HV1.out).mono ?_
        rintro e2 w1 ⟨rfl, hbl⟩
        have hrw2 := (HRW.out).below hbl
        have hbw2 := below_then hbw hbl
        have HROW := Lib.hid hrw2
        clear hrw2
        have hb5 : w.heap.size ≤ (w1.alloc (.cells #[.string (S.extract k (k + x))] 9)).heap.size := by have := hbw2.size; simp; omega
        go_wp2_with (at_builtin; refine wpList_append_onet rfl (.tmp 32) (.tmp 40) rfl w.heap.size _ acc rfl (HROW.out.alloc_ _) w1.heap.size t rfl (by rw [← HXC.out]; exact World.cell?_alloc_new _ _ _ _) hlb hb5 ?_)
        intro v' w5 hown5 hb5w
        have hbw5 : Below w.heap.size w w5 := (hbw2.alloc hbw2.size _).trans hb5w
        have HL2 := Lib.hid (show (acc ++ [t]).length = j + 1 by have h2 := HJ2.out; rw [h2]; simp)
        have HV := Lib.hid (show ∃ a c, v' = .slice a (j + 1) c by obtain ⟨a', c', e', _⟩ := tRow_txts hown5; exact ⟨a', c', by rw [e', HL2.out]⟩)
        go_wp2_with fail
        refine ⟨⟨acc ++ [t], q, by rw [HL2.out]; omega, by rw [HXT.out], hdl, hown5, hbw5, Lib.hid (by rw [HL2.out]; exact HRN.out)⟩, ?_⟩
        obtain ⟨a', c', e'⟩ := HV.out
        rw [e']
        show n - (j + 1) < n - j
        omega
      · have g3 : ((e : Int) != 0) = true := by rw [bne_iff_ne]; omega
        have HRE := Lib.hid (show R = ([], e) by rw [HJ3.out]; exact plG_bad he h0)
        generalize str r = S at *
        clear HJ3 hsr hb1 he
        go_wp2_with fail
        refine (HV1.out).mono ?_
        rintro e2 w1 ⟨rfl, hbl⟩
        go_wp2_with fail
        go_ret2
        rw [HRE.out]
        exact TextsPost.none _ (below_then hbw hbl)
    · obtain rfl : j = n := by omega
      rw [Nat.sub_self] at HJ
      have hsr := str_size r
      by_cases hr0 : r = []
      · subst hr0
        have HRN := Lib.hid (show R = (acc, 0) by rw [HJ.out]; simp [plR, plG])
        have hne : decide (0 < (str []).size) = false := by rw [str_size]; rfl
        have hne2 : decide ((0 : Int) < ((str []).size : Int)) = false := by rw [str_size]; rfl
        clear HJ hrw hsr
        go_wp2_with fail
        go_ret2
        rw [HRN.out]
        exact ⟨a0, c0, by simp only; rw [← HJ2.out]; rfl, htx, hbw⟩
      · have HRN := Lib.hid (show R = ([], 1) by rw [HJ.out]; simp [plR, plG, hr0])
        have hpos := List.length_pos_iff.2 hr0
        have hne : decide (0 < (str r).size) = true := decide_eq_true (by omega)
        have hne2 : decide ((0 : Int) < ((str r).size : Int)) = true := decide_eq_true (by omega)
        generalize str r = S at *
        clear HJ hrw
        go_wp2_with fail
        go_ret2
        rw [HRN.out]
        exact TextsPost.none 1 hbw
end Go.Proofs.YtcachhnhncodoaaGreat
namespace Go.Proofs.YtcachhnhncodoaaGreat
open Go.RowKit
set_option linter.unusedVariables false
set_option maxHeartbeats 400000 in
theorem textBit_any (s : ByteArray) (p : Nat) (w : World) (hp : p / 8 < s.size) (hp2 : p ≤ 1048576) :
    Calls Tryz.prog 92 #[.string s, .int .i64 p] w fun e w' => e = .returned (.int .u64 ((B.leN s.data.toList / 2 ^ p % 2 : Nat) : Int)) ∧ w = w' := by
  have hb := B.leN_bit s.data.toList p (by rw [len_data]; exact hp)
  have hx : s[p / 8].toNat < 256 := s[p / 8].toNat_lt
  have hbe : (s.data.toList[p / 8]'(by rw [len_data]; exact hp)).toNat = s[p / 8].toNat := rfl
  rw [hbe] at hb
  generalize hres : B.leN s.data.toList / 2 ^ p % 2 = res at *
  have HB := Lib.hid hb
  have hr : p % 8 < 8 := by omega
  clear hb hbe hres
  go_enter Tryz.func92, Tryz.ntmps92
  go_wp2_with fail
  go_loop [5, 6] (fun v i => ∃ j : Nat, j ≤ p % 8 ∧ i = .int .i64 j ∧ v = .int .i64 ((s[p / 8].toNat / 2 ^ j : Nat) : Int)) (fun _ i => p % 8 - (intOf i).toNat)
  case atStart => exact ⟨0, by omega, rfl, by simp⟩
  case round =>
    obtain ⟨j, hj, rfl, rfl⟩ := hrel
    have hle : s[p / 8].toNat / 2 ^ j ≤ s[p / 8].toNat := Nat.div_le_self _ _
    by_cases hlt : j < p % 8
    · have HD := Lib.hid (show s[p / 8].toNat / 2 ^ (j + 1) = s[p / 8].toNat / 2 ^ j / 2 by rw [Nat.pow_succ, Nat.div_div_eq_div_mul])
      generalize s[p / 8].toNat / 2 ^ j = y at *
      go_wp2_with fail
      exact ⟨⟨j + 1, by omega, by go_num, by rw [HD.out]; simp⟩, by simp [intOf]; omega⟩
    · obtain rfl : j = p % 8 := by omega
      generalize s[p / 8].toNat / 2 ^ (p % 8) = y at *
      have hw : IntKind.u64.wrap ((y : Int) % 2) = (y : Int) % 2 := by rw [IntKind.wrap_u64]; omega
      go_wp2_with fail
      go_ret
      refine ⟨?_, rfl⟩
      show Ending.returned (Value.int .u64 _) = _
      congr 2
      rw [← HB.out]; simp
theorem bits_step2 (X f n t : Nat) (ht : t < n) : X / 2 ^ (f + n - (t + 1)) % 2 ^ (t + 1) = X / 2 ^ (f + n - t) % 2 ^ t * 2 + X / 2 ^ (f + (n - 1 - t)) % 2 := by
  have e1 : f + n - (t + 1) = f + (n - 1 - t) := by omega
  have e2 : f + n - t = f + (n - 1 - t) + 1 := by omega
  rw [e1, e2, show 2 ^ (f + (n - 1 - t) + 1) = 2 ^ (f + (n - 1 - t)) * 2 from Nat.pow_succ 2 _, ← Nat.div_div_eq_div_mul]
  generalize X / 2 ^ (f + (n - 1 - t)) = Y
  rw [Nat.pow_succ, Nat.mul_comm (2 ^ t), Nat.mod_mul]; omega
theorem bit_one (T M p : Nat) (hp : M ≤ p) (h : T / 2 ^ p % 2 = 1) : T / 2 ^ M ≠ 0 := by
  intro e
  have : T / 2 ^ p = T / 2 ^ M / 2 ^ (p - M) := by rw [Nat.div_div_eq_div_mul, ← Nat.pow_add]; congr 2; omega
  rw [this, e] at h; simp at h
theorem low_step (T M p : Nat) (hp : M ≤ p) (h : T / 2 ^ M % 2 ^ (p - M) = 0) (hb : T / 2 ^ p % 2 = 0) : T / 2 ^ M % 2 ^ (p + 1 - M) = 0 := by
  have e : p + 1 - M = (p - M) + 1 := by omega
  have : T / 2 ^ p = T / 2 ^ M / 2 ^ (p - M) := by rw [Nat.div_div_eq_div_mul, ← Nat.pow_add]; congr 2; omega
  rw [this] at hb
  rw [e, mod_snoc, h, hb]; simp
end Go.Proofs.YtcachhnhncodoaaGreat
namespace Go.Proofs.YtcachhnhncodoaaGreat
open Go.RowKit
set_option linter.unusedVariables false
def AllPostO (r : List Nat × Nat) (w : World) (e : Ending) (w' : World) : Prop :=
  ∃ a c, e = .returned (.tuple #[.slice a r.1.length c, .int .i64 r.2]) ∧ NumRow w.heap.size r.1 (.slice a r.1.length c) w' ∧ Below w.heap.size w w'
set_option maxHeartbeats 400000 in
set_option maxRecDepth 100000 in
theorem unpackOo_range (s : ByteArray) (many wide : Int) (w : World) (h : wide < 0 ∨ 64 < wide ∨ many < 0) :
    Calls Tryz.prog 64 #[.string s, .int .i64 many, .int .i64 wide] w (AllPostO ([], 3) w) := by
  by_cases h0 : wide < 0
  · have g1 : decide (wide < 0) = true := by simp; omega
    go_enter Tryz.func64, Tryz.ntmps64
    go_wp2_with fail
    go_ret2
    exact ⟨none, 0, rfl, nilRow _ _, Below.refl _ _⟩
  · have g1 : decide (wide < 0) = false := by simp; omega
    by_cases h1 : 64 < wide
    · have g2 : decide (64 < wide) = true := by simp; omega
      go_enter Tryz.func64, Tryz.ntmps64
      go_wp2_with fail
      go_ret2
      exact ⟨none, 0, rfl, nilRow _ _, Below.refl _ _⟩
    · have g2 : decide (64 < wide) = false := by simp; omega
      have g3 : decide (many < 0) = true := by simp; omega
      go_enter Tryz.func64, Tryz.ntmps64
      go_wp2_with fail
      go_ret2
      exact ⟨none, 0, rfl, nilRow _ _, Below.refl _ _⟩
set_option maxHeartbeats 400000 in
set_option maxRecDepth 100000 in
theorem unpackOo_many (s : ByteArray) (many : Int) (wide : Nat) (w : World) (h : wide ≤ 64) (hm : 64 < many) :
    Calls Tryz.prog 64 #[.string s, .int .i64 many, .int .i64 wide] w (AllPostO ([], 2) w) := by
  have g1 : decide ((wide : Int) < 0) = false := by simp
  have g2 : decide ((64 : Int) < (wide : Int)) = false := by simp; omega
  have g3 : decide (many < 0) = false := by simp; omega
  go_enter Tryz.func64, Tryz.ntmps64
  go_wp2_with fail
  go_ret2
  exact ⟨none, 0, rfl, nilRow _ _, Below.refl _ _⟩
set_option maxHeartbeats 1000000 in
set_option maxRecDepth 100000 in
theorem unpackOo_form (s : ByteArray) (many wide : Nat) (w : World) (h : wide ≤ 64) (hm : many ≤ 64) (hs : s.size ≤ maxLen) (hz : s.size ≠ B.sz (many * wide)) :
    Calls Tryz.prog 64 #[.string s, .int .i64 many, .int .i64 wide] w (AllPostO ([], 1) w) := by
  unfold maxLen at hs
  have g1 : decide ((wide : Int) < 0) = false := by simp
  have g2 : decide ((64 : Int) < (wide : Int)) = false := by simp; omega
  have g3 : decide ((many : Int) < 0) = false := by simp
  have hmul : many * wide ≤ 64 * 64 := Nat.mul_le_mul hm h
  have hmulI : ((many : Int) * (wide : Int)) = ((many * wide : Nat) : Int) := by simp
  generalize many * wide = M at *
  unfold B.sz at hz
  by_cases hM : M % 8 = 0
  · have g4 : ((s.size : Int) != (M : Int) / 8) = true := by rw [bne_iff_ne]; omega
    have g5 : ((M : Int) % 8 == 0) = true := by rw [beq_iff_eq]; omega
    clear hz
    go_enter Tryz.func64, Tryz.ntmps64
    go_wp2_with fail
    go_ret2
    exact ⟨none, 0, rfl, nilRow _ _, Below.refl _ _⟩
  · have g5 : ((M : Int) % 8 == 0) = false := by rw [beq_eq_false_iff_ne]; omega
    have g6 : ((s.size : Int) != (M : Int) / 8 + 1) = true := by rw [bne_iff_ne]; omega
    have g7 : ((M : Int) % 8 != 0) = true := by rw [bne_iff_ne]; omega
    by_cases hq : s.size = M / 8
    · have g4 : ((s.size : Int) != (M : Int) / 8) = false := by rw [bne_eq_false_iff_eq]; omega
      clear hz hq
      go_enter Tryz.func64, Tryz.ntmps64
      go_wp2_with fail
      go_ret2
      exact ⟨none, 0, rfl, nilRow _ _, Below.refl _ _⟩
    · have g4 : ((s.size : Int) != (M : Int) / 8) = true := by rw [bne_iff_ne]; omega
      clear hz hq
      go_enter Tryz.func64, Tryz.ntmps64
      go_wp2_with fail
      go_ret2
      exact ⟨none, 0, rfl, nilRow _ _, Below.refl _ _⟩
set_option maxHeartbeats 4000000 in
set_option maxRecDepth 100000 in
theorem unpackOo_in (s : ByteArray) (many wide : Nat) (w : World) (h : wide ≤ 64) (hm : many ≤ 64) (hz : s.size = B.sz (many * wide)) :
    Calls Tryz.prog 64 #[.string s, .int .i64 many, .int .i64 wide] w (AllPostO (if B.leN s.data.toList / 2 ^ (many * wide) = 0 then (B.dg wide many (B.leN s.data.toList), 0) else ([], 1)) w) := by
  obtain ⟨i0, hi, hz0, hz1, hz2⟩ := info_parts info_u64
  have g1 : decide ((wide : Int) < 0) = false := by simp
  have g2 : decide ((64 : Int) < (wide : Int)) = false := by simp; omega
  have g3 : decide ((many : Int) < 0) = false := by simp
  have hmul : many * wide ≤ 64 * 64 := Nat.mul_le_mul hm h
  have hmulI : ((many : Int) * (wide : Int)) = ((many * wide : Nat) : Int) := by simp
  have htb := fun p w hp hp2 => textBit_any s p w hp hp2
  have htop := top_bits s.data.toList (many * wide)
  rw [len_data] at htop
  generalize B.leN s.data.toList = T at *
  have HTB := Lib.hid htb
  have hbnd : many * wide ≤ 8 * s.size ∧ 8 * s.size < many * wide + 8 ∧ s.size ≤ 512 := by rw [hz]; unfold B.sz; omega
  have HTOP := Lib.hid (htop hbnd.1)
  have hmw := fun k (hk : k < many) => (show k * wide + wide ≤ many * wide by
    rw [show k * wide + wide = (k + 1) * wide by rw [Nat.add_mul, Nat.one_mul]]; exact Nat.mul_le_mul_right _ (by omega))
  have HMW := Lib.hid hmw
  generalize hM : many * wide = M at *
  have hres : ∃ r : List Nat × Nat, r = (if T / 2 ^ M = 0 then (B.dg wide many T, 0) else ([], 1)) := ⟨_, rfl⟩
  obtain ⟨r, hr⟩ := hres
  rw [← hr]
  have HR := Lib.hid hr
  clear htb htop hr hM hmw
  have hform : (((s.size : Int) != (M : Int) / 8) = false ∧ ((M : Int) % 8 == 0) = true ∧ ((s.size : Int) != (M : Int) / 8 + 1) = true ∧ ((M : Int) % 8 != 0) = false) ∨
      (((s.size : Int) != (M : Int) / 8) = true ∧ ((M : Int) % 8 == 0) = false ∧ ((s.size : Int) != (M : Int) / 8 + 1) = false ∧ ((M : Int) % 8 != 0) = true) := by
    unfold B.sz at hz
    simp only [bne_eq_false_iff_eq, bne_iff_ne, beq_iff_eq, beq_eq_false_iff_ne]
    omega
  clear hz
  rcases hform with ⟨g4, g5, g6, g7⟩ | ⟨g4, g5, g6, g7⟩
  all_goals
    go_enter Tryz.func64, Tryz.ntmps64
    go_wp2_with fail
    go_loop [6, 7, 9] (fun _ _ i => ∃ p : Nat, M ≤ p ∧ p ≤ 8 * s.size ∧ i = .int .i64 p ∧ Hid (T / 2 ^ M % 2 ^ (p - M) = 0)) (fun _ _ i => 8 * s.size - (intOf i).toNat)
    case atStart => exact ⟨M, Nat.le_refl _, hbnd.1, rfl, Lib.hid (by rw [Nat.sub_self]; simp [Nat.mod_one])⟩
    case round =>
      obtain ⟨p, hp1, hp2, rfl, HP⟩ := hrel
      by_cases hlt : p < 8 * s.size
      · have htb := fun w => HTB.out p w (by omega) (by omega)
        by_cases hbit : T / 2 ^ p % 2 = 1
        · have HZ := Lib.hid (HR.out.trans (if_neg (bit_one T M p hp1 hbit)))
          rw [hbit] at htb
          have HTB2 := Lib.hid htb
          clear htb hbit
          go_wp2_with fail
          refine (HTB2.out _).mono ?_
          rintro e w1 ⟨rfl, rfl⟩
          go_wp2_with fail
          go_ret2
          rw [HZ.out]
          exact ⟨none, 0, rfl, nilRow _ _, Below.refl _ _⟩
        · have hbit0 : T / 2 ^ p % 2 = 0 := by omega
          have HN := Lib.hid (low_step T M p hp1 HP.out hbit0)
          rw [hbit0] at htb
          have HTB2 := Lib.hid htb
          clear htb hbit hbit0
          go_wp2_with fail
          refine (HTB2.out _).mono ?_
          rintro e w1 ⟨rfl, rfl⟩
          go_wp2_with fail
          exact ⟨⟨p + 1, by omega, by omega, by go_num, HN⟩, by simp [intOf]; omega⟩
      · obtain rfl : p = 8 * s.size := by omega
        have HZ := Lib.hid (HR.out.trans (if_pos (HTOP.out.symm.trans HP.out)))
        clear HP hp1 hp2 hlt
        go_wp2_with fail
        go_loopw [10, 11, 12, 13] (fun v i _ _ wr => ∃ k : Nat, k ≤ many ∧ i = .int .i64 k ∧ NumRow w.heap.size (B.dg wide k T) v wr ∧ Below w.heap.size w wr) (fun _ i _ _ _ => many - (intOf i).toNat)
        case atStart => exact ⟨0, by omega, rfl, ⟨rfl, Or.inl ⟨rfl, rfl⟩⟩, Below.refl _ _⟩
        case round =>
          obtain ⟨k, hk, rfl, hrow, hbw⟩ := hrel
          by_cases hlt : k < many
          · have hkw := HMW.out k hlt
            have hkI : ((k : Int) * (wide : Int)) = ((k * wide : Nat) : Int) := by simp
            have HSN := Lib.hid (B.dg_snoc wide k T)
            rw [Nat.mul_comm wide k] at HSN
            have hln := B.dg_length wide k T
            generalize k * wide = f at *
            generalize B.dg wide k T = xs at *
            have HROW := Lib.hid hrow
            have HLN := Lib.hid hln
            clear hrow hln
            go_wp2_with fail
            go_loop [12, 13] (fun n j => ∃ t : Nat, t ≤ wide ∧ j = .int .i64 ((wide : Int) - 1 - (t : Int)) ∧ n = .int .u64 ((T / 2 ^ (f + wide - t) % 2 ^ t : Nat) : Int)) (fun _ j => (intOf j + 1).toNat)
            case atStart => exact ⟨0, by omega, by simp, by rw [bits_zero]; rfl⟩
            case round =>
              obtain ⟨t, ht, rfl, rfl⟩ := hrel
              by_cases htw : t < wide
              · have hst := bits_step2 T f wide t htw
                have hvb : T / 2 ^ (f + wide - t) % 2 ^ t * 2 + 1 < 18446744073709551616 := by
                  have h1 : T / 2 ^ (f + wide - t) % 2 ^ t < 2 ^ t := Nat.mod_lt _ (B.pos2 t)
                  have h2 : 2 ^ t ≤ 2 ^ 63 := Nat.pow_le_pow_right (by omega) (by omega)
                  omega
                have hkJ : ((f : Int) + ((wide : Int) - 1 - (t : Int))) = ((f + (wide - 1 - t) : Nat) : Int) := by omega
                have htb := fun w => HTB.out (f + (wide - 1 - t)) w (by omega) (by omega)
                generalize T / 2 ^ (f + wide - t) % 2 ^ t = n at *
                generalize hp : f + (wide - 1 - t) = p at *
                have hpb : p ≤ 8192 := by omega
                have hb2 : T / 2 ^ p % 2 < 2 := by omega
                generalize T / 2 ^ p % 2 = bt at *
                have HST := Lib.hid hst
                have HTB2 := Lib.hid htb
                clear hst htb hp
                go_wp2_with fail
                refine (HTB2.out _).mono ?_
                rintro e w1 ⟨rfl, rfl⟩
                go_wp2_with fail
                refine ⟨⟨t + 1, by omega, by congr 1; omega, ?_⟩, by simp [intOf]; omega⟩
                rw [HST.out]; congr 1
              · obtain rfl : t = wide := by omega
                rw [Nat.add_sub_cancel]
                generalize T / 2 ^ f % 2 ^ t = x at *
                have hxl : (xs.length + 1) * 8 ≤ 140737488355328 := by rw [HLN.out]; omega
                have hb5 : w.heap.size ≤ (wr.alloc (.cells #[.int .u64 (x : Int)] 34)).heap.size := by have := hbw.size; simp; omega
                go_wp2_with (at_builtin; refine wpList_append_one rfl (.tmp 85) (.tmp 87) rfl w.heap.size _ xs.length _ rfl (HROW.out.alloc _) wr.heap.size x rfl (World.cell?_alloc_new _ _ _ _) hxl hb5 ?_)
                intro v' w2 hown2 hgrow2
                go_wp2_with fail
                have hbw2 : Below w.heap.size w w2 := (hbw.alloc hbw.size _).grown hgrow2 (by have := hbw.size; simp; omega) (fun k hk => (HROW.out.lt k hk).1)
                refine ⟨⟨k + 1, by omega, by go_num, ?_, hbw2⟩, by simp [intOf]; omega⟩
                rw [HSN.out]; unfold NumRow; simpa [nv] using hown2
          · obtain rfl : k = many := by omega
            obtain ⟨a, c, rfl, _⟩ := numRow_nums hrow
            generalize B.dg wide k T = xs at *
            go_wp2_with fail
            go_ret2
            rw [HZ.out]
            exact ⟨a, c, rfl, hrow, hbw⟩
theorem unpackOo_any (s : ByteArray) (many wide : Int) (w : World) (hs : s.size ≤ maxLen) :
    Calls Tryz.prog 64 #[.string s, .int .i64 many, .int .i64 wide] w (AllPostO (unpR s.data.toList many wide) w) := by
  unfold unpR chkR
  by_cases h0 : wide < 0 ∨ 64 < wide ∨ many < 0
  · rw [if_pos h0, if_neg (by omega)]; exact unpackOo_range s many wide w h0
  obtain ⟨n, rfl⟩ : ∃ n : Nat, wide = n := ⟨wide.toNat, by omega⟩
  rw [if_neg h0]
  by_cases h1 : 64 < many
  · rw [if_pos h1, if_neg (by omega)]; exact unpackOo_many s many n w (by omega) h1
  obtain ⟨m, rfl⟩ : ∃ m : Nat, many = m := ⟨many.toNat, by omega⟩
  rw [if_neg h1, Int.toNat_natCast, Int.toNat_natCast]
  unfold chkF
  rw [len_data]
  by_cases h2 : s.size = B.sz (m * n)
  · have h := unpackOo_in s m n w (by omega) (by omega) h2
    by_cases h3 : B.leN s.data.toList / 2 ^ (m * n) = 0
    · rw [if_pos h3] at h
      have e : (if s.size ≠ B.sz (m * n) ∨ B.leN s.data.toList / 2 ^ (m * n) ≠ 0 then 1 else 0) = 0 := if_neg (by rintro (x | x); exact x h2; exact x h3)
      rw [e, if_pos rfl]; exact h
    · rw [if_neg h3] at h
      rw [if_pos (Or.inr h3), if_neg (by omega)]; exact h
  · rw [if_pos (Or.inl h2), if_neg (by omega)]
    exact unpackOo_form s m n w (by omega) (by omega) hs h2
end Go.Proofs.YtcachhnhncodoaaGreat
namespace Go.Proofs.YtcachhnhncodoaaGreat
open Go.RowKit
set_option linter.unusedVariables false
def btR (m : Nat) (s : List UInt8) : List (List UInt8) × Nat :=
  if (V.rd s).2.2 ≠ 0 then ([], (V.rd s).2.2)
  else if 64 < (V.rd s).1 then ([], 2)
  else if s.length < (V.rd s).2.1 + B.sz (m * bw (V.rd s).1) then ([], 5)
  else if (unpR ((s.drop (V.rd s).2.1).take (B.sz (m * bw (V.rd s).1))) m (bw (V.rd s).1 : Nat)).2 ≠ 0 then ([], (unpR ((s.drop (V.rd s).2.1).take (B.sz (m * bw (V.rd s).1))) m (bw (V.rd s).1 : Nat)).2)
  else if (freadR (s.drop ((V.rd s).2.1 + B.sz (m * bw (V.rd s).1))) (V.rd s).1).2 ≠ 0 then ([], (freadR (s.drop ((V.rd s).2.1 + B.sz (m * bw (V.rd s).1))) (V.rd s).1).2)
  else textsR (freadR (s.drop ((V.rd s).2.1 + B.sz (m * bw (V.rd s).1))) (V.rd s).1).1 (unpR ((s.drop (V.rd s).2.1).take (B.sz (m * bw (V.rd s).1))) m (bw (V.rd s).1 : Nat)).1
theorem bt_e1 {m n k e : Nat} {s : List UInt8} (h : V.rd s = (n, k, e)) (he : e ≠ 0) : btR m s = ([], e) := by unfold btR; rw [h]; simp [he]
theorem bt_e2 {m n k : Nat} {s : List UInt8} (h : V.rd s = (n, k, 0)) (hn : 64 < n) : btR m s = ([], 2) := by unfold btR; rw [h]; simp [hn]
theorem bt_e3 {m n k q : Nat} {s : List UInt8} (h : V.rd s = (n, k, 0)) (hn : ¬ 64 < n) (hq : B.sz (m * bw n) = q) (hs : s.length < k + q) : btR m s = ([], 5) := by
  subst hq; unfold btR; rw [h]; simp only [ne_eq, not_true_eq_false, if_false, if_neg hn, if_pos hs]
theorem bt_e4 {m n k q e : Nat} {s : List UInt8} {u : List Nat} (h : V.rd s = (n, k, 0)) (hn : ¬ 64 < n) (hq : B.sz (m * bw n) = q) (hs : ¬ s.length < k + q) (hu : unpR ((s.drop k).take q) m (bw n : Nat) = (u, e)) (he : e ≠ 0) : btR m s = ([], e) := by
  subst hq; unfold btR; rw [h]; simp only [ne_eq, not_true_eq_false, if_false, if_neg hn, if_neg hs, hu, if_pos he]
theorem bt_e5 {m n k q e : Nat} {s : List UInt8} {u : List Nat} {b : List (List UInt8)} (h : V.rd s = (n, k, 0)) (hn : ¬ 64 < n) (hq : B.sz (m * bw n) = q) (hs : ¬ s.length < k + q) (hu : unpR ((s.drop k).take q) m (bw n : Nat) = (u, 0)) (hf : freadR (s.drop (k + q)) n = (b, e)) (he : e ≠ 0) : btR m s = ([], e) := by
  subst hq; unfold btR; rw [h]; simp only [ne_eq, not_true_eq_false, if_false, if_neg hn, if_neg hs, hu, hf]; rw [if_pos he]
theorem bt_ok {m n k q : Nat} {s : List UInt8} {u : List Nat} {b : List (List UInt8)} (h : V.rd s = (n, k, 0)) (hn : ¬ 64 < n) (hq : B.sz (m * bw n) = q) (hs : ¬ s.length < k + q) (hu : unpR ((s.drop k).take q) m (bw n : Nat) = (u, 0)) (hf : freadR (s.drop (k + q)) n = (b, 0)) : btR m s = textsR b u := by
  subst hq; unfold btR; rw [h]; simp only [ne_eq, not_true_eq_false, if_false, if_neg hn, if_neg hs, hu, hf]
theorem unpR_facts {s : List UInt8} {m wd : Nat} {u : List Nat} {e : Nat} (h : unpR s m wd = (u, e)) (hw : wd ≤ 64) : (e ≠ 0 → u = []) ∧ (e = 0 → u.length = m ∧ ∀ x ∈ u, x < 18446744073709551616) := by
  unfold unpR at h
  by_cases hc : chkR s m wd = 0
  · rw [if_pos hc] at h
    obtain ⟨rfl, rfl⟩ := (Prod.mk.injEq _ _ _ _).mp h
    refine ⟨fun h => absurd rfl h, fun _ => ⟨B.dg_length _ _ _, fun x hx => ?_⟩⟩
    have h1 := B.dg_lt _ _ _ x hx
    have h2 : 2 ^ wd ≤ 2 ^ 64 := Nat.pow_le_pow_right (by omega) hw
    exact Nat.lt_of_lt_of_le h1 h2
  · rw [if_neg hc] at h
    obtain ⟨rfl, rfl⟩ := (Prod.mk.injEq _ _ _ _).mp h
    exact ⟨fun _ => rfl, fun h => absurd h hc⟩
theorem freadR_facts {s : List UInt8} {n e : Nat} {b : List (List UInt8)} (h : freadR s n = (b, e)) (hn : n ≤ 64) : (e ≠ 0 → b = []) ∧ (e = 0 → b.length = n ∧ ∀ x ∈ b, x.length ≤ 16) := by
  unfold freadR at h
  rw [if_neg (by omega), if_neg (by omega)] at h
  refine ⟨fun he => ?_, fun he => ?_⟩
  · have := F.fr_err (n : Int).toNat [] s (by rw [h]; exact he)
    rw [h] at this; exact this
  · subst he
    have := F.fr_ok _ _ _ _ h
    exact ⟨by rw [this.2.1]; simp, this.2.2⟩
theorem row_nums {B n : Nat} {xs : List Nat} {a : Option Addr} {c : Nat} {w : World} (h : NumRow B xs (.slice a n c) w) : Nums w w.heap.size a xs := by
  obtain ⟨a', c', hv, hn⟩ := numRow_nums h
  obtain ⟨h1, h2, h3⟩ := (Value.slice.injEq _ _ _ _ _ _).mp hv
  subst h1; exact hn
set_option maxHeartbeats 4000000 in
set_option maxRecDepth 100000 in
theorem bookTexts_any (s : List UInt8) (m : Nat) (w : World) (hs : s.length ≤ maxLen) (hm : m ≤ 64) :
    Calls Tryz.prog 98 #[.string (str s), .int .i64 (m : Int)] w (TextsPost (btR m s) w) := by
  have hv1 := frvof_any (str s) w (by rw [str_size]; exact hs)
  rw [str_data] at hv1
  unfold ReadPost at hv1
  have hb1 := V.rd_bad s
  have hsz := str_size s
  have hmx := hs
  unfold maxLen at hmx
  obtain ⟨x, k, e, he⟩ : ∃ x k e, V.rd s = (x, k, e) := ⟨_, _, _, rfl⟩
  rw [he] at hv1 hb1
  simp only at hv1
  have HV1 := Lib.hid hv1
  clear hv1
  by_cases h0 : e = 0
  · subst h0
    obtain ⟨hk1, hkl, _, hx, hk9, _⟩ := V.rd_ok _ _ _ he
    by_cases h2 : 64 < x
    · have HRE := Lib.hid (bt_e2 (m := m) he h2)
      have g3 : decide (64 < x) = true := decide_eq_true h2
      have g3' : decide ((64 : Int) < (x : Int)) = true := decide_eq_true (by omega)
      generalize str s = S at *
      clear hb1 he h2 hs hsz
      go_enter Tryz.func98, Tryz.ntmps98
      go_wp2_with fail
      refine (HV1.out).mono ?_
      rintro e2 w1 ⟨rfl, hbl⟩
      go_wp2_with fail
      go_ret2
      rw [HRE.out]
      exact TextsPost.none _ hbl
    have g3 : decide (64 < x) = false := decide_eq_false h2
    have g3' : decide ((64 : Int) < (x : Int)) = false := decide_eq_false (by omega)
    have hwx : IntKind.i64.wrap (x : Int) = (x : Int) := by rw [IntKind.wrap_i64]; omega
    have HBW := Lib.hid (fun W => bookWidth_any x W (by omega))
    have hwl := bw_le x (by omega)
    obtain ⟨q, hq⟩ : ∃ q, B.sz (m * bw x) = q := ⟨_, rfl⟩
    have HE3 := Lib.hid (bt_e3 (m := m) he h2 hq)
    have HE4 := Lib.hid (fun e u => bt_e4 (m := m) (e := e) (u := u) he h2 hq)
    have HE5 := Lib.hid (fun e u b => bt_e5 (m := m) (e := e) (u := u) (b := b) he h2 hq)
    have HOK := Lib.hid (fun u b => bt_ok (m := m) (u := u) (b := b) he h2 hq)
    obtain ⟨u, eu, hu⟩ : ∃ u eu, unpR ((s.drop k).take q) m (bw x : Nat) = (u, eu) := ⟨_, _, rfl⟩
    obtain ⟨b, eb, hb⟩ : ∃ b eb, freadR (s.drop (k + q)) x = (b, eb) := ⟨_, _, rfl⟩
    have hue := unpR_facts hu hwl
    have hbe := freadR_facts hb (by omega)
    have HUP := Lib.hid (fun W => unpackOo_any (str ((s.drop k).take q)) m (bw x : Nat) W (by rw [str_size, List.length_take, List.length_drop]; unfold maxLen; omega))
    rw [str_data, hu] at HUP
    have HFR := Lib.hid (fun W => fof_any (s.drop (k + q)) x W (by rw [List.length_drop]; unfold maxLen; omega))
    rw [hb] at HFR
    have HXT := Lib.hid (show (str s).extract (k + q) (str s).size = str (s.drop (k + q)) from str_drop s _)
    have HXC := Lib.hid (show (str s).extract k (k + q) = str ((s.drop k).take q) from str_cut s k q)
    rw [← HXC.out] at HUP
    rw [← HXT.out] at HFR
    unfold AllPostO at HUP
    unfold TextsPost at HFR
    have hP : m * bw x ≤ 64 * 64 := Nat.mul_le_mul hm hwl
    have hPI : ((m : Int) * ((bw x : Nat) : Int)) = ((m * bw x : Nat) : Int) := by simp
    unfold B.sz at hq
    rw [hu] at HE4 HE5 HOK
    rw [hb] at HE5 HOK
    clear hu hb HXT HXC
    generalize bw x = wd at *
    generalize m * wd = P at *
    have hwP : IntKind.i64.wrap (P : Int) = (P : Int) := by rw [IntKind.wrap_i64]; omega
    obtain ⟨q0, hq0⟩ : ∃ q0, q0 = P / 8 := ⟨_, rfl⟩
    have hq8 : (P : Int) / 8 = (q0 : Int) := by omega
    have hwq : IntKind.i64.wrap (q0 : Int) = (q0 : Int) := by rw [IntKind.wrap_i64]; omega
    have hwq1 : IntKind.i64.wrap ((q0 : Int) + 1) = ((q0 + 1 : Nat) : Int) := by rw [IntKind.wrap_i64]; omega
    have hwkq : IntKind.i64.wrap ((k : Int) + (q : Int)) = (k : Int) + (q : Int) := by rw [IntKind.wrap_i64]; omega
    have hkqn : ((k : Int) + (q : Int)).toNat = k + q := by omega
    have hkq0 : (0 : Int) ≤ (k : Int) + (q : Int) := by omega
    have hkq1 : (k : Int) ≤ (k : Int) + (q : Int) := by omega
    by_cases h5 : s.length < k + q
    · have HRE := Lib.hid (HE3.out h5)
      have g6 : decide (((str s).size : Int) < (k : Int) + (q : Int)) = true := decide_eq_true (by omega)
      have g6' : decide ((str s).size < k + q) = true := decide_eq_true (by omega)
      generalize str s = S at *
      clear HE3 HE4 HE5 HOK HUP HFR hue hbe hsz hs he hb1
      rcases (show (P % 8 = 0 ∧ q = q0) ∨ (¬ P % 8 = 0 ∧ q = q0 + 1) by omega) with ⟨h8, rfl⟩ | ⟨h8, rfl⟩
      · have g8 : decide ((0 : Int) < (P : Int) % 8) = false := decide_eq_false (by omega)
        clear hq hq0 h8
        go_enter Tryz.func98, Tryz.ntmps98
        go_wp2_with fail
        refine (HV1.out).mono ?_
        rintro e2 w1 ⟨rfl, hbl⟩
        go_wp2_with fail
        refine (HBW.out _).mono ?_
        rintro e3 w2 ⟨rfl, rfl⟩
        go_wp2_with fail
        go_ret2
        rw [HRE.out]
        exact TextsPost.none _ hbl
      · have g8 : decide ((0 : Int) < (P : Int) % 8) = true := decide_eq_true (by omega)
        clear hq hq0 h8
        generalize q0 + 1 = q at *
        go_enter Tryz.func98, Tryz.ntmps98
        go_wp2_with fail
        refine (HV1.out).mono ?_
        rintro e2 w1 ⟨rfl, hbl⟩
        go_wp2_with fail
        refine (HBW.out _).mono ?_
        rintro e3 w2 ⟨rfl, rfl⟩
        go_wp2_with fail
        go_ret2
        rw [HRE.out]
        exact TextsPost.none _ hbl
    have g6 : decide (((str s).size : Int) < (k : Int) + (q : Int)) = false := decide_eq_false (by omega)
    have g6' : decide ((str s).size < k + q) = false := decide_eq_false (by omega)
    have hkx : k + q ≤ (str s).size := by omega
    have hkxI : (k : Int) + (q : Int) ≤ ((str s).size : Int) := by omega
    by_cases hu0 : eu = 0
    · subst hu0
      have hbb : b.length ≤ 64 := by
        by_cases h : eb = 0
        · rw [(hbe.2 h).1]; omega
        · rw [hbe.1 h]; simp
      have HTX := Lib.hid (fun a c a2 c2 W => rtexts_any a c b a2 c2 u W (by unfold maxLen; omega) (by rw [(hue.2 rfl).1]; unfold maxLen; omega) (hue.2 rfl).2)
      unfold TextsPost at HTX
      by_cases hb0 : eb = 0
      · subst hb0
        have HRE := Lib.hid (HOK.out u b h5 rfl rfl)
        generalize str s = S at *
        clear HE3 HE4 HE5 HOK hue hbe hsz hs he hb1 h5
        rcases (show (P % 8 = 0 ∧ q = q0) ∨ (¬ P % 8 = 0 ∧ q = q0 + 1) by omega) with ⟨h8, rfl⟩ | ⟨h8, rfl⟩
        · have g8 : decide ((0 : Int) < (P : Int) % 8) = false := decide_eq_false (by omega)
          clear hq hq0 h8
          go_enter Tryz.func98, Tryz.ntmps98
          go_wp2_with fail
          refine (HV1.out).mono ?_
          rintro e2 w1 ⟨rfl, hbl⟩
          go_wp2_with fail
          refine (HBW.out _).mono ?_
          rintro e3 w2 ⟨rfl, rfl⟩
          go_wp2_with fail
          refine (HUP.out _).mono ?_
          rintro e4 w4 ⟨au, cu, rfl, hnr, hb4⟩
          have hnu := row_nums hnr
          have r4 := below_then hbl hb4
          go_wp2_with fail
          refine (HFR.out _).mono ?_
          rintro e5 w5 ⟨ab, cb, rfl, htx, hb5⟩
          have r5 := below_then r4 hb5
          go_wp2_with fail
          refine (HTX.out _ _ _ _ _ htx (hnu.next hb5)).mono ?_
          rintro e6 w6 ⟨at', ct, rfl, htt, hb6⟩
          go_wp2_with fail
          go_ret2
          rw [HRE.out]
          exact ⟨at', ct, rfl, htt, below_then r5 hb6⟩
        · have g8 : decide ((0 : Int) < (P : Int) % 8) = true := decide_eq_true (by omega)
          clear hq hq0 h8
          generalize q0 + 1 = q at *
          go_enter Tryz.func98, Tryz.ntmps98
          go_wp2_with fail
          refine (HV1.out).mono ?_
          rintro e2 w1 ⟨rfl, hbl⟩
          go_wp2_with fail
          refine (HBW.out _).mono ?_
          rintro e3 w2 ⟨rfl, rfl⟩
          go_wp2_with fail
          refine (HUP.out _).mono ?_
          rintro e4 w4 ⟨au, cu, rfl, hnr, hb4⟩
          have hnu := row_nums hnr
          have r4 := below_then hbl hb4
          go_wp2_with fail
          refine (HFR.out _).mono ?_
          rintro e5 w5 ⟨ab, cb, rfl, htx, hb5⟩
          have r5 := below_then r4 hb5
          go_wp2_with fail
          refine (HTX.out _ _ _ _ _ htx (hnu.next hb5)).mono ?_
          rintro e6 w6 ⟨at', ct, rfl, htt, hb6⟩
          go_wp2_with fail
          go_ret2
          rw [HRE.out]
          exact ⟨at', ct, rfl, htt, below_then r5 hb6⟩
      · have HRE := Lib.hid (HE5.out eb u b h5 rfl rfl hb0)
        have gb : ((eb : Int) != 0) = true := by rw [bne_iff_ne]; omega
        generalize str s = S at *
        clear HE3 HE4 HE5 HOK hue hbe hsz hs he hb1 h5 HTX
        rcases (show (P % 8 = 0 ∧ q = q0) ∨ (¬ P % 8 = 0 ∧ q = q0 + 1) by omega) with ⟨h8, rfl⟩ | ⟨h8, rfl⟩
        · have g8 : decide ((0 : Int) < (P : Int) % 8) = false := decide_eq_false (by omega)
          clear hq hq0 h8
          go_enter Tryz.func98, Tryz.ntmps98
          go_wp2_with fail
          refine (HV1.out).mono ?_
          rintro e2 w1 ⟨rfl, hbl⟩
          go_wp2_with fail
          refine (HBW.out _).mono ?_
          rintro e3 w2 ⟨rfl, rfl⟩
          go_wp2_with fail
          refine (HUP.out _).mono ?_
          rintro e4 w4 ⟨au, cu, rfl, hnr, hb4⟩
          have hnu := row_nums hnr
          have r4 := below_then hbl hb4
          go_wp2_with fail
          refine (HFR.out _).mono ?_
          rintro e5 w5 ⟨ab, cb, rfl, htx, hb5⟩
          have r5 := below_then r4 hb5
          go_wp2_with fail
          go_ret2
          rw [HRE.out]
          exact TextsPost.none _ r5
        · have g8 : decide ((0 : Int) < (P : Int) % 8) = true := decide_eq_true (by omega)
          clear hq hq0 h8
          generalize q0 + 1 = q at *
          go_enter Tryz.func98, Tryz.ntmps98
          go_wp2_with fail
          refine (HV1.out).mono ?_
          rintro e2 w1 ⟨rfl, hbl⟩
          go_wp2_with fail
          refine (HBW.out _).mono ?_
          rintro e3 w2 ⟨rfl, rfl⟩
          go_wp2_with fail
          refine (HUP.out _).mono ?_
          rintro e4 w4 ⟨au, cu, rfl, hnr, hb4⟩
          have hnu := row_nums hnr
          have r4 := below_then hbl hb4
          go_wp2_with fail
          refine (HFR.out _).mono ?_
          rintro e5 w5 ⟨ab, cb, rfl, htx, hb5⟩
          have r5 := below_then r4 hb5
          go_wp2_with fail
          go_ret2
          rw [HRE.out]
          exact TextsPost.none _ r5
    · have HRE := Lib.hid (HE4.out eu u h5 rfl hu0)
      have gu : ((eu : Int) != 0) = true := by rw [bne_iff_ne]; omega
      generalize str s = S at *
      clear HE3 HE4 HE5 HOK hue hbe hsz hs he hb1 h5 HFR
      rcases (show (P % 8 = 0 ∧ q = q0) ∨ (¬ P % 8 = 0 ∧ q = q0 + 1) by omega) with ⟨h8, rfl⟩ | ⟨h8, rfl⟩
      · have g8 : decide ((0 : Int) < (P : Int) % 8) = false := decide_eq_false (by omega)
        clear hq hq0 h8
        go_enter Tryz.func98, Tryz.ntmps98
        go_wp2_with fail
        refine (HV1.out).mono ?_
        rintro e2 w1 ⟨rfl, hbl⟩
        go_wp2_with fail
        refine (HBW.out _).mono ?_
        rintro e3 w2 ⟨rfl, rfl⟩
        go_wp2_with fail
        refine (HUP.out _).mono ?_
        rintro e4 w4 ⟨au, cu, rfl, hnr, hb4⟩
        have hnu := row_nums hnr
        have r4 := below_then hbl hb4
        go_wp2_with fail
        go_ret2
        rw [HRE.out]
        exact TextsPost.none _ r4
      · have g8 : decide ((0 : Int) < (P : Int) % 8) = true := decide_eq_true (by omega)
        clear hq hq0 h8
        generalize q0 + 1 = q at *
        go_enter Tryz.func98, Tryz.ntmps98
        go_wp2_with fail
        refine (HV1.out).mono ?_
        rintro e2 w1 ⟨rfl, hbl⟩
        go_wp2_with fail
        refine (HBW.out _).mono ?_
        rintro e3 w2 ⟨rfl, rfl⟩
        go_wp2_with fail
        refine (HUP.out _).mono ?_
        rintro e4 w4 ⟨au, cu, rfl, hnr, hb4⟩
        have hnu := row_nums hnr
        have r4 := below_then hbl hb4
        go_wp2_with fail
        go_ret2
        rw [HRE.out]
        exact TextsPost.none _ r4
  · have HRE := Lib.hid (bt_e1 (m := m) he h0)
    have g3 : ((e : Int) != 0) = true := by rw [bne_iff_ne]; omega
    generalize str s = S at *
    clear hsz hb1 he
    go_enter Tryz.func98, Tryz.ntmps98
    go_wp2_with fail
    refine (HV1.out).mono ?_
    rintro e2 w1 ⟨rfl, hbl⟩
    go_wp2_with fail
    go_ret2
    rw [HRE.out]
    exact TextsPost.none _ hbl
end Go.Proofs.YtcachhnhncodoaaGreat
namespace Go.Proofs.YtcachhnhncodoaaGreat
open Go.RowKit
set_option linter.unusedVariables false
def tlR (s : List UInt8) (many : Int) : List (List UInt8) × Nat :=
  if many < 0 then ([], 3) else if 64 < many then ([], 2)
  else match s with
    | [] => ([], 5)
    | c :: t => if c.toNat = 5 then plR many.toNat t else if c.toNat = 6 then btR many.toNat t else if c.toNat = 7 then freadR t many else ([], 7)
theorem str_tail (c : UInt8) (t : List UInt8) : (str (c :: t)).extract 1 (str (c :: t)).size = str t := str_drop (c :: t) 1
set_option maxHeartbeats 2000000 in
set_option maxRecDepth 100000 in
theorem tlof_any (s : List UInt8) (many : Int) (w : World) (hs : s.length ≤ maxLen) :
    Calls Tryz.prog 66 #[.string (str s), .int .i64 many] w (TextsPost (tlR s many) w) := by
  unfold maxLen at hs
  by_cases h0 : many < 0
  · have HR := Lib.hid (show tlR s many = ([], 3) from if_pos h0)
    have g1 : decide (many < 0) = true := decide_eq_true h0
    go_enter Tryz.func66, Tryz.ntmps66
    go_wp2_with fail
    go_ret2
    rw [HR.out]; exact TextsPost.none 3 (Below.refl _ _)
  have g1 : decide (many < 0) = false := decide_eq_false h0
  by_cases h1 : 64 < many
  · have HR := Lib.hid (show tlR s many = ([], 2) by unfold tlR; rw [if_neg h0, if_pos h1])
    have g2 : decide (64 < many) = true := decide_eq_true h1
    go_enter Tryz.func66, Tryz.ntmps66
    go_wp2_with fail
    go_ret2
    rw [HR.out]; exact TextsPost.none 2 (Below.refl _ _)
  have g2 : decide (64 < many) = false := decide_eq_false h1
  obtain ⟨m, rfl⟩ : ∃ m : Nat, many = m := ⟨many.toNat, by omega⟩
  cases s with
  | nil =>
    have HR := Lib.hid (show tlR [] m = ([], 5) by unfold tlR; rw [if_neg h0, if_neg h1])
    have g3 : (((str []).size : Int) == 0) = true := by rw [str_size]; rfl
    generalize str [] = S at *
    go_enter Tryz.func66, Tryz.ntmps66
    go_wp2_with fail
    go_ret2
    rw [HR.out]; exact TextsPost.none 5 (Below.refl _ _)
  | cons c t =>
    have hE : tlR (c :: t) m = if c.toNat = 5 then plR m t else if c.toNat = 6 then btR m t else if c.toNat = 7 then freadR t m else ([], 7) := by
      unfold tlR; rw [if_neg h0, if_neg h1, Int.toNat_natCast]
    have hsz := str_size (c :: t)
    rw [List.length_cons] at hsz hs
    have hz : 0 < (str (c :: t)).size := by omega
    have hz1 : 1 ≤ (str (c :: t)).size := by omega
    have hz1I : (1 : Int) ≤ ((str (c :: t)).size : Int) := by omega
    have g3 : (((str (c :: t)).size : Int) == 0) = false := by rw [beq_eq_false_iff_ne]; omega
    have hc : (str (c :: t))[0].toNat = c.toNat := rfl
    have HX := Lib.hid (str_tail c t)
    have HPL := Lib.hid (fun W => plainOf_any t m W (by unfold maxLen; omega) (by omega))
    have HBT := Lib.hid (fun W => bookTexts_any t m W (by unfold maxLen; omega) (by omega))
    have HFR := Lib.hid (fun W => fof_any t m W (by unfold maxLen; omega))
    rw [← HX.out] at HPL HBT HFR
    unfold TextsPost at HPL HBT HFR
    by_cases h5 : c.toNat = 5
    · have HR := Lib.hid (show tlR (c :: t) m = plR m t by rw [hE, if_pos h5])
      have g5 : ((c.toNat : Int) == 5) = true := by rw [beq_iff_eq]; omega
      generalize str (c :: t) = S at *
      generalize c.toNat = n at *
      clear hE HBT HFR HX hsz
      go_enter Tryz.func66, Tryz.ntmps66
      go_wp2_with fail
      refine (HPL.out _).mono ?_
      rintro e w1 ⟨a, c, rfl, ht, hb⟩
      go_wp2_with fail
      go_ret2
      rw [HR.out]; exact ⟨a, c, rfl, ht, hb⟩
    have g5 : ((c.toNat : Int) == 5) = false := by rw [beq_eq_false_iff_ne]; omega
    by_cases h6 : c.toNat = 6
    · have HR := Lib.hid (show tlR (c :: t) m = btR m t by rw [hE, if_neg h5, if_pos h6])
      have g6 : ((c.toNat : Int) == 6) = true := by rw [beq_iff_eq]; omega
      generalize str (c :: t) = S at *
      generalize c.toNat = n at *
      clear hE HPL HFR HX hsz
      go_enter Tryz.func66, Tryz.ntmps66
      go_wp2_with fail
      refine (HBT.out _).mono ?_
      rintro e w1 ⟨a, c, rfl, ht, hb⟩
      go_wp2_with fail
      go_ret2
      rw [HR.out]; exact ⟨a, c, rfl, ht, hb⟩
    have g6 : ((c.toNat : Int) == 6) = false := by rw [beq_eq_false_iff_ne]; omega
    by_cases h7 : c.toNat = 7
    · have HR := Lib.hid (show tlR (c :: t) m = freadR t m by rw [hE, if_neg h5, if_neg h6, if_pos h7])
      have g7 : ((c.toNat : Int) == 7) = true := by rw [beq_iff_eq]; omega
      generalize str (c :: t) = S at *
      generalize c.toNat = n at *
      clear hE HPL HBT HX hsz
      go_enter Tryz.func66, Tryz.ntmps66
      go_wp2_with fail
      refine (HFR.out _).mono ?_
      rintro e w1 ⟨a, c, rfl, ht, hb⟩
      go_wp2_with fail
      go_ret2
      rw [HR.out]; exact ⟨a, c, rfl, ht, hb⟩
    have g7 : ((c.toNat : Int) == 7) = false := by rw [beq_eq_false_iff_ne]; omega
    have HR := Lib.hid (show tlR (c :: t) m = ([], 7) by rw [hE, if_neg h5, if_neg h6, if_neg h7])
    generalize str (c :: t) = S at *
    generalize c.toNat = n at *
    clear hE HPL HBT HFR HX hsz
    go_enter Tryz.func66, Tryz.ntmps66
    go_wp2_with fail
    go_ret2
    rw [HR.out]; exact TextsPost.none 7 (Below.refl _ _)
end Go.Proofs.YtcachhnhncodoaaGreat
namespace Go.Proofs.YtcachhnhncodoaaGreat
open Go.RowKit
set_option linter.unusedVariables false
set_option maxHeartbeats 1000000 in
theorem bitsAt_any (s : ByteArray) (f n : Nat) (w : World) (hn : n ≤ 64) (hf : f + n ≤ 8 * s.size) (hb : f + n ≤ 1048576) :
    Calls Tryz.prog 125 #[.string s, .int .i64 f, .int .i64 n] w fun e w' => e = .returned (.int .u64 ((B.leN s.data.toList / 2 ^ f % 2 ^ n : Nat) : Int)) ∧ w = w' := by
  have HTB := Lib.hid (fun p h1 h2 => textBit_any s p w h1 h2)
  generalize B.leN s.data.toList = X at *
  go_enter Tryz.func125, Tryz.ntmps125
  go_wp2_with fail
  go_loop [7, 8] (fun v k => ∃ t : Nat, t ≤ n ∧ k = .int .i64 ((n : Int) - 1 - (t : Int)) ∧ v = .int .u64 ((X / 2 ^ (f + n - t) % 2 ^ t : Nat) : Int)) (fun _ k => (intOf k + 1).toNat)
  case atStart => exact ⟨0, by omega, by simp, by simp [Nat.mod_one]⟩
  case round =>
    obtain ⟨t, ht, rfl, rfl⟩ := hrel
    by_cases hlt : t < n
    · have hst := bits_step2 X f n t hlt
      have hv : X / 2 ^ (f + n - t) % 2 ^ t < 2 ^ 63 := Nat.lt_of_lt_of_le (Nat.mod_lt _ (B.pos2 t)) (Nat.pow_le_pow_right (by omega) (by omega))
      have htb := HTB.out (f + (n - 1 - t)) (by omega) (by omega)
      have hb2 : X / 2 ^ (f + (n - 1 - t)) % 2 < 2 := by omega
      generalize X / 2 ^ (f + n - t) % 2 ^ t = v at *
      generalize X / 2 ^ (f + (n - 1 - t)) % 2 = bt at *
      have hki : ((f : Int) + ((n : Int) - 1 - (t : Int))) = ((f + (n - 1 - t) : Nat) : Int) := by omega
      have hwi : IntKind.i64.wrap ((f : Int) + ((n : Int) - 1 - (t : Int))) = ((f + (n - 1 - t) : Nat) : Int) := by rw [hki, IntKind.wrap_i64]; omega
      generalize f + (n - 1 - t) = p at *
      have g1 : decide ((0 : Int) ≤ (n : Int) - 1 - (t : Int)) = true := by simp; omega
      have hw1 : IntKind.u64.wrap ((v : Int) * 2) = (v : Int) * 2 := by rw [IntKind.wrap_u64]; omega
      have hw2 : IntKind.u64.wrap ((v : Int) * 2 + (bt : Int)) = (v : Int) * 2 + (bt : Int) := by rw [IntKind.wrap_u64]; omega
      have HST := Lib.hid hst
      have HT := Lib.hid htb
      clear hst htb
      go_wp2_with fail
      refine (HT.out).mono ?_
      rintro e w1 ⟨rfl, rfl⟩
      go_wp2_with fail
      refine ⟨⟨t + 1, by omega, by congr 1; omega, ?_⟩, by simp [intOf]; omega⟩
      rw [HST.out]; congr 1
    · obtain rfl : t = n := by omega
      have g1 : decide ((0 : Int) ≤ (t : Int) - 1 - (t : Int)) = false := by simp; omega
      rw [Nat.add_sub_cancel]
      go_wp2_with fail
      go_ret
      exact ⟨rfl, rfl⟩
end Go.Proofs.YtcachhnhncodoaaGreat
namespace Go.Proofs.YtcachhnhncodoaaGreat
open Go.RowKit
set_option linter.unusedVariables false
theorem vof_all (s : ByteArray) (w : World) (hs : s.size ≤ maxLen) : Calls Tryz.prog 63 #[.string s] w (ReadPost (V.rd s.data.toList) w) := by
  by_cases h : s.size = 0
  · rw [data_empty s h]; exact vof_empty s w h
  · exact vof_any s w hs (by omega)
theorem bit_take (l : List UInt8) (Z p : Nat) (hz : Z ≤ l.length) (hp : p < 8 * Z) : B.leN l / 2 ^ p % 2 = B.leN (l.take Z) / 2 ^ p % 2 := by
  have h1 := B.leN_bit l p (by omega)
  have h2 := B.leN_bit (l.take Z) p (by rw [List.length_take]; omega)
  rw [← h1, ← h2]
  simp [List.getElem_take]
theorem leN_append (a b : List UInt8) : B.leN (a ++ b) = B.leN a + 256 ^ a.length * B.leN b := by
  induction a with
  | nil => simp [B.leN]
  | cons x a ih => simp only [List.cons_append, B.leN, ih, List.length_cons, Nat.pow_succ]; rw [Nat.mul_add, Nat.add_assoc]; congr 2; rw [← Nat.mul_assoc, Nat.mul_comm 256]
theorem bits_take (l : List UInt8) (Z f n : Nat) (hz : Z ≤ l.length) (hp : f + n ≤ 8 * Z) : B.leN l / 2 ^ f % 2 ^ n = B.leN (l.take Z) / 2 ^ f % 2 ^ n := by
  have e : B.leN l = B.leN (l.take Z) + 2 ^ (8 * Z) * B.leN (l.drop Z) := by
    have := leN_append (l.take Z) (l.drop Z)
    rw [List.take_append_drop, List.length_take, Nat.min_eq_left hz, B.two8] at this
    exact this
  rw [e, show 8 * Z = f + (n + (8 * Z - f - n)) by omega, Nat.pow_add, Nat.mul_assoc, Nat.add_mul_div_left _ _ (B.pos2 f), Nat.pow_add, Nat.mul_assoc, Nat.add_mul_mod_self_left]
theorem top_take (l : List UInt8) (Z M : Nat) (hl : l.length = Z) (hM : M ≤ 8 * Z) (h : B.leN l / 2 ^ M % 2 ^ (8 * Z - M) = 0) : B.leN l / 2 ^ M = 0 := by
  subst hl
  rw [top_bits l M hM] at h; exact h
theorem wd_ne (l : List Nat) (i : Nat) (hi : i < l.length) (h : l.getD i 0 ≠ 0) : B.wd l ≠ 0 := by
  intro e
  have := (B.wd_le l 0).1 (by omega) _ (getD_mem l i hi)
  omega
theorem wd_eq (l : List Nat) (h : ∀ i, i < l.length → l.getD i 0 = 0) : B.wd l = 0 := by
  have := (B.wd_le l 0).2 (fun x hx => by
    obtain ⟨i, hi, rfl⟩ := List.getElem_of_mem hx
    have := h i hi
    simp only [List.getD, List.getElem?_eq_getElem hi, Option.getD_some] at this
    rw [this]; simp)
  omega
theorem pre_bad (xs : List Nat) (e : Nat) (he : e ≠ 0) : H.pre xs ([], e) = ([], e) := by unfold H.pre; simp [he]
theorem read_er (R : List Nat × Nat) (xs : List Nat) (D : List UInt8) (left wide e : Nat) (hl : 1 ≤ left) (hR : R = H.pre xs (H.read D left wide)) (h : (H.first D left wide).1 = e) (he : e ≠ 0) : R = ([], e) := by
  rw [hR, H.read_bad D left wide hl (by omega), h, pre_bad xs e he]
theorem read_go (R : List Nat × Nat) (xs : List Nat) (D : List UInt8) (left wide en : Nat) (p : H.Part) (hl : 1 ≤ left) (hR : R = H.pre xs (H.read D left wide)) (h : H.first D left wide = (0, p, en)) :
    R = H.pre (xs ++ p.nums) (H.read (D.drop en) (left - p.nums.length) wide) := by
  rw [hR, H.read_step D left wide hl (by rw [h]), h, H.pre_pre]
end Go.Proofs.YtcachhnhncodoaaGreat
