/- The walks of page.best, page.told, page.count. -/
import Derived.Test.YtcachhnhncodoaaGreatPgW4
import Derived.Test.YtcachhnhncodoaaGreatPgPlain2
import Derived.Test.YtcachhnhncodoaaGreatP10
namespace Go.Proofs.YtcachhnhncodoaaGreat
open Go.RowKit
set_option linter.unusedVariables false

/-- cells that are there, by the best way of their kind -/
def bestC (k : Int) (l : List C.Cl) : List UInt8 := if k = 1 then bestNW (l.map (·.num)) else bestTW (l.map (·.txt))

set_option maxHeartbeats 1000000 in
set_option maxRecDepth 100000 in
theorem pbest_any (k : Int) (hk : k = 1 ∨ k = 2) (a : Option Addr) (c : Nat) (l : List C.Cl) (w : World) (hl : l.length ≤ 64) (hx : ∀ x ∈ l, cOk x) (hf : fitR (l.map (·.txt)) = 0) (hu : Cls w w.heap.size a l) :
    Calls Tryz.prog 21 #[.int .i64 k, .slice a l.length c] w (PackPost (bestC k l, 0) w) := by
  rcases hk with rfl | rfl
  · have HE := Lib.hid (eachN_any a c l w hl hu)
    have HB := Lib.hid (fun W g (h : Nums W W.heap.size (some ⟨g, 0, none⟩) (l.map (·.num))) => show Calls Tryz.prog 44 #[.slice (some ⟨g, 0, none⟩) l.length l.length] W (PackPost (bestC 1 l, 0) W) from by
      have h2 := kbestNumbers_any (some ⟨g, 0, none⟩) l.length (l.map (·.num)) W (by rw [List.length_map]; exact Nat.le_refl _) (by unfold maxLen; omega) (fun x hxm => by
        simp only [List.mem_map] at hxm
        obtain ⟨y, hy, rfl⟩ := hxm
        exact (hx y hy).2.2.1) h
      rw [List.length_map, show bestNR (l.map (·.num)) = (bestC 1 l, 0) by unfold bestNR; rw [if_neg (by rw [List.length_map]; omega)]; rfl] at h2
      exact h2)
    unfold PackPost at HB ⊢
    generalize bestC 1 l = t at *
    clear hx hf hu hl
    go_enter Tryz.func21, Tryz.ntmps21
    go_wp2_with fail
    refine (HE.out).mono ?_
    rintro e w1 ⟨g, rfl, hn, hb1⟩
    go_wp2_with fail
    refine (HB.out _ g hn).mono ?_
    rintro e w2 ⟨rfl, hb2⟩
    go_wp2_with fail
    go_ret2
    exact ⟨rfl, below_then hb1 hb2⟩
  · have HE := Lib.hid (eachT_any a c l w hl hu)
    have HB := Lib.hid (fun W g (h : Txts W W.heap.size (some ⟨g, 0, none⟩) (l.map (·.txt))) => show Calls Tryz.prog 47 #[.slice (some ⟨g, 0, none⟩) l.length l.length] W (PackPost (bestC 2 l, 0) W) from by
      have h2 := kbestTexts_any (some ⟨g, 0, none⟩) l.length (l.map (·.txt)) W h
      rw [List.length_map, show bestTR (l.map (·.txt)) = (bestC 2 l, 0) by unfold bestTR; rw [if_neg (by simpa using hf)]; rfl] at h2
      exact h2)
    unfold PackPost at HB ⊢
    generalize bestC 2 l = t at *
    clear hx hf hu hl
    go_enter Tryz.func21, Tryz.ntmps21
    go_wp2_with fail
    refine (HE.out).mono ?_
    rintro e w1 ⟨g, rfl, hn, hb1⟩
    go_wp2_with fail
    refine (HB.out _ g hn).mono ?_
    rintro e w2 ⟨rfl, hb2⟩
    go_wp2_with fail
    go_ret2
    exact ⟨rfl, below_then hb1 hb2⟩

set_option maxHeartbeats 1000000 in
set_option maxRecDepth 100000 in
theorem ptold_any (s : List UInt8) (k : Int) (hk : k = 1 ∨ k = 2) (m : Nat) (w : World) (hs : s.length ≤ maxLen) (hm : m ≤ 64) :
    Calls Tryz.prog 61 #[.string (str s), .int .i64 k, .int .i64 (m : Int)] w (JoinPost (Pg.toldR s k m) w) := by
  have hal : Below w.heap.size w (w.alloc (.cells #[.int .i64 k] 3)) := (Below.refl _ _).alloc (Nat.le_refl _) _
  have hbox : Boxed (w.alloc (.cells #[.int .i64 k] 3)) w.heap.size 3 (.int .i64 k) := Boxed.new _ _ _
  rcases hk with rfl | rfl
  · have HR := Lib.hid (fun W => readNumbers_any s m W hs)
    have HE := Lib.hid (fun W a c (hn : Nums W W.heap.size a (nlR s m).1) (hB : Boxed W w.heap.size 3 (.int .i64 1)) => eachC_any w.heap.size 1 a c (nlR s m).1 W (nlR_len s m) hB hn)
    have HV := Lib.hid (show Pg.toldR s 1 m = ((nlR s m).1.map fun x => ⟨1, x, []⟩, (nlR s m).2) from rfl)
    unfold AllPost at HR
    rw [HV.out]
    unfold JoinPost
    simp only
    generalize ((nlR s m).1.map fun x => (⟨1, x, []⟩ : C.Cl)) = cs at *
    generalize (nlR s m).1 = ns at *
    generalize (nlR s m).2 = er at *
    generalize str s = S at *
    clear HV hs
    go_enter Tryz.func61, Tryz.ntmps61
    go_wp2_with fail
    refine (HR.out _).mono ?_
    rintro e w1 ⟨a1, c1, rfl, hn, hb1⟩
    have hb1' := below_then hal hb1
    have hbox1 := (hb1.block _ hbox.lt).trans hbox
    go_wp2_with fail
    refine (HE.out _ _ _ hn hbox1).mono ?_
    rintro e w2 ⟨g, rfl, hrow, hb2⟩
    have hw2 := below_then hb1' hb2
    go_wp2_with fail
    go_ret2
    exact ⟨_, rfl, hrow.weak hb1'.size, hw2⟩
  · have HR := Lib.hid (fun W => readTexts_any s m W hs)
    have HE := Lib.hid (fun W a c (hn : Txts W W.heap.size a (tlR s m).1) (hB : Boxed W w.heap.size 3 (.int .i64 2)) => eachD_any w.heap.size 2 a c (tlR s m).1 W (tlR_len s m) hB hn)
    have HV := Lib.hid (show Pg.toldR s 2 m = ((tlR s m).1.map fun x => ⟨2, 0, x⟩, (tlR s m).2) from rfl)
    unfold TextsPost at HR
    rw [HV.out]
    unfold JoinPost
    simp only
    generalize ((tlR s m).1.map fun x => (⟨2, 0, x⟩ : C.Cl)) = cs at *
    generalize (tlR s m).1 = ns at *
    generalize (tlR s m).2 = er at *
    generalize str s = S at *
    clear HV hs
    go_enter Tryz.func61, Tryz.ntmps61
    go_wp2_with fail
    refine (HR.out _).mono ?_
    rintro e w1 ⟨a1, c1, rfl, hn, hb1⟩
    have hb1' := below_then hal hb1
    have hbox1 := (hb1.block _ hbox.lt).trans hbox
    go_wp2_with fail
    refine (HE.out _ _ _ hn hbox1).mono ?_
    rintro e w2 ⟨g, rfl, hrow, hb2⟩
    have hw2 := below_then hb1' hb2
    go_wp2_with fail
    go_ret2
    exact ⟨_, rfl, hrow.weak hb1'.size, hw2⟩

/-- the number with which a text begins, and what is left -/
def cntR (s : List UInt8) (most er : Nat) : Nat × List UInt8 × Nat :=
  if (V.rd s).2.2 ≠ 0 then (0, [], (V.rd s).2.2) else if most < (V.rd s).1 then (0, [], er) else ((V.rd s).1, s.drop (V.rd s).2.1, 0)
def CntPost (r : Nat × List UInt8 × Nat) (w : World) (e : Ending) (w' : World) : Prop := e = .returned (.tuple #[.int .i64 r.1, .string (str r.2.1), .int .i64 r.2.2]) ∧ Below w.heap.size w w'
theorem cnt_e1 {s : List UInt8} {most er n k e : Nat} (h : V.rd s = (n, k, e)) (he : e ≠ 0) : cntR s most er = (0, [], e) := by unfold cntR; rw [h, if_pos he]
theorem cnt_e2 {s : List UInt8} {most er n k : Nat} (h : V.rd s = (n, k, 0)) (he : most < n) : cntR s most er = (0, [], er) := by unfold cntR; rw [h, if_neg (by simp), if_pos he]
theorem cnt_ok {s : List UInt8} {most er n k : Nat} (h : V.rd s = (n, k, 0)) (he : ¬ most < n) : cntR s most er = (n, s.drop k, 0) := by unfold cntR; rw [h, if_neg (by simp), if_neg he]

set_option maxHeartbeats 1000000 in
set_option maxRecDepth 100000 in
theorem pcount_any (s : List UInt8) (most er : Nat) (w : World) (hs : s.length ≤ maxLen) (hm : most ≤ 64) (her : er ≤ 9) :
    Calls Tryz.prog 59 #[.string (str s), .int .i64 (most : Int), .int .i64 (er : Int)] w (CntPost (cntR s most er) w) := by
  have hv1 := vread_any (str s) w (by rw [str_size]; exact hs)
  rw [str_data] at hv1
  unfold ReadPost at hv1
  have hsz := str_size s
  have hmx := hs
  unfold maxLen at hmx
  obtain ⟨n, k, e, he⟩ : ∃ n k e, V.rd s = (n, k, e) := ⟨_, _, _, rfl⟩
  rw [he] at hv1
  simp only at hv1
  have HV1 := Lib.hid hv1
  clear hv1
  unfold CntPost
  have hwm : IntKind.u64.wrap (most : Int) = (most : Int) := by rw [IntKind.wrap_u64]; omega
  by_cases h0 : e = 0
  · subst h0
    obtain ⟨hk1, hkl, _, hx, hk9, _⟩ := V.rd_ok _ _ _ he
    by_cases h1 : most < n
    · have HRE := Lib.hid (cnt_e2 (er := er) he h1)
      have g1 : decide (most < n) = true := decide_eq_true h1
      generalize str s = S at *
      clear he h1 hs hsz
      go_enter Tryz.func59, Tryz.ntmps59
      go_wp2_with fail
      refine (HV1.out).mono ?_
      rintro e2 w1 ⟨rfl, hbl⟩
      go_wp2_with fail
      go_ret3
      rw [HRE.out]
      exact ⟨rfl, hbl⟩
    have HRE := Lib.hid (cnt_ok (er := er) he h1)
    have g1 : decide (most < n) = false := decide_eq_false h1
    have HX := Lib.hid (str_drop s k)
    have hwn : IntKind.i64.wrap (n : Int) = (n : Int) := by rw [IntKind.wrap_i64]; omega
    have hkS : (k : Int) ≤ ((str s).size : Int) := by omega
    have hkS2 : k ≤ (str s).size := by omega
    rw [HRE.out]
    simp only
    rw [← HX.out]
    generalize str s = S at *
    clear he h1 hs hsz
    go_enter Tryz.func59, Tryz.ntmps59
    go_wp2_with fail
    refine (HV1.out).mono ?_
    rintro e2 w1 ⟨rfl, hbl⟩
    go_wp2_with fail
    go_quiet (fail)
    go_wp2_with fail
    go_ret3
    exact ⟨rfl, below_drewN hbl _⟩
  · have HRE := Lib.hid (cnt_e1 (most := most) (er := er) he h0)
    have g1 : ((e : Int) != 0) = true := by rw [bne_iff_ne]; omega
    generalize str s = S at *
    clear he h0 hs hsz
    go_enter Tryz.func59, Tryz.ntmps59
    go_wp2_with fail
    refine (HV1.out).mono ?_
    rintro e2 w1 ⟨rfl, hbl⟩
    go_wp2_with fail
    go_ret3
    rw [HRE.out]
    exact ⟨rfl, hbl⟩
end Go.Proofs.YtcachhnhncodoaaGreat
