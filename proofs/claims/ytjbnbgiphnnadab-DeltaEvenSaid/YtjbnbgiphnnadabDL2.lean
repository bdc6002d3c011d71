/- The law DeltaEven. -/
import Derived.Test.YtjbnbgiphnnadabDL1
namespace Go.Proofs.Ytjbnbgiphnnadab
open Go.RowKit
set_option linter.unusedVariables false

/-- so many numbers from one on, each one so much more -/
def evF (f s : Nat) : Nat → List Nat
  | 0 => []
  | n + 1 => f :: evF ((f + s) % 18446744073709551616) s n
theorem evF_length (n : Nat) : ∀ f s, (evF f s n).length = n := by
  induction n with
  | zero => intro f s; rfl
  | succ n ih => intro f s; simp [evF, ih]
theorem evF_lt (n : Nat) : ∀ f s, f < 18446744073709551616 → ∀ x ∈ evF f s n, x < 18446744073709551616 := by
  induction n with
  | zero => intro f s hf x hx; simp [evF] at hx
  | succ n ih =>
    intro f s hf x hx
    rcases List.mem_cons.1 hx with h | h
    · omega
    · exact ih _ s (Nat.mod_lt _ (by decide)) x h
theorem evF_run (n : Nat) : ∀ f s, f < 18446744073709551616 → s < 18446744073709551616 → D.runF D.fd f (evF ((f + s) % 18446744073709551616) s n) = List.replicate n s := by
  induction n with
  | zero => intro f s hf hs; rfl
  | succ n ih =>
    intro f s hf hs
    simp only [evF, D.runF]
    rw [List.replicate_succ]
    have h1 : (D.fd f ((f + s) % 18446744073709551616)).2 = s := by unfold D.fd; simp only; omega
    have h2 : (D.fd f ((f + s) % 18446744073709551616)).1 = (f + s) % 18446744073709551616 := rfl
    rw [h1, h2, ih _ s (Nat.mod_lt _ (by decide)) hs]
theorem evF_diffs (n f s : Nat) (hf : f < 18446744073709551616) (hs : s < 18446744073709551616) : D.diffs (evF f s (n + 1)) = f :: List.replicate n s := by
  rw [show evF f s (n + 1) = f :: evF ((f + s) % 18446744073709551616) s n from rfl, diffs_cons f _ hf]
  unfold D.diffs
  simp only [D.runF, List.drop_succ_cons, List.drop_zero]
  have h2 : (D.fd 0 f).1 = f := rfl
  rw [h2, evF_run n f s hf hs]

theorem row_rep (n x : Nat) : H.row (List.replicate n x) = n := by
  unfold H.row
  cases n with
  | zero => rfl
  | succ n =>
    have h : ∀ k, H.rowF x (List.replicate k x) = k := by
      intro k
      induction k with
      | zero => rfl
      | succ k ih => rw [List.replicate_succ]; simp [H.rowF, ih]
    rw [show (List.replicate (n + 1) x).headD 0 = x by rw [List.replicate_succ]; rfl]
    exact h _

theorem evF_short (n f s : Nat) (hf : f < 18446744073709551616) (hs : s < 18446744073709551616) (h8 : 8 ≤ n) (hn : n ≤ 63) : (dbytes (evF f s (n + 1))).length ≤ 20 := by
  have hd := evF_diffs n f s hf hs
  have hz : dz (evF f s (n + 1)) = List.replicate n (D.zig s) := by
    unfold dz D.zigs; rw [hd, List.drop_succ_cons, List.drop_zero, List.map_replicate]
  have hne : evF f s (n + 1) ≠ [] := by simp [evF]
  unfold dbytes
  rw [if_neg hne, hz]
  have hzl := D.zig_lt s hs
  have hw : B.wd (List.replicate n (D.zig s)) ≤ 64 := B.wd_64 _ (fun x hx => by rw [List.eq_of_mem_replicate hx]; exact hzl)
  generalize B.wd (List.replicate n (D.zig s)) = wd at *
  have hrep : List.replicate n (D.zig s) ≠ [] := by intro e; have := congrArg List.length e; simp at this; omega
  rw [H.bytes_run wd _ hrep (by rw [row_rep]; exact h8), row_rep, List.drop_of_length_le (by simp), H.bytes_nil, List.append_nil]
  have h1 := V.sz_le ((evF f s (n + 1)).headD 0)
  have h2 := V.sz_spec (2 * n)
  simp only [H.Part.bytes, List.length_append, V.enc_length, H.pkd_length, List.length_cons, List.length_nil]
  unfold B.sz
  omega

set_option maxHeartbeats 1000000 in
set_option maxRecDepth 100000 in
theorem deltaEven_walk (w : World) (f : Nat) (hf : f < 18446744073709551616) (s : Nat) (hs : s < 18446744073709551616) (many : Int) (hmm : -9223372036854775808 ≤ many ∧ many ≤ 9223372036854775807) :
    Calls Try.prog 5 #[.int .u64 (f : Int), .int .u64 (s : Int), .int .i64 many] w (BoolPost true w) := by
  by_cases hlo : many < 1
  · have g1 : decide (many < 1) = true := by simp; omega
    go_enter Try.func5, Try.ntmps5
    go_wp2_with fail
    refine (dbegun_any _).mono ?_
    rintro e w1 ⟨rfl, hb1⟩
    go_wp2_with fail
    go_ret
    exact ⟨rfl, hb1⟩
  have g1 : decide (many < 1) = false := by simp; omega
  by_cases hhi : 64 < many
  · have g2 : decide (64 < many) = true := by simp; omega
    go_enter Try.func5, Try.ntmps5
    go_wp2_with fail
    refine (dbegun_any _).mono ?_
    rintro e w1 ⟨rfl, hb1⟩
    go_wp2_with fail
    go_ret
    exact ⟨rfl, hb1⟩
  have g2 : decide (64 < many) = false := by simp; omega
  obtain ⟨n, rfl⟩ : ∃ n : Nat, many = ((n + 1 : Nat) : Int) := ⟨many.toNat - 1, by omega⟩
  have hn : n ≤ 63 := by omega
  have hel := evF_length (n + 1) f s
  have hex := evF_lt (n + 1) f s hf
  have hdf := fun A c' W h => diffs_any A c' (evF f s (n + 1)) W hex h
  have hwr := fun A c' W h => dwrite_any A c' (evF f s (n + 1)) W hex h
  unfold dwriteR at hwr
  rw [hel, if_neg (by omega), evF_diffs n f s hf hs] at hdf
  rw [hel, if_neg (by omega)] at hwr
  have hshort : 9 ≤ n + 1 → (dbytes (evF f s (n + 1))).length ≤ 20 := fun h => evF_short n f s hf hs (by omega) hn
  have hbl := dbytes_length _ hex (by omega)
  obtain ⟨L, hL⟩ : ∃ L, L = evF f s (n + 1) := ⟨_, rfl⟩
  have HL0 := Lib.hid hL
  rw [← hL] at hel hdf hwr hshort hbl
  generalize hM : n + 1 = M at *
  obtain ⟨t, ht⟩ : ∃ t, t = str (dbytes L) := ⟨_, rfl⟩
  have hts : t.size = (dbytes L).length := by rw [ht, str_size]
  have HDF := Lib.hid hdf
  have HWR := Lib.hid (fun A c' W h => show Calls Try.prog 19 #[.slice A M c'] W (fun e w' => e = .returned (.tuple #[.string t, .int .i64 0]) ∧ Below W.heap.size W w') by rw [ht]; exact hwr A c' W h)
  have hshort2 : 9 ≤ M → t.size ≤ 20 := fun h => by rw [hts]; exact hshort h
  have hdl : (f :: List.replicate n s).length = M := by simp; omega
  have HDG := Lib.hid (fun k (h1 : 1 ≤ k) (h2 : k < M) => show (f :: List.replicate n s).getD k 0 = s by
    obtain ⟨j, rfl⟩ : ∃ j, k = j + 1 := ⟨k - 1, by omega⟩
    rw [List.getD_cons_succ]; simp only [List.getD, List.getElem?_replicate]; rw [if_pos (by omega)]; rfl)
  have HFIN := Lib.hid (show (decide ((M : Int) < 9) || decide ((t.size : Int) ≤ 20)) = true by
    by_cases h : M < 9
    · rw [decide_eq_true (show (M : Int) < 9 by omega)]; rfl
    · rw [decide_eq_true (show (t.size : Int) ≤ 20 by have := hshort2 (by omega); omega), Bool.or_true])
  clear hdf hwr ht hts hshort hbl hL hex
  go_enter Try.func5, Try.ntmps5
  go_wp2_with fail
  refine (dbegun_any _).mono ?_
  rintro e w1 ⟨rfl, hb1⟩
  go_wp2_with fail
  go_loopw [0, 7, 8] (fun fr v i wr => ∃ (k x : Nat) (xs : List Nat), k ≤ M ∧ i = .int .i64 k ∧ fr = .int .u64 (x : Int) ∧ x < 18446744073709551616 ∧ xs.length = k ∧ Hid (xs ++ evF x s (M - k) = L) ∧ NumRow w.heap.size xs v wr ∧ Below w.heap.size w wr) (fun _ _ i _ => M - (intOf i).toNat)
  case atStart => exact ⟨0, f, [], by omega, rfl, rfl, hf, rfl, Lib.hid HL0.out.symm, ⟨rfl, Or.inl ⟨rfl, rfl⟩⟩, hb1⟩
  case round =>
    obtain ⟨k, x, xs, hk, rfl, rfl, hx, hxl, HK, hrow, hbw⟩ := hrel
    by_cases hlt : k < M
    · have hrow' : wr.ownsRow w.heap.size 23 1 u7 xs.length (nv xs) := hrow
      have HROW := Lib.hid hrow'
      have HX := Lib.hid hxl
      clear hrow hrow' hxl
      have hxl2 : (xs.length + 1) * 8 ≤ 140737488355328 := by rw [HX.out]; omega
      have hwrap : IntKind.u64.wrap ((x : Int) + (s : Int)) = (((x + s) % 18446744073709551616 : Nat) : Int) := by rw [IntKind.wrap_u64]; omega
      have HK2 := Lib.hid (show (xs ++ [x]) ++ evF ((x + s) % 18446744073709551616) s (M - (k + 1)) = L by
        have h := HK.out
        rw [show M - k = (M - (k + 1)) + 1 by omega] at h
        rw [← h]; simp [evF])
      have hx2 : (x + s) % 18446744073709551616 < 18446744073709551616 := Nat.mod_lt _ (by decide)
      generalize (x + s) % 18446744073709551616 = x2 at *
      have hb5 : w.heap.size ≤ (wr.alloc (.cells #[.int .u64 (x : Int)] 23)).heap.size := by have := hbw.size; simp; omega
      go_wp2_with (at_builtin; refine wpList_append_one rfl (.tmp 27) (.tmp 29) rfl w.heap.size _ xs.length _ rfl (HROW.out.alloc _) wr.heap.size x rfl (World.cell?_alloc_new _ _ _ _) hxl2 hb5 ?_)
      intro v' w5 hown5 hgrow5
      have hbw5 : Below w.heap.size w w5 := (hbw.alloc hbw.size _).grown hgrow5 (by have := hbw.size; simp; omega) (fun k hk => (HROW.out.lt k hk).1)
      go_wp2_with fail
      refine ⟨⟨k + 1, x2, xs ++ [x], by omega, by go_num, rfl, hx2, by rw [List.length_append, HX.out]; rfl, HK2, ?_, hbw5⟩, by simp [intOf]; omega⟩
      unfold NumRow; rw [List.length_append]; simpa [nv] using hown5
    · obtain rfl : M = k := by omega
      have hxL : xs = L := by have h := HK.out; rw [Nat.sub_self] at h; simpa [evF] using h
      subst hxL
      obtain ⟨a, c, rfl, hnum⟩ := numRow_nums hrow
      rw [hxl]
      have HN := Lib.hid hnum
      clear hnum hrow HK HL0
      go_wp2_with fail
      refine (HDF.out _ _ _ HN.out).mono ?_
      rintro e w2 ⟨a2, c2, rfl, hn2, hlc2, hcm2, hb2⟩
      rw [hdl]
      have h2 := below_then hbw hb2
      go_wp2_with fail
      refine (HWR.out _ _ _ (HN.out.next hb2)).mono ?_
      rintro e w3 ⟨rfl, hb3⟩
      have h3 := below_then h2 hb3
      have HN3 := Lib.hid (hn2.next hb3)
      clear hn2
      go_wp2_with fail
      go_loop [13] (fun i => ∃ k : Nat, 1 ≤ k ∧ k ≤ M ∧ i = .int .i64 k) (fun i => M - (intOf i).toNat)
      case atStart => exact ⟨1, by omega, by omega, rfl⟩
      case round =>
        obtain ⟨k, hk1, hk, rfl⟩ := hrel
        by_cases hlt : k < M
        · obtain ⟨b, off, rfl, hb, hcc⟩ := HN3.out (by simp)
          have ck := hcc k (by rw [hdl]; exact hlt)
          rw [HDG.out k hk1 hlt] at ck
          clear hcc
          go_wp2_with fail
          exact ⟨⟨k + 1, by omega, by omega, by go_num⟩, by simp [intOf]; omega⟩
        · obtain rfl : k = M := by omega
          have HF := HFIN.out
          by_cases h9 : k < 9
          · have g9 : decide ((k : Int) < 9) = true := by simp; omega
            go_wp2_with fail
            go_ret
            exact ⟨rfl, h3⟩
          · have g9 : decide ((k : Int) < 9) = false := by simp; omega
            have h20 := hshort2 (by omega)
            have g20 : decide ((t.size : Int) ≤ 20) = true := by simp; omega
            go_wp2_with fail
            go_ret
            exact ⟨rfl, h3⟩
end Go.Proofs.Ytjbnbgiphnnadab
