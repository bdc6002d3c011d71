/- The walk of the reference's withEntry. -/
import Derived.Test.YtmjcdjekakaigaaFsR4
namespace Go.Proofs.Ytmjcdjekakaigaa.Fs
open Go.RowKit
set_option linter.unusedVariables false

set_option maxHeartbeats 8000000 in
set_option maxRecDepth 100000 in
theorem rWithE_any (a : Option Addr) (c : Nat) (l : List En) (x : En) (w : World) (hl : l.length ≤ 1048576) (hu : Ens w w.heap.size a l) (hok : ∀ y ∈ l, enOk y) (hx : enOk x) :
    Calls Try.prog 29 #[.slice a l.length c, enV x] w (ERowPost (withE l x) w) := by
  have hal : Below w.heap.size w (w.alloc (.cells #[.string (str x.name), .int .i64 x.node] 47)) := (Below.refl _ _).alloc (Nat.le_refl _) _
  have hT : Bk (w.alloc (.cells #[.string (str x.name), .int .i64 x.node] 47)) w.heap.size 47 #[.string (str x.name), .int .i64 x.node] := bk_new _ _ _
  have HU := Lib.hid (hu.next enAt_firm hal)
  have HT := Lib.hid hT
  have HT1 := Lib.hid (fun k (hk : k < l.length) W => tless_any (l.getD k nulE).name x.name W (hok _ (getD_mem l nulE k hk)).1 hx.1)
  have HT2 := Lib.hid (fun k (hk : k < l.length) W => tless_any x.name (l.getD k nulE).name W hx.1 (hok _ (getD_mem l nulE k hk)).1)
  have HOX := Lib.hid (fun W => ens_one W x)
  obtain ⟨F, hF⟩ : ∃ F : Nat → List En, F = fun k => (l.take k).filter (fun e => decide (e.name < x.name)) := ⟨_, rfl⟩
  have HSF := Lib.hid (fun k hk => show F (k + 1) = F k ++ (if decide ((l.getD k nulE).name < x.name) = true then [l.getD k nulE] else []) by rw [hF]; exact filt_step l k hk)
  have HFL := Lib.hid (fun k => show (F k).length ≤ l.length by rw [hF]; exact filt_len l k)
  have HF0 := Lib.hid (show F 0 = [] by rw [hF]; simp)
  obtain ⟨G, hG⟩ : ∃ G : Nat → List En, G = fun k => F l.length ++ [x] ++ (l.take k).filter (fun e => decide (x.name < e.name)) := ⟨_, rfl⟩
  have HSG := Lib.hid (fun k hk => show G (k + 1) = G k ++ (if decide (x.name < (l.getD k nulE).name) = true then [l.getD k nulE] else []) by
    rw [hG]; show F l.length ++ [x] ++ (l.take (k + 1)).filter _ = _
    rw [filt_step l k hk, List.append_assoc (F l.length ++ [x])])
  have HGL := Lib.hid (fun k => show (G k).length ≤ 2 * l.length + 1 by
    rw [hG]
    have h1 := HFL.out l.length
    have h2 := filt_len (p := fun e => decide (x.name < e.name)) l k
    simp only [List.length_append, List.length_singleton]
    omega)
  have HG0 := Lib.hid (show G 0 = F l.length ++ [x] by rw [hG]; simp)
  have HGE := Lib.hid (show G l.length = withE l x by
    rw [hG, hF]
    simp only [List.take_length, List.append_assoc, List.singleton_append]
    rfl)
  generalize withE l x = R at *
  have hs0 := hal.size
  unfold enV
  clear hu hF hG hok hx
  obtain ⟨b0, b1⟩ := hT.two
  generalize hW : w.alloc (.cells #[.string (str x.name), .int .i64 x.node] 47) = W0 at *
  have HW := Lib.hid hW
  generalize str x.name = X0 at *
  generalize x.node = z0 at *
  clear hW hT
  go_enter Try.func29, Try.ntmps29
  go_wp2_with fail
  rw [HW.out]
  go_loopw [5, 6] (fun v i wr => ∃ k : Nat, k ≤ l.length ∧ i = .int .i64 k ∧ Hid (ERow W0.heap.size (F k) v wr) ∧ Below W0.heap.size W0 wr) (fun _ i _ => l.length - (intOf i).toNat)
  case atStart => exact ⟨0, by omega, rfl, Lib.hid (by rw [HF0.out]; exact enil _ _), Below.refl _ _⟩
  case round =>
    clear b0 b1
    obtain ⟨k, hk, rfl, HR, hbw⟩ := hrel
    obtain ⟨b0, b1⟩ := (HT.out.next hbw).two
    by_cases hlt : k < l.length
    · obtain ⟨bb, off, rfl, hbb, hcc⟩ := HU.out (fun e => by rw [e] at hlt; simp at hlt)
      obtain ⟨k0, k1⟩ := hcc k hlt
      have c0 := (hbw.cell (p := ⟨bb, off + k * 2, none⟩) hbb).trans k0
      have c1 := (hbw.cell (p := ⟨bb, off + k * 2 + 1, none⟩) hbb).trans k1
      have hkI : (k : Int) < (l.length : Int) := by omega
      have HTX := Lib.hid (HT1.out k hlt)
      have hst := HSF.out k hlt
      have hfl := HFL.out k
      have HON := Lib.hid (fun W => ens_one W (l.getD k nulE))
      generalize decide ((l.getD k nulE).name < x.name) = r at *
      generalize l.getD k nulE = y at *
      generalize y.node = z at *
      generalize str y.name = X at *
      clear k0 k1 hcc
      cases r with
      | false =>
        rw [if_neg (by simp), List.append_nil] at hst
        have HN := Lib.hid (show ERow W0.heap.size (F (k + 1)) _ wr by rw [hst]; exact HR.out)
        clear hst
        go_wp2_with fail
        go_quiet ((go_at_call 44; exact Calls.quiet_of (HTX.out _)))
        go_wp2_with fail
        exact ⟨⟨k + 1, by omega, by go_num, Lib.hid (HN.out.below (below_drewN (Below.refl _ _) _)), below_drewN hbw _⟩, by simp [intOf]; omega⟩
      | true =>
        rw [if_pos rfl] at hst
        have HS2 := Lib.hid hst
        clear hst
        go_wp2_with fail
        go_quiet ((go_at_call 44; exact Calls.quiet_of (HTX.out _)))
        have hbq := below_drewN (Below.refl wr.heap.size wr) nq
        have hbw2 := below_drewN hbw nq
        have hHR := HR.out.below hbq
        have e0 : (wr.drewN nq).cell? ⟨bb, off + k * 2, none⟩ = _ := c0
        have e1 : (wr.drewN nq).cell? ⟨bb, off + k * 2 + 1, none⟩ = _ := c1
        generalize wr.drewN nq = wq at *
        have hal2 : Below W0.heap.size W0 (wq.alloc (.cells #[.string X, .int .i64 z] 47)) := hbw2.alloc hbw2.size _
        have HRA := Lib.hid (show ERow W0.heap.size (F k) _ (wq.alloc (.cells #[.string X, .int .i64 z] 47)) from World.ownsRow.alloc hHR _)
        have hby : ((F k).length + 1) * 24 ≤ 140737488355328 := by omega
        have hbase := hal2.size
        clear hHR b0 b1 c0 c1
        go_wp2_with (at_builtin; refine wpList_append_en rfl (.tmp 22) (.tmp 27) rfl W0.heap.size _ (F k) rfl HRA.out (some ⟨wq.heap.size, 0, none⟩) 1 1 [y] rfl rfl (fun h => by cases h) (HON.out wq) hby hbase ?_)
        intro v6 w6 hr6 hb6 hg6
        have HN := Lib.hid (show ERow W0.heap.size (F (k + 1)) v6 w6 by rw [HS2.out]; exact hr6)
        clear hr6 hg6
        go_wp2_with fail
        exact ⟨⟨k + 1, by omega, by go_num, HN, hal2.trans hb6⟩, by simp [intOf]; omega⟩
    · obtain rfl : k = l.length := by omega
      have hal2 : Below W0.heap.size W0 (wr.alloc (.cells #[.string X0, .int .i64 z0] 47)) := hbw.alloc hbw.size _
      have HRA := Lib.hid (show ERow W0.heap.size (F l.length) _ (wr.alloc (.cells #[.string X0, .int .i64 z0] 47)) from World.ownsRow.alloc HR.out _)
      have hby : ((F l.length).length + 1) * 24 ≤ 140737488355328 := by have := HFL.out l.length; omega
      have hbase := hal2.size
      go_wp2_with (at_builtin; refine wpList_append_en rfl (.tmp 29) (.tmp 31) rfl W0.heap.size _ (F l.length) rfl HRA.out (some ⟨wr.heap.size, 0, none⟩) 1 1 [x] rfl rfl (fun h => by cases h) (HOX.out wr) hby hbase ?_)
      intro v6 w6 hr6 hb6 hg6
      have HN6 := Lib.hid (show ERow W0.heap.size (G 0) v6 w6 by rw [HG0.out]; exact hr6)
      have hbw6 := hal2.trans hb6
      clear hr6 hg6 b0 b1
      go_wp2_with fail
      go_loopw [5, 7] (fun v i wr => ∃ k : Nat, k ≤ l.length ∧ i = .int .i64 k ∧ Hid (ERow W0.heap.size (G k) v wr) ∧ Below W0.heap.size W0 wr) (fun _ i _ => l.length - (intOf i).toNat)
      case atStart => exact ⟨0, by omega, rfl, HN6, hbw6⟩
      case round =>
        obtain ⟨k, hk, rfl, HR, hbw⟩ := hrel
        obtain ⟨b0, b1⟩ := (HT.out.next hbw).two
        by_cases hlt : k < l.length
        · obtain ⟨bb, off, rfl, hbb, hcc⟩ := HU.out (fun e => by rw [e] at hlt; simp at hlt)
          obtain ⟨k0, k1⟩ := hcc k hlt
          have c0 := (hbw.cell (p := ⟨bb, off + k * 2, none⟩) hbb).trans k0
          have c1 := (hbw.cell (p := ⟨bb, off + k * 2 + 1, none⟩) hbb).trans k1
          have hkI : (k : Int) < (l.length : Int) := by omega
          have HTX := Lib.hid (HT2.out k hlt)
          have hst := HSG.out k hlt
          have hfl := HGL.out k
          have HON := Lib.hid (fun W => ens_one W (l.getD k nulE))
          generalize decide (x.name < (l.getD k nulE).name) = r at *
          generalize l.getD k nulE = y at *
          generalize y.node = z at *
          generalize str y.name = X at *
          clear k0 k1 hcc
          cases r with
          | false =>
            rw [if_neg (by simp), List.append_nil] at hst
            have HN := Lib.hid (show ERow W0.heap.size (G (k + 1)) _ wr by rw [hst]; exact HR.out)
            clear hst
            go_wp2_with fail
            go_quiet ((go_at_call 44; exact Calls.quiet_of (HTX.out _)))
            go_wp2_with fail
            exact ⟨⟨k + 1, by omega, by go_num, Lib.hid (HN.out.below (below_drewN (Below.refl _ _) _)), below_drewN hbw _⟩, by simp [intOf]; omega⟩
          | true =>
            rw [if_pos rfl] at hst
            have HS2 := Lib.hid hst
            clear hst
            go_wp2_with fail
            go_quiet ((go_at_call 44; exact Calls.quiet_of (HTX.out _)))
            have hbq := below_drewN (Below.refl wr.heap.size wr) nq
            have hbw2 := below_drewN hbw nq
            have hHR := HR.out.below hbq
            have e0 : (wr.drewN nq).cell? ⟨bb, off + k * 2, none⟩ = _ := c0
            have e1 : (wr.drewN nq).cell? ⟨bb, off + k * 2 + 1, none⟩ = _ := c1
            generalize wr.drewN nq = wq at *
            have hal2 : Below W0.heap.size W0 (wq.alloc (.cells #[.string X, .int .i64 z] 47)) := hbw2.alloc hbw2.size _
            have HRA := Lib.hid (show ERow W0.heap.size (G k) _ (wq.alloc (.cells #[.string X, .int .i64 z] 47)) from World.ownsRow.alloc hHR _)
            have hby : ((G k).length + 1) * 24 ≤ 140737488355328 := by omega
            have hbase := hal2.size
            clear hHR b0 b1 c0 c1
            go_wp2_with (at_builtin; refine wpList_append_en rfl (.tmp 47) (.tmp 52) rfl W0.heap.size _ (G k) rfl HRA.out (some ⟨wq.heap.size, 0, none⟩) 1 1 [y] rfl rfl (fun h => by cases h) (HON.out wq) hby hbase ?_)
            intro v6 w6 hr6 hb6 hg6
            have HN := Lib.hid (show ERow W0.heap.size (G (k + 1)) v6 w6 by rw [HS2.out]; exact hr6)
            clear hr6 hg6
            go_wp2_with fail
            exact ⟨⟨k + 1, by omega, by go_num, HN, hal2.trans hb6⟩, by simp [intOf]; omega⟩
        · obtain rfl : k = l.length := by omega
          have HN := Lib.hid (show ERow w.heap.size R _ wr by rw [← HGE.out]; exact HR.out.weak hs0)
          go_wp2_with fail
          go_ret
          exact ⟨_, rfl, HN.out, hal.trans (hbw.mono hs0)⟩
end Go.Proofs.Ytmjcdjekakaigaa.Fs
