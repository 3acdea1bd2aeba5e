/-
  The laws of chapter 5: the walk of FnBroughtIn.
-/
import Derived.Test.YtdbpjlconbifpaaQk
import Derived.Test.YtdbpjlconbifpaaZh
namespace Go.Proofs.Ytdbpjlconbifpaa
open Go.RowKit Go.Lib

theorem eight_lens {rows : List (List Int)} (h : ∀ r ∈ rows, r.length ≤ 8) : ∀ r ∈ rows, r.length ≤ 1099511627776 := fun r hr => by have := h r hr; omega

set_option maxHeartbeats 4000000 in
set_option maxRecDepth 100000 in
theorem fnBroughtIn_walk {A : Option Addr} {c : Nat} {xs : List Int} {w : World} (h : Came .u8 w A c xs) :
    Calls Try.prog 8 #[.slice A xs.length c] w fun e w' => e = .returned (.bool true) ∧ Below w.heap.size w w' := by
  by_cases hlen : 1048576 < xs.length
  · go_enter Try.func8, Try.ntmps8
    go_wp2
    go_ret
    exact ⟨rfl, Below.refl _ _⟩
  have hl1 : xs.length ≤ 1048576 := by omega
  have HD := Lib.hid (DrawBroughtIn_any A c xs w h)
  clear hlen h
  go_enter Try.func8, Try.ntmps8
  go_wp2_with fail
  refine HD.out.mono ?_
  rintro e w1 ⟨A1, c1, rows, rfl, hR, hl4, hl8, b1⟩
  have hl8' := eight_lens hl8
  by_cases hv : VTs rows
  · have HI := Lib.hid (fun w' (h : RdR w' A1 c1 rows) => BroughtIn_yes A1 c1 rows w' h hl8' hv)
    have HS := Lib.hid (fun w' (h : RdR w' A1 c1 rows) => SBroughtIn_any A1 c1 rows w' h (by omega) hl8' hv)
    have HBS := Lib.hid (fun (W : World) (hW : RdR W A1 c1 rows) => BestSplit_yes A1 c1 rows.length rows W rfl hW hl8' hv)
    have HPP := Lib.hid (fun (W : World) (hW : RdR W A1 c1 rows) => PivotPays_yes A1 c1 rows.length rows W rfl hW hl8' hv)
    have hpb := paids_bd hv (Nat.le_refl rows.length)
    have hpl := paid_le hv.2 hv.1.2
    have hsb := sv_bd hv.2 7 (by omega)
    have hmw := wayF_worth (VTs.zeros hv.2) hv.1.2
    have HV := Lib.hid hv
    obtain ⟨x, hx⟩ : ∃ x, x = paidTo rows rows.length := ⟨_, rfl⟩
    obtain ⟨y, hy⟩ : ∃ y, y = sv rows 7 - paidTo rows rows.length := ⟨_, rfl⟩
    have HX := Lib.hid hx
    rw [← hy, ← hx] at HI HS
    have hxy : x + y = worthF rows (wayF rows) := by rw [hmw, hy, hx]; omega
    rw [← hx] at hpb hpl hy
    have HXY := Lib.hid hxy
    have p0 : decide (x < 0) = false := by simp; omega
    have p1 : (x != x) = false := by simp
    have p2 : (y != y) = false := by simp
    have p3 : decide (0 ≤ y) = true := by simp; omega
    have p4 : decide (y < 0) = false := by simp; omega
    have e1 : IntKind.i64.wrap (x + y) = x + y := IntWalk.i64_in _ (by omega)
    have p5 : (x == x) = true := by simp
    clear hx hy hxy hpb hpl hsb hmw hv HD hl8 hl8' hl1
    go_wp2_with fail
    refine (HI.out w1 hR).mono ?_
    rintro e w2 ⟨rfl, b2⟩
    go_wp2_with fail
    refine (HS.out w2 (hR.below b2)).mono ?_
    rintro e w3 ⟨rfl, b3⟩
    have hR3 := (hR.below b2).below b3
    have B3 := below_then b1 (b2.trans (b3.mono b2.size))
    clear b1 b2 b3 hR HI HS
    go_wp2_with fail
    refine (HBS.out w3 hR3).mono ?_
    rintro e w4 ⟨A4, c4, ys, M, rfl, o4, b4, ⟨_, _, hM⟩ | ⟨hno, _⟩⟩
    · have hMx : M = x + y := by rw [HXY.out, hM]
      have p6 : (x + y == M) = true := by rw [hMx]; simp
      have hR4 := hR3.below b4
      have B4 := B3.trans (b4.mono B3.size)
      clear hM hMx o4 b4 hR3
      go_wp2_with fail
      refine (HPP.out w4 hR4).mono ?_
      rintro e w5 ⟨g5, c5, rfl, o5, b5⟩
      have B5 := B4.trans (b5.mono B4.size)
      have HTT := Lib.hid (totalU_any (some ⟨g5, 0, none⟩) c5 (vls (pvF rows) rows.length) w5 o5.rd (by rw [vls_len]; omega) (fun z hz => by
        obtain ⟨i, hi, rfl⟩ := List.mem_map.1 hz
        have h2 := pv_bd HV.out.2 HV.out.1.2 (List.mem_range.1 hi)
        omega))
      rw [vls_len, pvs_sum, ← HX.out] at HTT
      clear o5 b5
      go_wp2_with fail
      refine HTT.out.mono ?_
      rintro e w6 ⟨rfl, rfl⟩
      go_wp2
      go_ret
      exact ⟨rfl, B5⟩
    · exact absurd HV.out hno
  · have HI := Lib.hid (fun w' (h : RdR w' A1 c1 rows) => BroughtIn_no A1 c1 rows w' h hl8' hv)
    have HS := Lib.hid (fun w' (h : RdR w' A1 c1 rows) => SBroughtIn_no A1 c1 rows w' h (by omega) hl8' hv)
    clear hv HD hl8 hl8' hl1
    go_wp2_with fail
    refine (HI.out w1 hR).mono ?_
    rintro e w2 ⟨rfl, b2⟩
    go_wp2_with fail
    refine (HS.out w2 (hR.below b2)).mono ?_
    rintro e w3 ⟨rfl, b3⟩
    have B3 := below_then b1 (b2.trans (b3.mono b2.size))
    clear b1 b2 b3
    go_wp2
    go_ret
    exact ⟨rfl, B3⟩

end Go.Proofs.Ytdbpjlconbifpaa
