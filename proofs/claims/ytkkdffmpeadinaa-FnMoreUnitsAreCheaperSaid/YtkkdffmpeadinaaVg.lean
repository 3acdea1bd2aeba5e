/-
  Chapter 3: the laws' helpers, and the walks of FnValidDemands and FnEachUnits.
-/
import Derived.Test.YtkkdffmpeadinaaVf
import Derived.Test.YtkkdffmpeadinaaVq
namespace Go.Proofs.Ytkkdffmpeadinaa
open Go.RowKit

set_option maxHeartbeats 400000 in
theorem equalU_any (A B : Option Addr) (c d : Nat) (xs ys : List Int) (w : World) (h1 : Rd w A c xs) (h2 : Rd w B d ys) (hl : xs.length ≤ 1099511627776) :
    Calls Try.prog 20 #[.slice A xs.length c, .slice B ys.length d] w (BoolIs w (eqB xs ys)) := by
  by_cases hlen : xs.length = ys.length
  · have he : ((xs.length : Int) != (ys.length : Int)) = false := by simp [hlen]
    have HL := Lib.hid hlen
    have hle : ys.length ≤ xs.length := by omega
    have hle' : xs.length ≤ ys.length := by omega
    clear hlen
    go_enter Try.func20, Try.ntmps20
    go_wp2
    go_loopw [5] (fun i wr => ∃ k n : Nat, k ≤ xs.length ∧ i = .int .i64 k ∧ wr = w.drewN n ∧ Hid (xs.take k = ys.take k))
      (fun i _ => xs.length - (intOf i).toNat)
    case atStart => exact ⟨0, 0, Nat.zero_le _, rfl, rfl, Lib.hid rfl⟩
    case round =>
      obtain ⟨k, n, hk, rfl, rfl, HT⟩ := hrel
      by_cases hlt : k < xs.length
      · obtain ⟨b1, o1, x, rfl, _, hx, hc1⟩ := h1.at_ hlt
        have hlt2 : k < ys.length := by omega
        obtain ⟨b2, o2, y, rfl, _, hy, hc2⟩ := h2.at_ hlt2
        by_cases hxy : x = y
        · subst hxy
          have hne : (x != x) = false := by simp
          have HT' := Lib.hid (take_step hx.out hy.out HT.out)
          go_wp2
          go_quiet (fail)
          go_wp2
          go_roundw
          case rel => exact ⟨k + 1, _, by omega, by go_num, rfl, HT'⟩
          case measure => simp [intOf]; omega
        · have hne : (x != y) = true := by simpa using hxy
          have HE := Lib.hid (eqB_at hx.out hy.out hxy)
          go_wp2
          go_quiet (fail)
          go_wp2
          go_ret
          exact ⟨by rw [HE.out]; rfl, n + nq, World.drewN_drewN _ _ _⟩
      · obtain rfl : k = xs.length := by omega
        have HE := Lib.hid (eqB_all HL.out HT.out)
        go_wp2
        go_ret
        exact ⟨by rw [HE.out]; rfl, _, rfl⟩
  · have he : ((xs.length : Int) != (ys.length : Int)) = true := by simp; omega
    have HE := Lib.hid (eqB_len hlen)
    go_enter Try.func20, Try.ntmps20
    go_wp2
    go_ret
    exact ⟨by rw [HE.out]; rfl, 0, rfl⟩

/-- Numbers none of which is beyond 2 to 31. -/
def Abs2 (xs : List Int) : Prop := ∀ x ∈ xs, -2147483648 ≤ x ∧ x ≤ 2147483647
theorem abs2_sum {xs : List Int} (h : Abs2 xs) (k : Nat) : -2147483648 * (k : Int) ≤ (xs.take k).sum ∧ (xs.take k).sum ≤ 2147483647 * (k : Int) := by
  induction k with
  | zero => simp
  | succ k ih =>
    rw [List.take_add_one, List.sum_append]
    cases hx : xs[k]? with
    | none => simp; omega
    | some x => have := h x (List.mem_of_getElem? hx); simp; omega

theorem totalU_any (A : Option Addr) (c : Nat) (xs : List Int) (w : World) (h : Rd w A c xs) (hl : xs.length ≤ 1048576) (hs : Abs2 xs) :
    Calls Try.prog 23 #[.slice A xs.length c] w fun e w' => e = .returned (.int .i64 xs.sum) ∧ w = w' := by
  go_enter Try.func23, Try.ntmps23
  go_wp2
  go_loop [3, 4] (fun s i => ∃ (k : Nat) (t : Int), k ≤ xs.length ∧ i = .int .i64 k ∧ s = .int .i64 t ∧ Hid (t = (xs.take k).sum)) (fun _ i => xs.length - (intOf i).toNat)
  case atStart => exact ⟨0, 0, Nat.zero_le _, rfl, rfl, Lib.hid (by simp)⟩
  case round =>
    obtain ⟨k, t, hk, rfl, rfl, HT⟩ := hrel
    by_cases hlt : k < xs.length
    · obtain ⟨b, off, x, rfl, _, hx, hc⟩ := h.at_ hlt
      have b1 := hs x (List.mem_of_getElem? hx.out)
      have b2 := abs2_sum hs k
      rw [← HT.out] at b2
      have HT' := Lib.hid (take_sum hx.out)
      rw [← HT.out] at HT'
      go_wp2
      go_round
      case rel => exact ⟨k + 1, _, by omega, by go_num, rfl, Lib.hid HT'.out.symm⟩
      case measure => simp [intOf]; omega
    · obtain rfl : k = xs.length := by omega
      have HE := Lib.hid (show t = xs.sum by rw [HT.out, List.take_length])
      go_wp2
      go_ret
      exact ⟨by rw [HE.out]; rfl, rfl⟩

theorem six_len {rows : List (List Int)} (h : ∀ r ∈ rows, r.length ≤ 6) : ∀ r ∈ rows, r.length ≤ 1099511627776 := fun r hr => by have := h r hr; omega
/-- Both ValidDemands. -/
theorem VD_both (rows : List (List Int)) (hl : rows.length ≤ 4) (hl2 : ∀ r ∈ rows, r.length ≤ 6) :
    (∀ A c w, RdR w A c rows → Calls Try.prog 17 #[.slice A rows.length c] w fun e w' => e = .returned (.bool (vdB rows)) ∧ Below w.heap.size w w') ∧
    (∀ A c w, RdR w A c rows → Calls Try.prog 16 #[.slice A rows.length c] w fun e w' => e = .returned (.bool (vdB rows)) ∧ Below w.heap.size w w') :=
  ⟨fun A c w h => (SValidDemands_any A c rows w h (by omega) (six_len hl2)).mono fun e w' ⟨he, n, hn⟩ => ⟨he, by rw [hn]; exact below_drewN' (Below.refl _ _) n⟩,
   fun A c w h => (ValidDemands_any A c rows w h (by omega) (six_len hl2)).mono fun e w' ⟨he, n, hn⟩ => ⟨he, by rw [hn]; exact below_drewN' (Below.refl _ _) n⟩⟩

set_option maxHeartbeats 2000000 in
theorem fnValidDemands_walk {A : Option Addr} {c : Nat} {xs : List Int} {w : World} (h : Came .u8 w A c xs) :
    Calls Try.prog 3 #[.slice A xs.length c] w fun e w' => e = .returned (.bool true) ∧ Below w.heap.size w w' := by
  by_cases hlen : 1048576 < xs.length
  · go_enter Try.func3, Try.ntmps3
    go_wp2
    go_ret
    exact ⟨rfl, Below.refl _ _⟩
  have hl1 : xs.length ≤ 1048576 := by omega
  have HD := Lib.hid (DrawValidDemands_any A c xs w h)
  clear hlen h
  go_enter Try.func3, Try.ntmps3
  go_wp2_with fail
  refine HD.out.mono ?_
  rintro e w1 ⟨A1, c1, rows, rfl, hR, hl4, hl6, b1⟩
  obtain ⟨hS, hI⟩ := VD_both rows hl4 hl6
  cases hv : vdB rows with
  | false =>
    rw [hv] at hS hI
    have HS := Lib.hid hS
    have HI := Lib.hid hI
    have hbb : (false != false) = false := rfl
    clear hS hI hv HD hl6
    go_wp2_with fail
    refine (HI.out A1 c1 w1 hR).mono ?_
    rintro e w2 ⟨rfl, b2⟩
    have B2 := b1.trans (b2.mono b1.size)
    go_wp2_with fail
    refine (HS.out A1 c1 w2 (hR.below b2)).mono ?_
    rintro e w3 ⟨rfl, b3⟩
    have B3 := B2.trans (b3.mono B2.size)
    go_wp2_with fail
    refine (HS.out A1 c1 w3 ((hR.below b2).below b3)).mono ?_
    rintro e w4 ⟨rfl, b4⟩
    have B4 := B3.trans (b4.mono B3.size)
    go_wp2
    go_ret
    exact ⟨rfl, B4⟩
  | true =>
    have hvd := vdB_iff.1 hv
    have h1l := hvd.1.1
    obtain ⟨b, off, rfl, hcap, _⟩ := hR.open_ h1l
    rw [hv] at hS hI
    have HS := Lib.hid hS
    have HI := Lib.hid hI
    have HVD := Lib.hid hvd
    have H6 := Lib.hid hl6
    have hbb : (true != true) = false := rfl
    clear hS hI hv HD hl6 hvd
    go_wp2_with fail
    refine (HI.out _ c1 w1 hR).mono ?_
    rintro e w2 ⟨rfl, b2⟩
    have B2 := b1.trans (b2.mono b1.size)
    have hR2 := hR.below b2
    go_wp2_with fail
    refine (HS.out _ c1 w2 hR2).mono ?_
    rintro e w3 ⟨rfl, b3⟩
    have B3 := B2.trans (b3.mono B2.size)
    have hR3 := hR2.below b3
    by_cases hn1 : rows.length = 1
    · have hnb : ((rows.length : Int) == 1) = true := by simp [hn1]
      clear hn1
      go_wp2
      go_ret
      exact ⟨rfl, B3⟩
    · have hnb : ((rows.length : Int) == 1) = false := by simp; omega
      obtain ⟨m, hm⟩ : ∃ m, rows.length = m + 1 := ⟨rows.length - 1, by omega⟩
      have hm1 : 1 ≤ m := by omega
      have hvt := HVD.out.take_ hm1 (by omega)
      have hlt : (rows.take m).length = m := by rw [List.length_take]; omega
      have hIT := (VD_both (rows.take m) (by omega) (fun r hr => H6.out r (List.mem_of_mem_take hr))).2 (some ⟨b, off, none⟩) c1 w3 (hR3.take_ (c2 := c1) m (by omega))
      rw [vdB_true hvt, hlt] at hIT
      have HIT := Lib.hid hIT
      have hmi : (rows.length : Int) - 1 = (m : Int) := by omega
      have hmc : (m : Int) ≤ (c1 : Int) := by omega
      have hwm : IntKind.i64.wrap (m : Int) = (m : Int) := IntWalk.i64_in _ (by omega)
      clear hn1 hm hvt hlt hIT hR hR2 hR3
      go_wp2_with fail
      refine HIT.out.mono ?_
      rintro e w4 ⟨rfl, b4⟩
      have B4 := B3.trans (b4.mono B3.size)
      go_wp2
      go_ret
      exact ⟨rfl, B4⟩

end Go.Proofs.Ytkkdffmpeadinaa
