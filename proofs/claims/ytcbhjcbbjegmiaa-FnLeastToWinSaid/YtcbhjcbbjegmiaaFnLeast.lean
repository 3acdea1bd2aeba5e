/-
  The walk of the law of LeastToWin.
-/
import Derived.Test.YtcbhjcbbjegmiaaPlB
import Derived.Test.YtcbhjcbbjegmiaaDrawD
namespace Go.Proofs.Ytcbhjcbbjegmiaa
open Go.RowKit

theorem Least_cases (xs : List Int) (i r : Int) (hl : xs.length ≤ 1048576) :
    (∃ (j out : Nat), i = (j : Int) ∧ wB xs i = true ∧ inR r 0 30 = true ∧ leastF xs j r = some out ∧
      (∀ A c w, Rd w A c xs → Calls Try.prog 21 #[.slice A xs.length c, .int .i64 i, .int .i64 r] w (TwoIs w out true)) ∧
      (∀ A c w, Rd w A c xs → Calls Try.prog 20 #[.slice A xs.length c, .int .i64 i, .int .i64 r] w (TwoIs w out true))) ∨
    ((∀ A c w, Rd w A c xs → Calls Try.prog 21 #[.slice A xs.length c, .int .i64 i, .int .i64 r] w (TwoIs w 0 false)) ∧
      (∀ A c w, Rd w A c xs → Calls Try.prog 20 #[.slice A xs.length c, .int .i64 i, .int .i64 r] w (TwoIs w 0 false))) := by
  by_cases hg : (wB xs i && inR r 0 30) = true
  · simp only [Bool.and_eq_true] at hg
    obtain ⟨hw, hr⟩ := hg
    obtain ⟨j, rfl⟩ := Int.eq_ofNat_of_zero_le (wB_le hw).2.1
    have hj : j < xs.length := by have := (wB_le hw).2.2.1; omega
    have hS := fun A c w (h : Rd w A c xs) => SLeast_yes A c xs j r w h hw hr hl hj
    have hI := fun A c w (h : Rd w A c xs) => Least_yes A c xs j r w h hw hr hl hj
    cases hout : leastF xs j r with
    | some out =>
      rw [hout] at hS hI
      exact .inl ⟨j, out, rfl, hw, hr, hout, hS, hI⟩
    | none =>
      rw [hout] at hS hI
      exact .inr ⟨hS, hI⟩
  · have hg' : (wB xs i && inR r 0 30) = false := by simpa using hg
    exact .inr ⟨fun A c w h => SLeast_no A c xs i r w h hl rfl rfl hg', fun A c w h => Least_no A c xs i r w h hl rfl rfl hg'⟩

theorem SaleBy_is {a : Int} {P : List Int} {n : Nat} (s : ByteArray) (kd : Nat) (A : Option Addr) (c : Nat) (xs : List Int) (r : Int) (w : World) (hn : xs.length = n) (ha : a = atOf xs r) (hP : P = payOf kd xs r) (hk : KindIs s kd) (h : Rd w A c xs) (hv : vB xs = true) (hr : inR r 0 30 = true) :
    Calls Try.prog 16 #[.string s, .slice A n c, .int .i64 r] w fun e w' =>
      ∃ g c', e = .returned (.tuple #[.int .i64 a, .slice (some ⟨g, 0, none⟩) n c']) ∧ Own w' w.heap.size (some ⟨g, 0, none⟩) c' P ∧ Below w.heap.size w w' := by
  subst hn ha hP; exact SaleBy_yes s kd A c xs r w hk h hv hr

set_option maxRecDepth 100000 in
set_option maxHeartbeats 4000000 in
theorem fnLeastToWin_walk {A : Option Addr} {c : Nat} {xs : List Int} {w : World} (h : Came .u8 w A c xs) :
    Calls Try.prog 4 #[.slice A xs.length c] w fun e w' => e = .returned (.bool true) ∧ Below w.heap.size w w' := by
  by_cases hlen : 1048576 < xs.length
  · go_enter Try.func4, Try.ntmps4
    go_wp2
    go_ret
    exact ⟨rfl, Below.refl _ _⟩
  have hl0 : xs.length ≤ 1048576 := by omega
  clear hlen
  go_enter Try.func4, Try.ntmps4
  go_wp2_with fail
  refine (DrawLeastToWin_any A c xs w h).mono ?_
  rintro e w1 ⟨A1, c1, ys, i, r, rfl, hrd, hy, B1⟩
  have hy1 : ys.length ≤ 1048576 := by omega
  have hy2 : ys.length ≤ 1099511627776 := by omega
  clear h hl0
  rcases Least_cases ys i r hy1 with ⟨j, out, rfl, hw, hr, hout, hS, hI⟩ | ⟨hS, hI⟩
  · have hwb := wB_le hw
    have hv := hwb.1
    have hj : j < ys.length := by have := hwb.2.2.1; omega
    have hlen1 := hwb.2.2.2.1
    have hr0 := (inR_le hr).1
    have hlp := least_price hj hr0 hout
    have hole := least_le hout
    obtain ⟨p, hp⟩ : ∃ p, p = max r (othersMax ys j) := ⟨_, rfl⟩
    rw [← hp] at hlp
    obtain ⟨hp1, hp2⟩ := hlp
    have HP := Lib.hid hp
    have HV := Lib.hid hv
    have HR := Lib.hid hr
    have HO := Lib.hid hout
    have HS := Lib.hid hS
    have HI := Lib.hid hI
    have hoo : ((out : Int) != (out : Int)) = false := by simp
    clear hp hv hr hout hS hI hw hwb
    go_wp2_with fail
    refine (HI.out _ _ _ hrd).mono ?_
    rintro e w2 ⟨rfl, b2⟩
    go_wp2_with fail
    refine (HS.out _ _ _ (hrd.below b2)).mono ?_
    rintro e w3 ⟨rfl, b3⟩
    have B3 := (B1.trans (b2.mono B1.size)).trans (b3.mono (Nat.le_trans B1.size b2.size))
    have r3 := (hrd.below b2).below b3
    clear HS HI b2 b3 B1 hrd
    go_wp2_with fail
    go_loopw [10] (fun t wr => ∃ k : Nat, k ≤ 31 ∧ t = .int .i64 k ∧ Below w3.heap.size w3 wr)
      (fun t _ => 31 - (intOf t).toNat)
    case atStart => exact ⟨0, by decide, rfl, Below.refl _ _⟩
    case round =>
      obtain ⟨k, hk, rfl, hb⟩ := hrel
      by_cases hlt : k ≤ 30
      · have hb0 := (Below.refl wr.heap.size wr).alloc (Nat.le_refl _) (.cells #[] 3)
        have r4 := (r3.below hb).below hb0
        obtain ⟨zs, hZ⟩ : ∃ zs, zs = ys.set j k := ⟨_, rfl⟩
        obtain ⟨a, hA⟩ : ∃ a, a = atOf zs r := ⟨_, rfl⟩
        obtain ⟨P, hP⟩ : ∃ P, P = payOf 2 zs r := ⟨_, rfl⟩
        have hzv : vB zs = true := by rw [hZ]; exact vB_set HV.out (by omega) (by omega)
        have hzl : zs.length = ys.length := by rw [hZ, List.length_set]
        obtain ⟨x, hx⟩ := at_some hj
        obtain ⟨q, hq⟩ := at_some (xs := P) (k := j) (by rw [hP, payOf_len, hzl]; exact hj)
        have HX := Lib.hid hx
        have HA := Lib.hid hA
        have HP' := Lib.hid hP
        have HZV := Lib.hid hzv
        have HZL := Lib.hid hzl
        have HZ := Lib.hid hZ
        have HQ := Lib.hid hq
        by_cases hko : out ≤ k
        · have haj : a = (j : Int) := by rw [hA, hZ]; exact least_win hj HO.out hko
          have hqp : q = p := by
            have := pay_second (xs := zs) (r := r) (by rw [hzl]; exact hj) (by rw [← hA]; exact haj)
            rw [← hP, hq, hZ, others_set, ← HP.out] at this
            exact Option.some.inj this
          subst hqp
          have haj2 : (a == (j : Int)) = true := by simpa using haj
          have hdk : decide ((out : Int) ≤ (k : Int)) = true := by simp; omega
          clear hZ hA hP hzv hzl hx hq haj
          go_wp2_with (first
            | (at_builtin; refine wpList_clone rfl _ _ rfl wr.heap.size wr.heap.size rfl (own_empty wr) _ _ ys rfl r4 hy2 hb0.size ?_; intro g5 c5 w5 o5 b5; have hc5 := o5.cell HX.out; have hf5 := o5.free j; have o6 := o5.set_ j k)
            | (go_at_call 16; refine (SaleBy_is _ 2 _ _ zs r _ HZL.out HA.out HP'.out (.inr (.inl ⟨rfl, rfl⟩)) (by rw [HZ.out]; exact o6.rd) HZV.out HR.out).mono ?_; rintro e w7 ⟨g7, c7, rfl, o7, b7⟩; have hc7 := o7.cell HQ.out))
          go_roundw
          case rel => exact ⟨k + 1, by omega, by go_num, (hb.trans ((hb0.trans b5).setCell o5.ge _ |>.mono hb.size)).trans (b7.mono (Nat.le_trans hb.size (Nat.le_trans hb0.size (by simpa using b5.size))))⟩
          case measure => simp [intOf]; omega
        · have haj : a ≠ (j : Int) := by rw [hA, hZ]; exact least_lose HO.out (by omega)
          have haj2 : (a == (j : Int)) = false := by simpa using haj
          have hdk : decide ((out : Int) ≤ (k : Int)) = false := by simp; omega
          clear hZ hA hP hzv hzl hx hq haj
          go_wp2_with (first
            | (at_builtin; refine wpList_clone rfl _ _ rfl wr.heap.size wr.heap.size rfl (own_empty wr) _ _ ys rfl r4 hy2 hb0.size ?_; intro g5 c5 w5 o5 b5; have hc5 := o5.cell HX.out; have hf5 := o5.free j; have o6 := o5.set_ j k)
            | (go_at_call 16; refine (SaleBy_is _ 2 _ _ zs r _ HZL.out HA.out HP'.out (.inr (.inl ⟨rfl, rfl⟩)) (by rw [HZ.out]; exact o6.rd) HZV.out HR.out).mono ?_; rintro e w7 ⟨g7, c7, rfl, o7, b7⟩; have hc7 := o7.cell HQ.out))
          go_roundw
          case rel => exact ⟨k + 1, by omega, by go_num, (hb.trans ((hb0.trans b5).setCell o5.ge _ |>.mono hb.size)).trans (b7.mono (Nat.le_trans hb.size (Nat.le_trans hb0.size (by simpa using b5.size))))⟩
          case measure => simp [intOf]; omega
      · obtain rfl : k = 31 := by omega
        go_wp2
        go_ret
        exact ⟨rfl, B3.trans (hb.mono B3.size)⟩
  · have HS := Lib.hid hS
    have HI := Lib.hid hI
    clear hS hI
    go_wp2_with fail
    refine (HI.out _ _ _ hrd).mono ?_
    rintro e w2 ⟨rfl, b2⟩
    go_wp2_with fail
    refine (HS.out _ _ _ (hrd.below b2)).mono ?_
    rintro e w3 ⟨rfl, b3⟩
    have B3 := (B1.trans (b2.mono B1.size)).trans (b3.mono (Nat.le_trans B1.size b2.size))
    go_wp2
    go_ret
    exact ⟨rfl, B3⟩

end Go.Proofs.Ytcbhjcbbjegmiaa
