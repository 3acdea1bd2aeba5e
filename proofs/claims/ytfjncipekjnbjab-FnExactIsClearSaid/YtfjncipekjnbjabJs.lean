/-
  Chapter 6: what stays in demand, by the model: KeepsDemand.
-/
import Derived.Test.YtfjncipekjnbjabJe
namespace Go.Proofs.Ytfjncipekjnbjab
open Go.RowKit

/-- All of the things of s that are in m are in y. -/
def covB (m : Nat) (s y : Int) : Bool := ((s.toNat &&& m) - (s.toNat &&& m &&& y.toNat)) == 0
def anyTo (m : Nat) (s : Int) (L : List Int) (k : Nat) : Bool := (L.take k).any (covB m s)
def allTo (m : Nat) (L O : List Int) (k : Nat) : Bool := (O.take k).all (fun s => L.any (covB m s))
theorem anyTo_zero (m : Nat) (s : Int) (L : List Int) : anyTo m s L 0 = false := by simp [anyTo]
theorem anyTo_step {m : Nat} {s y : Int} {L : List Int} {k : Nat} (h : L[k]? = some y) : anyTo m s L (k + 1) = (anyTo m s L k || covB m s y) := by
  unfold anyTo; rw [List.take_add_one, h, List.any_append]; simp
theorem anyTo_all (m : Nat) (s : Int) (L : List Int) : anyTo m s L L.length = L.any (covB m s) := by unfold anyTo; rw [List.take_length]
theorem allTo_zero (m : Nat) (L O : List Int) : allTo m L O 0 = true := by simp [allTo]
theorem allTo_step {m : Nat} {s : Int} {L O : List Int} {k : Nat} (h : O[k]? = some s) : allTo m L O (k + 1) = (allTo m L O k && L.any (covB m s)) := by
  unfold allTo; rw [List.take_add_one, h, List.all_append]; simp
theorem allTo_no {m : Nat} {s : Int} {L O : List Int} {k : Nat} (h : O[k]? = some s) (hn : L.any (covB m s) = false) : allTo m L O O.length = false := by
  unfold allTo; rw [List.take_length, List.all_eq_false]
  exact ⟨s, List.mem_of_getElem? h, by simp [hn]⟩
/-- That is what is kept. -/
theorem kd_all {t p q : List Int} : allTo (sm p q) (dm t q) (dm t p) (dm t p).length = true ↔ Kd t p q := by
  unfold allTo
  rw [List.take_length, List.all_eq_true]
  constructor
  · intro h s hs hd
    have := h (s : Int) (dm_mem.2 ⟨s, rfl, hs, hd⟩)
    rw [List.any_eq_true] at this
    obtain ⟨y, hy, hc⟩ := this
    obtain ⟨x, rfl, hx, hxd⟩ := dm_mem.1 hy
    exact ⟨x, hx, hxd, by simpa [covB] using hc⟩
  · intro h y hy
    obtain ⟨s, rfl, hs, hd⟩ := dm_mem.1 hy
    obtain ⟨x, hx, hxd, hc⟩ := h s hs hd
    rw [List.any_eq_true]
    exact ⟨(x : Int), dm_mem.2 ⟨x, rfl, hx, hxd⟩, by simp [covB, hc]⟩
theorem dm_at {t p : List Int} {k : Nat} {x : Int} (h : (dm t p)[k]? = some x) : ∃ s : Nat, x = (s : Int) ∧ s < 8 := by
  obtain ⟨s, h1, h2, _⟩ := dm_mem.1 (List.mem_of_getElem? h)
  exact ⟨s, h1, h2⟩
theorem cov_bits {s m y : Nat} (hs : s < 8) (hm : m < 8) (hy : y < 8) : bits .and .i64 (s : Int) (m : Int) = ((s &&& m : Nat) : Int) ∧ bits .andNot .i64 ((s &&& m : Nat) : Int) (y : Int) = (((s &&& m) - (s &&& m &&& y) : Nat) : Int) :=
  ⟨and_nat hs hm, andNot_nat (Nat.lt_of_le_of_lt Nat.and_le_left hs) hy⟩
theorem covB_eq (m s y : Nat) : covB m (s : Int) (y : Int) = (((((s &&& m) - (s &&& m &&& y) : Nat) : Int)) == 0) := by
  unfold covB
  simp only [Int.toNat_natCast]
  rw [Bool.eq_iff_iff]
  simp
/-- None of the first k prices is less. -/
def UpTo (p q : List Int) (k : Nat) : Prop := ∀ i, i < k → T p i ≤ T q i
theorem UpTo.zero (p q : List Int) : UpTo p q 0 := fun i h => absurd h (by omega)
theorem UpTo.next {p q : List Int} {k : Nat} (h : UpTo p q k) (hk : T p k ≤ T q k) : UpTo p q (k + 1) := fun i hi => by
  rcases Nat.lt_or_ge i k with h1 | h1
  · exact h i h1
  · rw [show i = k by omega]; exact hk
theorem smTo_yes {p q : List Int} {k : Nat} (h : T p k = T q k) : smTo p q (k + 1) = smTo p q k + 2 ^ k := by simp [smTo, h]
theorem smTo_no {p q : List Int} {k : Nat} (h : ¬ T p k = T q k) : smTo p q (k + 1) = smTo p q k := by simp [smTo, h]

set_option maxRecDepth 100000 in
set_option maxHeartbeats 1600000 in
theorem SKeepsDemand_yes (A B C : Option Addr) (c d f : Nat) (t p q : List Int) (w : World) (h : Rd w A c t) (g : Rd w B d p) (r : Rd w C f q) (hv : VT t) (hp : VP p) (hq : VP q) :
    Calls Try.prog 49 #[.slice A t.length c, .slice B p.length d, .slice C q.length f] w fun e w' => e = .returned (.bool (kdB t p q)) ∧ Below w.heap.size w w' := by
  have HV := Lib.hid (SvalidTable_any A c t w h (by rw [hv.1]; omega))
  have HP := Lib.hid (fun w1 (g : Rd w1 B d p) => SvalidPrices_any B d p w1 g (by rw [hp.1]; omega))
  have HQ := Lib.hid (fun w1 (g : Rd w1 C f q) => SvalidPrices_any C f q w1 g (by rw [hq.1]; omega))
  rw [vt_true hv] at HV
  rw [vp_true hp] at HP
  rw [vp_true hq] at HQ
  have HD1 := Lib.hid (fun w1 (h : Rd w1 A c t) (g : Rd w1 B d p) => Sdemand_any A B c d t p w1 h g hv hp)
  have HD2 := Lib.hid (fun w1 (h : Rd w1 A c t) (g : Rd w1 C f q) => Sdemand_any A C c f t q w1 h g hv hq)
  have h3 := hp.1
  have q3 := hq.1
  have HNU := Lib.hid (fun (k : Nat) (hk : k < 3) (hn : T q k < T p k) => kdB_false (t := t) (p := p) (q := q) (fun hh => by have := hh.2.2.2.1 k hk; omega))
  have HYE := Lib.hid (fun (hu : UpTo p q 3) (ha : allTo (sm p q) (dm t q) (dm t p) (dm t p).length = true) => kdB_true (t := t) (p := p) (q := q) ⟨hv, hp, hq, hu, kd_all.1 ha⟩)
  have HNO := Lib.hid (fun (ha : allTo (sm p q) (dm t q) (dm t p) (dm t p).length = false) => kdB_false (t := t) (p := p) (q := q) (fun hh => by rw [kd_all.2 hh.2.2.2.2] at ha; cases ha))
  have HSM := Lib.hid (fun k (hk : k ≤ 3) => smTo_lt p q k)
  rw [hv.1] at HV HD1 HD2 ⊢
  rw [h3] at HP HD1 ⊢
  rw [q3] at HQ HD2 ⊢
  clear hv hp hq
  go_enter Try.func49, Try.ntmps49
  go_wp2_with fail
  refine HV.out.mono ?_
  rintro e w1 ⟨rfl, n1, rfl⟩
  go_wp2_with fail
  refine (HP.out _ (g.drewN _)).mono ?_
  rintro e w1 ⟨rfl, n2, rfl⟩
  go_wp2_with fail
  refine (HQ.out _ (r.drewN _)).mono ?_
  rintro e w1 ⟨rfl, n3, rfl⟩
  go_wp2_with fail
  clear HV HP HQ
  obtain ⟨n0, hn0⟩ : ∃ n0, n0 = n1 + n2 + n3 := ⟨_, rfl⟩
  rw [← hn0]
  clear hn0
  go_loopw [7, 8] (fun sv jv wr => ∃ k n : Nat, k ≤ 3 ∧ sv = .int .i64 ((smTo p q k : Nat) : Int) ∧ jv = .int .i64 (k : Int) ∧ wr = w.drewN n ∧ Hid (UpTo p q k)) (fun _ jv _ => 3 - (intOf jv).toNat)
  case atStart => exact ⟨0, n0, by omega, rfl, rfl, rfl, Lib.hid (UpTo.zero p q)⟩
  case round =>
    obtain ⟨k, n, hk, rfl, rfl, rfl, HU⟩ := hrel
    by_cases hlt : k < 3
    · obtain ⟨b1, off1, x, rfl, _, hx, hcx⟩ := g.at_ (k := k) (by omega)
      obtain ⟨b2, off2, y, rfl, _, hy, hcy⟩ := r.at_ (k := k) (by omega)
      have hTx := T_of hx.out
      have hTy := T_of hy.out
      have hk3 : (k : Int) < 3 := by omega
      have hk0 : (0 : Int) ≤ (k : Int) := by omega
      have hk1 : k + 1 ≤ 3 := hlt
      have HN1 := Lib.hid (fun (hh : y < x) => HNU.out k hlt (by rw [hTx, hTy]; exact hh))
      have HU1 := Lib.hid (fun (hh : ¬ y < x) => HU.out.next (by rw [hTx, hTy]; omega))
      have HS1 := Lib.hid (fun (hh : y = x) => smTo_yes (p := p) (q := q) (k := k) (by rw [hTx, hTy, hh]))
      have HS2 := Lib.hid (fun (hh : ¬ y = x) => smTo_no (p := p) (q := q) (k := k) (by rw [hTx, hTy]; exact fun e => hh e.symm))
      have hsm := HSM.out k (by omega)
      have hpw : 2 ^ k ≤ 4 := by rcases nat3 hlt with rfl | rfl | rfl <;> decide
      have HPW := Lib.hid (fun w1 => Spower_any k (by omega) w1)
      obtain ⟨S, hS⟩ : ∃ S, S = smTo p q k := ⟨_, rfl⟩
      obtain ⟨P, hP⟩ : ∃ P, P = 2 ^ k := ⟨_, rfl⟩
      rw [← hS] at HS1 HS2 hsm ⊢
      rw [← hP] at HS1 hsm hpw HPW
      have hS8 : S < 4 := by omega
      clear hS hP hx hy hTx hTy hlt HU hsm
      by_cases h1 : y < x
      · have HE := Lib.hid (HN1.out h1)
        clear HN1 HU1 HS1 HS2 HPW
        go_wp2_with fail
        go_quiet (fail)
        go_wp2
        go_ret
        exact ⟨by rw [HE.out]; rfl, by repeat (first | exact Below.refl _ _ | refine below_drewN' ?_ _)⟩
      · have HU' := Lib.hid (HU1.out h1)
        by_cases h2 : y = x
        · have HS' := Lib.hid (HS1.out h2)
          have hq2 : (y == x) = true := by simp [h2]
          have ew : IntKind.i64.wrap ((S : Int) + (P : Int)) = ((S + P : Nat) : Int) := by rw [IntWalk.i64_in _ (by omega)]; omega
          clear HN1 HU1 HS1 HS2 h2
          go_wp2_with fail
          go_quiet (fail)
          go_wp2_with fail
          go_quiet (fail)
          go_wp2_with fail
          refine (HPW.out _).mono ?_
          rintro e w5 ⟨rfl, rfl⟩
          go_wp2
          go_roundw
          case rel => exact ⟨k + 1, _, hk1, by rw [HS'.out]; go_num, by go_num, rfl, HU'⟩
          case measure => simp [intOf]; omega
        · have HS' := Lib.hid (HS2.out h2)
          have hq2 : (y == x) = false := by simp [h2]
          clear HN1 HU1 HS1 HS2 h2 HPW
          go_wp2_with fail
          go_quiet (fail)
          go_wp2_with fail
          go_quiet (fail)
          go_wp2
          go_roundw
          case rel => exact ⟨k + 1, _, hk1, by rw [HS'.out], by go_num, rfl, HU'⟩
          case measure => simp [intOf]; omega
    · obtain rfl : k = 3 := by omega
      have HYE' := Lib.hid (fun ha => HYE.out HU.out ha)
      have hM8 : smTo p q 3 < 8 := smTo_lt p q 3
      have HL8 := Lib.hid (fun (k : Nat) (x : Int) (h : (dm t q)[k]? = some x) => dm_at h)
      have HO8 := Lib.hid (fun (k : Nat) (x : Int) (h : (dm t p)[k]? = some x) => dm_at h)
      have hol := dm_len t p
      have hll := dm_len t q
      have HNO' : Hid (allTo (smTo p q 3) (dm t q) (dm t p) (dm t p).length = false → kdB t p q = false) := HNO
      have HYE2 : Hid (allTo (smTo p q 3) (dm t q) (dm t p) (dm t p).length = true → kdB t p q = true) := HYE'
      obtain ⟨M, hM⟩ : ∃ M, M = smTo p q 3 := ⟨_, rfl⟩
      rw [← hM] at HNO' HYE2 hM8 ⊢
      obtain ⟨O, hO⟩ : ∃ O, O = dm t p := ⟨_, rfl⟩
      obtain ⟨L, hL⟩ : ∃ L, L = dm t q := ⟨_, rfl⟩
      rw [← hO] at HNO' HYE2 HO8 HD1 hol
      rw [← hL] at HNO' HYE2 HL8 HD2 hll
      clear hM hO hL HYE HYE' HNO HNU HSM HU
      go_wp2_with fail
      refine (HD1.out _ (h.drewN n) (g.drewN n)).mono ?_
      rintro e w5 ⟨A5, c5, rfl, o5, b5⟩
      go_wp2_with fail
      refine (HD2.out _ ((h.drewN n).below b5) ((r.drewN n).below b5)).mono ?_
      rintro e w6 ⟨A6, c6, rfl, o6, b6⟩
      have BM := below_then (below_then (below_drewN' (Below.refl _ w) n) b5) b6
      have RO := Lib.hid ((o5.below b6).rd)
      have RL := Lib.hid o6.rd
      clear HD1 HD2 o5 o6 b5 b6 h g r
      go_wp2_with fail
      go_loopw [11] (fun iv wr => ∃ a n : Nat, a ≤ O.length ∧ iv = .int .i64 (a : Int) ∧ wr = w6.drewN n ∧ Hid (allTo M L O a = true)) (fun iv _ => O.length - (intOf iv).toNat)
      case atStart => exact ⟨0, 0, by omega, rfl, rfl, Lib.hid (allTo_zero M L O)⟩
      case round =>
        obtain ⟨a, n4, ha, rfl, rfl, HA⟩ := hrel
        by_cases hlt : a < O.length
        · obtain ⟨b1, off1, x, rfl, _, hx, hcx⟩ := RO.out.at_ hlt
          obtain ⟨s, rfl, hs8⟩ := HO8.out a x hx.out
          have ha1 : a + 1 ≤ O.length := hlt
          have HST := Lib.hid (allTo_step (m := M) (L := L) hx.out)
          have HNX := Lib.hid (fun hn => HNO'.out (allTo_no (m := M) (L := L) hx.out hn))
          have hlt' : (a : Int) < (O.length : Int) := by omega
          clear hx hlt
          go_wp2_with fail
          go_loopw [12, 13] (fun fv iv wr => ∃ b n : Nat, b ≤ L.length ∧ fv = .bool (anyTo M (s : Int) L b) ∧ iv = .int .i64 (b : Int) ∧ wr = w6.drewN n) (fun _ iv _ => L.length - (intOf iv).toNat)
          case atStart => exact ⟨0, n4, by omega, by rw [anyTo_zero], rfl, rfl⟩
          case round =>
            obtain ⟨b, n5, hb, rfl, rfl, rfl⟩ := hrel
            by_cases hlt : b < L.length
            · obtain ⟨b2, off2, y, rfl, _, hy, hcy⟩ := RL.out.at_ hlt
              obtain ⟨z, rfl, hz8⟩ := HL8.out b y hy.out
              have hb1 : b + 1 ≤ L.length := hlt
              have hbl : (b : Int) < (L.length : Int) := by omega
              obtain ⟨e1, e2⟩ := cov_bits hs8 hM8 hz8
              have HAN := Lib.hid (anyTo_step (m := M) (s := (s : Int)) hy.out)
              have hce := covB_eq M s z
              clear hy hlt
              rcases hF : anyTo M (s : Int) L b with _ | _
              · have HAN' : Hid (anyTo M (s : Int) L (b + 1) = ((((s &&& M) - (s &&& M &&& z) : Nat) : Int) == 0)) := Lib.hid (by rw [HAN.out, hF, hce]; rfl)
                obtain ⟨X, hX⟩ : ∃ X, X = s &&& M := ⟨_, rfl⟩
                rw [← hX] at e1 e2 HAN'
                obtain ⟨Y, hY⟩ : ∃ Y, Y = X - (X &&& z) := ⟨_, rfl⟩
                rw [← hY] at e2 HAN'
                clear hX hY hF hce HAN
                go_wp2_with fail
                go_quiet (fail)
                go_wp2
                go_roundw
                case rel => exact ⟨b + 1, _, hb1, by rw [HAN'.out], by go_num, rfl⟩
                case measure => simp [intOf]; omega
              · have HAN' : Hid (anyTo M (s : Int) L (b + 1) = true) := Lib.hid (by rw [HAN.out, hF]; rfl)
                clear hF hce HAN
                go_wp2_with fail
                go_quiet (fail)
                go_wp2
                go_roundw
                case rel => exact ⟨b + 1, _, hb1, by rw [HAN'.out], by go_num, rfl⟩
                case measure => simp [intOf]; omega
            · obtain rfl : b = L.length := by omega
              rcases hF : anyTo M (s : Int) L L.length with _ | _
              · have HE := Lib.hid (HNX.out (by rw [← anyTo_all]; exact hF))
                clear hF
                go_wp2
                go_ret
                exact ⟨by rw [HE.out]; rfl, by repeat (first | exact BM | refine below_drewN' ?_ _)⟩
              · have HE : Hid (allTo M L O (a + 1) = true) := Lib.hid (by rw [HST.out, HA.out, ← anyTo_all, hF]; rfl)
                clear hF
                go_wp2
                go_roundw
                case rel => exact ⟨a + 1, _, ha1, by go_num, rfl, HE⟩
                case measure => simp [intOf]; omega
        · obtain rfl : a = O.length := by omega
          have HE := Lib.hid (HYE2.out HA.out)
          go_wp2
          go_ret
          exact ⟨by rw [HE.out]; rfl, below_drewN' BM n4⟩

end Go.Proofs.Ytfjncipekjnbjab
