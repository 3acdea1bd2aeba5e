/-
  Chapter 6: what is in demand, by the model.
-/
import Derived.Test.YtccbjgajmjcpjabG27
import Derived.Test.YtccbjgajmjcpjabG29
namespace Go.Proofs.Ytccbjgajmjcpjab
open Go.RowKit

/-- What a call hands back: a slice in a block of its own, or none, that holds zs; what was there is as it was. -/
def OwnIs (w : World) (zs : List Int) (e : Ending) (w' : World) : Prop := ∃ A c, e = .returned (.slice A zs.length c) ∧ Own w' w.heap.size A c zs ∧ Below w.heap.size w w'

theorem calls_l {P : Program} {f : FuncId} {args : Array Value} {w : World} {n : Nat} {v : Value} (h : Calls P f args (w.drewN n) fun e w' => e = .returned v ∧ ∃ k, w' = (w.drewN n).drewN k) :
    Calls P f args (w.drewN n) fun e w'' => e = .returned v ∧ ∃ k, w'' = w.drewN k := h.mono fun _ _ ⟨he, k, hw⟩ => ⟨he, n + k, by rw [hw, World.drewN_drewN]⟩

end Go.Proofs.Ytccbjgajmjcpjab

/-
  Chapter 6: the program's prices: arePrices, isPriced, leftAt.
-/
namespace Go.Proofs.Ytccbjgajmjcpjab
open Go.RowKit

theorem isPrice_any (n : Int) (w : World) :
    Calls Try.prog 121 #[.int .i64 n] w fun e w' => e = .returned (.bool (inR n 0 40)) ∧ w = w' := by
  by_cases h1 : 0 ≤ n
  · by_cases h2 : n ≤ 40
    · have HE := Lib.hid (inR_true.2 ⟨h1, h2⟩)
      go_enter Try.func121, Try.ntmps121
      go_wp2
      go_ret
      exact ⟨by rw [HE.out]; rfl, rfl⟩
    · have HE := Lib.hid (inR_false.2 (fun h : 0 ≤ n ∧ n ≤ 40 => h2 h.2))
      go_enter Try.func121, Try.ntmps121
      go_wp2
      go_ret
      exact ⟨by rw [HE.out]; rfl, rfl⟩
  · have HE := Lib.hid (inR_false.2 (fun h : 0 ≤ n ∧ n ≤ 40 => h1 h.1))
    go_enter Try.func121, Try.ntmps121
    go_wp2
    go_ret
    exact ⟨by rw [HE.out]; rfl, rfl⟩

theorem vp_all {p : List Int} (h : p.all (fun x => inR x 0 40) = true) (h3 : p.length = 3) : vp p = true := vp_of (fun i hi => by
  have hm : T p i ∈ p := by unfold T; rw [List.getD_eq_getElem?_getD, List.getElem?_eq_getElem hi]; exact List.getElem_mem hi
  exact inR_true.1 (List.all_eq_true.1 h _ hm)) h3
theorem vp_bad {p : List Int} {k : Nat} {x : Int} (hx : p[k]? = some x) (hb : inR x 0 40 = false) : vp p = false := vp_false (fun hv => by
  have hk : k < p.length := by rcases Nat.lt_or_ge k p.length with h1 | h1; exact h1; rw [List.getElem?_eq_none h1] at hx; cases hx
  have := hv.2 k (by have := hv.1; omega)
  rw [T_of hx] at this
  rw [inR_true.2 this] at hb
  cases hb)

set_option maxHeartbeats 400000 in
theorem areNums_any (A : Option Addr) (c : Nat) (xs : List Int) (w : World) (h : Rd w A c xs) (h3 : xs.length = 3) :
    Calls Try.prog 93 #[.slice A 3 c, .int .i64 3, .func (.func 121) #[] #[]] w fun e w' => e = .returned (.bool (vp xs)) ∧ w = w' := by
  have HV := Lib.hid (fun (h : xs.all (fun x => inR x 0 40) = true) => vp_all h h3)
  go_enter Try.func93, Try.ntmps93
  go_wp2
  go_loop [20] (fun i => ∃ k : Nat, k ≤ 3 ∧ i = .int .i64 k ∧ Hid ((xs.take k).all (fun x => inR x 0 40) = true)) (fun i => 3 - (intOf i).toNat)
  case atStart => exact ⟨0, Nat.zero_le _, rfl, Lib.hid rfl⟩
  case round =>
    obtain ⟨k, hk, rfl, HT⟩ := hrel
    by_cases hlt : k < 3
    · obtain ⟨b, off, x, rfl, _, hx, hc⟩ := h.at_ (k := k) (by omega)
      go_wp2_with fail
      refine (isPrice_any _ _).mono ?_
      rintro e w' ⟨rfl, rfl⟩
      cases hb : inR x 0 40 with
      | true =>
        have HT' := Lib.hid (all_step hx.out hb HT.out)
        clear hb
        go_wp2
        go_round
        case rel => exact ⟨k + 1, by omega, by go_num, HT'⟩
        case measure => simp [intOf]; omega
      | false =>
        have HE := Lib.hid (vp_bad hx.out hb)
        clear hb
        go_wp2
        go_ret
        exact ⟨by rw [HE.out]; rfl, rfl⟩
    · obtain rfl : k = 3 := by omega
      have HE := Lib.hid (HV.out (by have := HT.out; rwa [List.take_of_length_le (by omega)] at this))
      go_wp2
      go_ret
      exact ⟨by rw [HE.out]; rfl, rfl⟩

theorem arePrices_any (A : Option Addr) (c : Nat) (xs : List Int) (w : World) (h : Rd w A c xs) :
    Calls Try.prog 82 #[.slice A xs.length c] w fun e w' => e = .returned (.bool (vp xs)) ∧ w = w' := by
  by_cases h3 : xs.length = 3
  · have HC := Lib.hid (areNums_any A c xs w h h3)
    rw [h3]
    go_enter Try.func82, Try.ntmps82
    go_wp2_with (go_at_call 93; refine HC.out.mono ?_; rintro e w' ⟨rfl, rfl⟩)
    go_ret
    exact ⟨rfl, rfl⟩
  · have HE := Lib.hid (vp_len h3)
    have h3' : ¬ (xs.length : Int) = 3 := by omega
    go_enter Try.func82, Try.ntmps82
    go_wp2
    go_ret
    exact ⟨by rw [HE.out]; rfl, rfl⟩

theorem isPriced_any (A B : Option Addr) (c d : Nat) (t p : List Int) (w : World) (h : Rd w A c t) (g : Rd w B d p) (hl : t.length ≤ 1099511627776) :
    Calls Try.prog 91 #[.slice A t.length c, .slice B p.length d] w fun e w' => e = .returned (.bool (vt t && vp p)) ∧ Below w.heap.size w w' := by
  have HV := Lib.hid (ValidTable_any A c t w h hl)
  have HQ := Lib.hid (fun w1 (g : Rd w1 B d p) => arePrices_any B d p w1 g)
  rcases hv : vt t with _ | _
  · rw [hv] at HV
    clear hv
    go_enter Try.func91, Try.ntmps91
    go_wp2_with (go_at_call 103; refine HV.out.mono ?_; rintro e w1 ⟨rfl, hb⟩)
    go_ret
    exact ⟨rfl, hb⟩
  · rw [hv] at HV
    clear hv
    go_enter Try.func91, Try.ntmps91
    go_wp2_with (first | (go_at_call 103; refine HV.out.mono ?_; rintro e w1 ⟨rfl, hb⟩) | (go_at_call 82; refine (HQ.out _ (g.below hb)).mono ?_; rintro e w1 ⟨rfl, rfl⟩))
    go_ret
    exact ⟨by simp, hb⟩

/-- What the first i things of a set cost. -/
def prTh (p : List Int) (s i : Nat) : Int := ((th s).take i).foldl (fun m j => m + T p j.toNat) 0
theorem prTh_zero (p : List Int) (s : Nat) : prTh p s 0 = 0 := by simp [prTh]
theorem prTh_step (p : List Int) {s i j : Nat} (h : (th s)[i]? = some (j : Int)) : prTh p s (i + 1) = prTh p s i + T p j := by
  unfold prTh
  rw [List.take_add_one, h, List.foldl_append]
  simp
theorem prTh_all (p : List Int) {s : Nat} (hs : s < 8) : prTh p s (th s).length = pr p s := by
  unfold prTh
  rw [List.take_length]
  have v := pr_vals p
  rcases nat8 hs with rfl | rfl | rfl | rfl | rfl | rfl | rfl | rfl <;> simp [th, thTo] <;> omega
theorem prTh_bd {p : List Int} (hp : VP p) {s : Nat} : ∀ i, i ≤ 3 → 0 ≤ prTh p s i ∧ prTh p s i ≤ 40 * i := by
  intro i
  induction i with
  | zero => intro _; rw [prTh_zero]; omega
  | succ i ih =>
    intro hi
    have h1 := ih (by omega)
    rcases hx : (th s)[i]? with _ | x
    · unfold prTh at h1 ⊢
      rw [List.take_add_one, hx]
      simp only [Option.toList_none, List.append_nil]
      omega
    · obtain ⟨j, rfl, hj, _⟩ := th_at hx
      rw [prTh_step p hx]
      have := hp.2 j hj
      omega
/-- Where leftAt stands: the sets ahead of s are done, and of s the first i things. -/
def lfS (t p : List Int) (s i : Nat) : List Int := (List.range 8).map (fun x => if x < s then lf t p x else if x = s then T t x - prTh p s i else T t x)
theorem lfS_len (t p : List Int) (s i : Nat) : (lfS t p s i).length = 8 := by simp [lfS]
theorem lfS_at (t p : List Int) (s i : Nat) {x : Nat} (hx : x < 8) : T (lfS t p s i) x = if x < s then lf t p x else if x = s then T t x - prTh p s i else T t x := by
  apply T_of
  simp [lfS, hx]
theorem ext8 {l m : List Int} (hl : l.length = 8) (hm : m.length = 8) (h : ∀ x, x < 8 → T l x = T m x) : l = m := by
  apply List.ext_getElem (by omega)
  intro i h1 h2
  have := h i (by omega)
  rw [T_of (List.getElem?_eq_getElem h1), T_of (List.getElem?_eq_getElem h2)] at this
  exact this
theorem lfS_start {t p : List Int} (hl : t.length = 8) : lfS t p 0 0 = t := ext8 (lfS_len _ _ _ _) hl (fun x hx => by
  rw [lfS_at _ _ _ _ hx, if_neg (by omega), prTh_zero]
  split <;> omega)
theorem lfS_step {t p : List Int} {s i : Nat} (hs : s < 8) : lfS t p s (i + 1) = (lfS t p s i).set s (T t s - prTh p s (i + 1)) := ext8 (lfS_len _ _ _ _) (by rw [List.length_set]; exact lfS_len _ _ _ _) (fun x hx => by
  rw [T_set (by rw [lfS_len]; exact hs), lfS_at _ _ _ _ hx, lfS_at _ _ _ _ hx]
  by_cases h1 : x < s
  · rw [if_pos h1, if_neg (by omega), if_pos h1]
  · rw [if_neg h1]
    by_cases h2 : x = s
    · rw [if_pos h2, if_pos h2.symm, h2]
    · rw [if_neg h2, if_neg (fun h => h2 h.symm), if_neg h1, if_neg h2])
theorem lfS_row {t p : List Int} {s : Nat} (hs : s < 8) : lfS t p s (th s).length = lfS t p (s + 1) 0 := ext8 (lfS_len _ _ _ _) (lfS_len _ _ _ _) (fun x hx => by
  rw [lfS_at _ _ _ _ hx, lfS_at _ _ _ _ hx, prTh_all p hs, prTh_zero]
  by_cases h1 : x < s
  · rw [if_pos h1, if_pos (by omega)]
  · rw [if_neg h1]
    by_cases h2 : x = s
    · rw [if_pos h2, if_pos (by omega), h2]; rfl
    · rw [if_neg h2, if_neg (by omega)]; split <;> omega)
theorem lfS_end {t p : List Int} {x : Nat} (hx : x < 8) : T (lfS t p 8 0) x = lf t p x := by rw [lfS_at _ _ _ _ hx, if_pos hx]
theorem lfS_bd {t p : List Int} (hv : VT t) (hp : VP p) {s i x : Nat} (hx : x < 8) (hi : i ≤ 3) : -120 ≤ T (lfS t p s i) x ∧ T (lfS t p s i) x ≤ 30 := by
  have h1 := lf_bd hv hp hx
  have h2 := hv.bd hx
  have h3 := prTh_bd hp (s := s) i hi
  rw [lfS_at _ _ _ _ hx]
  split
  · exact h1
  · split <;> omega

/-- The value of an array of three prices. -/
def ag3 (p : List Int) : Value := .agg #[.int .i64 (T p 0), .int .i64 (T p 1), .int .i64 (T p 2)]

/-- Block m is a list of three prices. -/
def Pr3 (w : World) (m : Nat) (p : List Int) : Prop := w.heap[m]? = some (.cells #[.int .i64 (T p 0), .int .i64 (T p 1), .int .i64 (T p 2)] 68)
theorem Pr3.cell {w : World} {m : Nat} {p : List Int} (h : Pr3 w m p) {k : Nat} (hk : k < 3) : w.cell? ⟨m, k, none⟩ = some (.int .i64 (T p k)) := by
  unfold World.cell?
  rw [h]
  rcases nat3 hk with rfl | rfl | rfl <;> rfl
theorem Pr3.keep {w w' : World} {m : Nat} {p : List Int} (h : Pr3 w m p) (he : w'.heap[m]? = w.heap[m]?) : Pr3 w' m p := he.trans h
theorem Pr3.lt {w : World} {m : Nat} {p : List Int} (h : Pr3 w m p) : m < w.heap.size := by
  rcases Nat.lt_or_ge m w.heap.size with h1 | h1
  · exact h1
  · unfold Pr3 at h; rw [Array.getElem?_eq_none h1] at h; cases h
theorem Pr3.new (w : World) (p : List Int) : Pr3 (w.alloc (.cells #[.int .i64 (T p 0), .int .i64 (T p 1), .int .i64 (T p 2)] 68)) w.heap.size p := by show (w.heap.push _)[_]? = _; simp
theorem Pr3.other {w : World} {m m' k : Nat} {v : Value} {p : List Int} (h : Pr3 w m p) (hne : m ≠ m') : Pr3 (w.setCell ⟨m', k, none⟩ v) m p := h.keep (Below.heap_setCell w _ v m hne)
theorem Pr3.alloc {w : World} {m : Nat} {p : List Int} (h : Pr3 w m p) (o : Obj) : Pr3 (w.alloc o) m p := h.keep (Below.heap_alloc w o m h.lt)
theorem Rd.other {w : World} {A : Option Addr} {c m k : Nat} {v : Value} {zs : List Int} (h : Rd w A c zs) (hne : ofA A ≠ some m) : Rd (w.setCell ⟨m, k, none⟩ v) A c zs := by
  rcases h with h | ⟨b, off, rfl, hc⟩
  · exact .inl h
  · refine .inr ⟨b, off, rfl, fun j hj => ?_⟩
    rw [← hc j hj]
    unfold World.cell?
    rw [Below.heap_setCell w ⟨m, k, none⟩ v b (fun e => hne (by show some b = some m; rw [e]))]
theorem own_blk {w : World} {B k : Nat} {A : Option Addr} {c : Nat} {xs : List Int} (h : Own w B A c xs) (hk : ofA A = some k) : B ≤ k ∧ k < w.heap.size :=
  World.ownsRow.lt h k (by rw [own_block]; exact hk)
/-- Where leftAt's world stands. -/
def LfAt (w wr : World) (t p : List Int) (s i : Nat) : Prop := Below w.heap.size w wr ∧ Arr wr w.heap.size (lfS t p s i) ∧ Pr3 wr (w.heap.size + 1) p ∧ Arr wr (w.heap.size + 1 + 1) (List.replicate 8 0)
theorem LfAt.below {w wr wx : World} {t p : List Int} {s i : Nat} (h : LfAt w wr t p s i) (hb : Below wr.heap.size wr wx) : LfAt w wx t p s i :=
  ⟨below_then h.1 hb, h.2.1.keep (hb.block _ h.2.1.lt), h.2.2.1.keep (hb.block _ h.2.2.1.lt), h.2.2.2.keep (hb.block _ h.2.2.2.lt)⟩
theorem LfAt.drew {w wr : World} {t p : List Int} {s i : Nat} (h : LfAt w wr t p s i) : LfAt w wr.drew t p s i := ⟨h.1.drew, h.2.1.keep rfl, h.2.2.1.keep rfl, h.2.2.2.keep rfl⟩
theorem LfAt.put {w wr : World} {t p : List Int} {s i : Nat} (h : LfAt w wr t p s i) (hs : s < 8) {v : Int} (hv : v = T t s - prTh p s (i + 1)) : LfAt w (wr.setCell ⟨w.heap.size, s, none⟩ (.int .i64 v)) t p s (i + 1) :=
  ⟨below_al4 h.1, by rw [lfS_step hs, ← hv]; exact h.2.1.set_ v, h.2.2.1.other (by omega), h.2.2.2.other (by omega)⟩
theorem LfAt.row {w wr : World} {t p : List Int} {s : Nat} (h : LfAt w wr t p s (th s).length) (hs : s < 8) : LfAt w wr t p (s + 1) 0 := by
  have := h
  unfold LfAt at this ⊢
  rwa [lfS_row hs] at this

set_option maxRecDepth 100000 in
set_option maxHeartbeats 1600000 in
theorem leftAt_any (t p : List Int) (w : World) (hv : VT t) (hp : VP p) :
    Calls Try.prog 92 #[ag8 (T t), ag3 p] w fun e w' => e = .returned (ag8 (lf t p)) ∧ Below w.heap.size w w' := by
  have HT := Lib.hid (fun (s : Nat) (hs : s < 8) w1 => thingsIn_any s hs w1)
  have HVT := Lib.hid hv
  have HVP := Lib.hid hp
  clear hv hp
  have HS : Hid (LfAt w (((w.alloc (.cells #[.int .i64 (T t 0), .int .i64 (T t 1), .int .i64 (T t 2), .int .i64 (T t 3), .int .i64 (T t 4), .int .i64 (T t 5), .int .i64 (T t 6), .int .i64 (T t 7)] 63)).alloc (.cells #[.int .i64 (T p 0), .int .i64 (T p 1), .int .i64 (T p 2)] 68)).alloc
      (.cells #[.int .i64 0, .int .i64 0, .int .i64 0, .int .i64 0, .int .i64 0, .int .i64 0, .int .i64 0, .int .i64 0] 63)) t p 0 0) := by
    refine Lib.hid ⟨?_, ?_, ?_, ?_⟩
    · exact (((Below.refl _ w).alloc (Nat.le_refl _) _).alloc (by simp) _).alloc (by simp; omega) _
    · rw [lfS_start HVT.out.1]
      have h1 := Arr.new w (lit8 (T t)) rfl
      rw [lit8_T HVT.out.1] at h1
      have h2 : t.map (Value.int .i64) = [.int .i64 (T t 0), .int .i64 (T t 1), .int .i64 (T t 2), .int .i64 (T t 3), .int .i64 (T t 4), .int .i64 (T t 5), .int .i64 (T t 6), .int .i64 (T t 7)] := by
        conv => lhs; rw [← lit8_T HVT.out.1]
        rfl
      rw [h2] at h1
      exact (h1.alloc _).alloc _
    · have h1 := Pr3.new (w.alloc (.cells #[.int .i64 (T t 0), .int .i64 (T t 1), .int .i64 (T t 2), .int .i64 (T t 3), .int .i64 (T t 4), .int .i64 (T t 5), .int .i64 (T t 6), .int .i64 (T t 7)] 63)) p
      simp only [show ∀ (w : World) (o : Obj), (w.alloc o).heap.size = w.heap.size + 1 from fun w o => by simp] at h1
      exact h1.alloc _
    · have h1 := Arr.new ((w.alloc (.cells #[.int .i64 (T t 0), .int .i64 (T t 1), .int .i64 (T t 2), .int .i64 (T t 3), .int .i64 (T t 4), .int .i64 (T t 5), .int .i64 (T t 6), .int .i64 (T t 7)] 63)).alloc (.cells #[.int .i64 (T p 0), .int .i64 (T p 1), .int .i64 (T p 2)] 68)) (List.replicate 8 0) rfl
      simp only [show ∀ (w : World) (o : Obj), (w.alloc o).heap.size = w.heap.size + 1 from fun w o => by simp] at h1
      exact h1
  obtain ⟨F, hF⟩ : ∃ F, F = lf t p := ⟨_, rfl⟩
  have HF := Lib.hid hF
  rw [← hF]
  clear hF
  unfold ag8 ag3
  go_enter Try.func92, Try.ntmps92
  go_wp2
  go_loopw [8] (fun iv wr => ∃ k : Nat, k ≤ 8 ∧ iv = .int .i64 (k : Int) ∧ Hid (LfAt w wr t p k 0)) (fun iv _ => 8 - (intOf iv).toNat)
  case atStart => exact ⟨0, by omega, rfl, HS⟩
  case round =>
    obtain ⟨s, hs, rfl, HA⟩ := hrel
    clear HS
    by_cases hlt : s < 8
    · have hs0 : (0 : Int) ≤ (s : Int) := by omega
      have hs8 : (s : Int) < 8 := by omega
      have hs1 : s + 1 ≤ 8 := hlt
      have hln := th_le s
      have HC := Lib.hid (fun w1 => HT.out s hlt w1)
      have HTA := Lib.hid (fun (i : Nat) (x : Int) (h : (th s)[i]? = some x) => th_at h)
      have HPS := Lib.hid (fun (i j : Nat) (h : (th s)[i]? = some (j : Int)) => prTh_step p h)
      have HROW := Lib.hid (fun (wr : World) (h : LfAt w wr t p s (th s).length) => h.row hlt)
      have HPUT := Lib.hid (fun (wr : World) (i : Nat) (h : LfAt w wr t p s i) (v : Int) (hv : v = T t s - prTh p s (i + 1)) => h.put hlt hv)
      have HBD := Lib.hid (fun (i : Nat) (hi : i ≤ 3) => lfS_bd HVT.out HVP.out (s := s) (i := i) hlt hi)
      have HAT := Lib.hid (fun (i : Nat) => show T (lfS t p s i) s = T t s - prTh p s i by rw [lfS_at _ _ _ _ hlt, if_neg (by omega), if_pos rfl])
      have HCS := Lib.hid (fun (wr : World) (i : Nat) (h : LfAt w wr t p s i) => h.2.1.cell hlt)
      obtain ⟨L, hL⟩ : ∃ L, L = th s := ⟨_, rfl⟩
      rw [← hL] at HC hln HTA HPS HROW
      clear hL hlt
      go_wp2_with (go_at_call 144; refine (HC.out _).mono ?_; rintro e w1 ⟨A1, c1, rfl, o1, b1⟩)
      have HA1 := Lib.hid (HA.out.below b1)
      have HNE : Hid (ofA A1 ≠ some w.heap.size) := Lib.hid (fun e => by have h1 := (own_blk o1 e).1; have h2 := HA.out.2.1.lt; omega)
      have HR1 := Lib.hid o1.rd
      clear o1 b1 HA
      go_loopw [14] (fun iv wr => ∃ k : Nat, k ≤ L.length ∧ iv = .int .i64 (k : Int) ∧ Hid (LfAt w wr t p s k) ∧ Hid (Rd wr A1 c1 L)) (fun iv _ => L.length - (intOf iv).toNat)
      case atStart => exact ⟨0, by omega, rfl, HA1, HR1⟩
      case round =>
        clear HA1 HR1
        obtain ⟨k, hk, rfl, HA, HR⟩ := hrel
        by_cases hlt : k < L.length
        · obtain ⟨b, off, x, rfl, _, hx, hc⟩ := HR.out.at_ hlt
          obtain ⟨j, rfl, hj, _⟩ := HTA.out k x hx.out
          have HAD : Hid (LfAt w wr.drew t p s k) := Lib.hid HA.out.drew
          have HRD : Hid (Rd wr.drew (some ⟨b, off, none⟩) c1 L) := Lib.hid HR.out
          have hcs := HCS.out wr.drew k HAD.out
          have hcp := HAD.out.2.2.1.cell hj
          have hfr := HAD.out.2.1.free s
          have hps := HPS.out k j hx.out
          have hat := HAT.out k
          have hbd := HBD.out k (by omega)
          have hpb := HVP.out.2 j hj
          obtain ⟨y, hy⟩ : ∃ y, y = T p j := ⟨_, rfl⟩
          obtain ⟨v, hv⟩ : ∃ v, v = T (lfS t p s k) s := ⟨_, rfl⟩
          rw [← hy] at hcp hps hpb
          rw [← hv] at hcs hat hbd
          have HP := Lib.hid (HPUT.out wr.drew k HAD.out (v - y) (by omega))
          have HR' : Hid (Rd (wr.drew.setCell ⟨w.heap.size, s, none⟩ (.int .i64 (v - y))) (some ⟨b, off, none⟩) c1 L) := Lib.hid (HRD.out.other HNE.out)
          have ew : IntKind.i64.wrap (v - y) = v - y := IntWalk.i64_in _ (by omega)
          have hj0 : (0 : Int) ≤ (j : Int) := by omega
          have hj3 : (j : Int) < 3 := by omega
          have hk1 : k + 1 ≤ L.length := hlt
          clear hy hv hx hps hat hbd hpb hlt HA HR HAD HRD HPUT HCS HAT
          go_wp2
          go_region
          go_wp2
          go_roundw
          case rel => exact ⟨k + 1, hk1, by go_num, HP, HR'⟩
          case measure => simp [intOf]; omega
        · obtain rfl : k = L.length := by omega
          have HQ := Lib.hid (HROW.out wr HA.out)
          go_wp2
          go_roundw
          case rel => exact ⟨s + 1, hs1, by go_num, HQ⟩
          case measure => simp [intOf]; omega
    · obtain rfl : s = 8 := by omega
      obtain ⟨hb, hbo, _, hr⟩ := HA.out
      obtain ⟨c0, c1, c2, c3, c4, c5, c6, c7⟩ := hbo.all
      obtain ⟨l, hl⟩ : ∃ l, l = lfS t p 8 0 := ⟨_, rfl⟩
      have HLF : Hid (∀ x, x < 8 → T l x = F x) := Lib.hid (fun x hx => by rw [hl, HF.out, lfS_end hx])
      rw [← hl] at c0 c1 c2 c3 c4 c5 c6 c7 hbo
      clear hl
      have f0 := hr.free 0
      have f1 := hr.free 1
      have f2 := hr.free 2
      have f3 := hr.free 3
      have f4 := hr.free 4
      have f5 := hr.free 5
      have f6 := hr.free 6
      have f7 := hr.free 7
      obtain ⟨r0, r1, r2, r3, r4, r5, r6, r7⟩ := hr.all
      have a0 := hr.set_ (k := 0) (T l 0)
      have s0 : (wr.setCell ⟨w.heap.size + 1 + 1, 0, none⟩ (.int .i64 (T l 0))).cell? ⟨w.heap.size + 1 + 1, 0, none⟩ = some (.int .i64 (T l 0)) := hr.got (by omega) _
      have a1 := a0.set_ (k := 1) (T l 1)
      have s1 : ((wr.setCell ⟨w.heap.size + 1 + 1, 0, none⟩ (.int .i64 (T l 0))).setCell ⟨w.heap.size + 1 + 1, 1, none⟩ (.int .i64 (T l 1))).cell? ⟨w.heap.size + 1 + 1, 1, none⟩ = some (.int .i64 (T l 1)) := a0.got (by omega) _
      have a2 := a1.set_ (k := 2) (T l 2)
      have s2 : (((wr.setCell ⟨w.heap.size + 1 + 1, 0, none⟩ (.int .i64 (T l 0))).setCell ⟨w.heap.size + 1 + 1, 1, none⟩ (.int .i64 (T l 1))).setCell ⟨w.heap.size + 1 + 1, 2, none⟩ (.int .i64 (T l 2))).cell? ⟨w.heap.size + 1 + 1, 2, none⟩ = some (.int .i64 (T l 2)) := a1.got (by omega) _
      have a3 := a2.set_ (k := 3) (T l 3)
      have s3 : ((((wr.setCell ⟨w.heap.size + 1 + 1, 0, none⟩ (.int .i64 (T l 0))).setCell ⟨w.heap.size + 1 + 1, 1, none⟩ (.int .i64 (T l 1))).setCell ⟨w.heap.size + 1 + 1, 2, none⟩ (.int .i64 (T l 2))).setCell ⟨w.heap.size + 1 + 1, 3, none⟩ (.int .i64 (T l 3))).cell? ⟨w.heap.size + 1 + 1, 3, none⟩ = some (.int .i64 (T l 3)) := a2.got (by omega) _
      have a4 := a3.set_ (k := 4) (T l 4)
      have s4 : (((((wr.setCell ⟨w.heap.size + 1 + 1, 0, none⟩ (.int .i64 (T l 0))).setCell ⟨w.heap.size + 1 + 1, 1, none⟩ (.int .i64 (T l 1))).setCell ⟨w.heap.size + 1 + 1, 2, none⟩ (.int .i64 (T l 2))).setCell ⟨w.heap.size + 1 + 1, 3, none⟩ (.int .i64 (T l 3))).setCell ⟨w.heap.size + 1 + 1, 4, none⟩ (.int .i64 (T l 4))).cell? ⟨w.heap.size + 1 + 1, 4, none⟩ = some (.int .i64 (T l 4)) := a3.got (by omega) _
      have a5 := a4.set_ (k := 5) (T l 5)
      have s5 : ((((((wr.setCell ⟨w.heap.size + 1 + 1, 0, none⟩ (.int .i64 (T l 0))).setCell ⟨w.heap.size + 1 + 1, 1, none⟩ (.int .i64 (T l 1))).setCell ⟨w.heap.size + 1 + 1, 2, none⟩ (.int .i64 (T l 2))).setCell ⟨w.heap.size + 1 + 1, 3, none⟩ (.int .i64 (T l 3))).setCell ⟨w.heap.size + 1 + 1, 4, none⟩ (.int .i64 (T l 4))).setCell ⟨w.heap.size + 1 + 1, 5, none⟩ (.int .i64 (T l 5))).cell? ⟨w.heap.size + 1 + 1, 5, none⟩ = some (.int .i64 (T l 5)) := a4.got (by omega) _
      have a6 := a5.set_ (k := 6) (T l 6)
      have s6 : (((((((wr.setCell ⟨w.heap.size + 1 + 1, 0, none⟩ (.int .i64 (T l 0))).setCell ⟨w.heap.size + 1 + 1, 1, none⟩ (.int .i64 (T l 1))).setCell ⟨w.heap.size + 1 + 1, 2, none⟩ (.int .i64 (T l 2))).setCell ⟨w.heap.size + 1 + 1, 3, none⟩ (.int .i64 (T l 3))).setCell ⟨w.heap.size + 1 + 1, 4, none⟩ (.int .i64 (T l 4))).setCell ⟨w.heap.size + 1 + 1, 5, none⟩ (.int .i64 (T l 5))).setCell ⟨w.heap.size + 1 + 1, 6, none⟩ (.int .i64 (T l 6))).cell? ⟨w.heap.size + 1 + 1, 6, none⟩ = some (.int .i64 (T l 6)) := a5.got (by omega) _
      have a7 := a6.set_ (k := 7) (T l 7)
      have s7 : ((((((((wr.setCell ⟨w.heap.size + 1 + 1, 0, none⟩ (.int .i64 (T l 0))).setCell ⟨w.heap.size + 1 + 1, 1, none⟩ (.int .i64 (T l 1))).setCell ⟨w.heap.size + 1 + 1, 2, none⟩ (.int .i64 (T l 2))).setCell ⟨w.heap.size + 1 + 1, 3, none⟩ (.int .i64 (T l 3))).setCell ⟨w.heap.size + 1 + 1, 4, none⟩ (.int .i64 (T l 4))).setCell ⟨w.heap.size + 1 + 1, 5, none⟩ (.int .i64 (T l 5))).setCell ⟨w.heap.size + 1 + 1, 6, none⟩ (.int .i64 (T l 6))).setCell ⟨w.heap.size + 1 + 1, 7, none⟩ (.int .i64 (T l 7))).cell? ⟨w.heap.size + 1 + 1, 7, none⟩ = some (.int .i64 (T l 7)) := a6.got (by omega) _
      have HB : Hid (Below w.heap.size w ((((((((wr.setCell ⟨w.heap.size + 1 + 1, 0, none⟩ (.int .i64 (T l 0))).setCell ⟨w.heap.size + 1 + 1, 1, none⟩ (.int .i64 (T l 1))).setCell ⟨w.heap.size + 1 + 1, 2, none⟩ (.int .i64 (T l 2))).setCell ⟨w.heap.size + 1 + 1, 3, none⟩ (.int .i64 (T l 3))).setCell ⟨w.heap.size + 1 + 1, 4, none⟩ (.int .i64 (T l 4))).setCell ⟨w.heap.size + 1 + 1, 5, none⟩ (.int .i64 (T l 5))).setCell ⟨w.heap.size + 1 + 1, 6, none⟩ (.int .i64 (T l 6))).setCell ⟨w.heap.size + 1 + 1, 7, none⟩ (.int .i64 (T l 7)))) := Lib.hid (below_al2 (below_al2 (below_al2 (below_al2 (below_al2 (below_al2 (below_al2 (below_al2 (hb)))))))))
      clear a0 a1 a2 a3 a4 a5 a6 a7 hr hbo
      go_wp2
      refine bodyPost_ret (by simp [results, Try.results92, go_sem, s0, s1, s2, s3, s4, s5, s6, s7]; try rfl) rfl ?_
      exact ⟨by rw [← HLF.out 0 (by omega), ← HLF.out 1 (by omega), ← HLF.out 2 (by omega), ← HLF.out 3 (by omega), ← HLF.out 4 (by omega), ← HLF.out 5 (by omega), ← HLF.out 6 (by omega), ← HLF.out 7 (by omega)], HB.out⟩

end Go.Proofs.Ytccbjgajmjcpjab
