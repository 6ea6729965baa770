/- same: both disks have the same. -/
import Derived.Test.YtnbknoibelajaabActs
import Derived.Test.YtnbknoibelajaabRefImage
import Derived.Test.YtnbknoibelajaabSent
import Derived.Test.YtnbknoibelajaabWaitsW
namespace Go.Proofs.Ytnbknoibelajaab
open Go.RowKit Go.Maps

theorem Sents.si {B : Nat} {w : World} {g : Nat} {gs : List Nat} {q : List Wr} (h : Sents B w g gs q) (h64 : q.length ≤ 64) (hq : ∀ y ∈ q, Sect y.bytes) : SI w (some ⟨g, 0, none⟩) q.length q := by
  refine ⟨rfl, h64, fun _ => ⟨g, rfl, fun i y hy => ?_⟩⟩
  obtain ⟨a, b, c⟩ := h.at hy
  exact ⟨_, _, _, a, b, c, (h.el i y hy).bi (by omega) (hq y (List.mem_of_getElem? hy)).2⟩

theorem RI.si {B : Nat} {w : World} {x : Nat} {bv qv fv : Value} {gB gQ : List (Nat × Nat)} {S : St} (h : RI B w x bv qv fv gB gQ S) (hS : Ok S) {p : Option Addr} {n c : Nat} (hqv : qv = .slice p n c) (hn : n = S.q.length) (hp : 0 < n → ∃ g, p = some ⟨g, 0, none⟩) : SI w p n S.q := by
  refine ⟨hn.symm, by rw [hn]; exact hS.q64, fun h0 => ?_⟩
  obtain ⟨g, rfl⟩ := hp h0
  refine ⟨g, rfl, fun i y hy => ?_⟩
  obtain ⟨r, hr, a, b, d, ho⟩ := h.sentAt (g := g) (cap := c) (by rw [hqv, hn]) hy
  exact ⟨_, _, _, a, b, d, ho.bi (by omega) (hS.qok y (List.mem_of_getElem? hy)).2.1.2⟩

set_option maxRecDepth 10000 in
set_option maxHeartbeats 2000000 in
theorem same_ok {B B' : Nat} {w : World} {a mb fb : Nat} {dq : Value} {x : Nat} {bv qv fv : Value} {gB gQ : List (Nat × Nat)} {S : St} (hd : DI B w a mb fb dq S) (hr : RI B' w x bv qv fv gB gQ S) :
    Calls Try.prog 11 #[.pointer (some ⟨a, 0, none⟩), .pointer (some ⟨x, 0, none⟩)] w fun e w' => e = .returned (.bool true) ∧ Below w.heap.size w w' := by
  have hS := hd.ok
  have hdd : DI B w.drew a mb fb dq S := hd.later (Below.refl _ _).drew
  have hrd : RI B' w.drew x bv qv fv gB gQ S := hr.later (Below.refl _ _).drew
  obtain ⟨gb, cb, hbv⟩ := hr.bcase hS.N1
  obtain ⟨qp, qc, hqv, hqg⟩ := row_case hr.qs
  obtain ⟨m, hm⟩ : ∃ m, m = S.q.length := ⟨_, rfl⟩
  obtain ⟨M, hM⟩ : ∃ M, M = S.N := ⟨_, rfl⟩
  rw [← hm] at hqv hqg
  rw [← hM] at hbv
  have HQ := (show Hid (qv = .slice qp m qc) from hqv)
  have HBV := (show Hid (bv = .slice (some ⟨gb, 0, none⟩) M cb) from hbv)
  have Hm := (show Hid (m = S.q.length) from hm)
  have HM := (show Hid (M = S.N) from hM)
  have HG := (show Hid (0 < m → ∃ g, qp = some ⟨g, 0, none⟩) from hqg)
  have hNM : M ≤ 2048 := by rw [hM]; exact hS.N2
  clear hqv hbv hm hM hqg
  have two : ∀ {W : World}, RI B' W x bv qv fv gB gQ S → W.cell? ⟨x, 0, none⟩ = some (.slice (some ⟨gb, 0, none⟩) M cb) ∧ W.cell? ⟨x, 1, none⟩ = some (.slice qp m qc) := fun h => ⟨by rw [h.c0, HBV.out], by rw [h.c1, HQ.out]⟩
  have t0 := two hrd
  obtain ⟨u0, u1⟩ := two hrd
  have HT := (show Hid _ from @two)
  clear two
  have cb1 := blocks_ok hdd
  rw [← HM.out] at cb1
  have CB := (show Hid _ from cb1)
  clear cb1
  go_enter Try.func11, Try.ntmps11
  go_wp2_with fail
  go_region_held3 (fun w' => w'.cell? ⟨x, 0, none⟩ = some (.slice (some ⟨gb, 0, none⟩) M cb) ∧ w'.cell? ⟨x, 1, none⟩ = some (.slice qp m qc)) (first | exact t0 | exact t2 | exact t3 | exact t4 | exact t5)
    (first
      | (go_at_call 25; refine Calls.mono CB.out ?_; rintro e w1 ⟨rfl, rfl⟩)
      | (go_at_call 21; refine Calls.mono (image_is hdd rfl HM.out.symm) ?_; rintro e w2 ⟨g2, gs2, rfl, him2, hb2⟩; have hd2 := hdd.later hb2; have hr2 := hrd.later hb2; have t2 := HT.out hr2)
      | (go_at_call 38; refine Calls.mono (rimage_ok hr2 hS) ?_; rintro e w3 ⟨v3, ps3, rfl, hown3, hel3, hb3⟩; rw [← HM.out] at hown3; obtain ⟨p3, c3, rfl, hib3⟩ := rows_ib hown3 hel3 (fun i => (hS.sec i).2) hNM; have hd3 := hd2.later hb3; have hr3 := hr2.later hb3; have t3 := HT.out hr3; have hib2 := (him2.kept (w' := w3) (fun k _ hk => hb3.block k hk)).ib hNM (fun i _ => (hS.sec i).2); have heq := sameImage_ok _ _ M M M c3 _ _ w3 hib2 hib3; rw [show ∀ l : List (List Int), (l == l) = true from fun l => by simp] at heq; have HE := (show Hid _ from heq); clear heq hown3)
      | (go_at_call 15; refine Calls.mono HE.out ?_; rintro e w4' ⟨rfl, rfl⟩)
      | (go_at_call 20; refine Calls.mono (queue_ok hd3) ?_; rintro e w4 ⟨g4, gs4, rfl, hs4, hb4⟩; rw [← Hm.out]; have hr4 := hr3.later hb4; have t4 := HT.out hr4; have hsi1 := hs4.si hS.q64 (fun y hy => (hS.qok y hy).2.1); rw [← Hm.out] at hsi1; have hsi2 := hr4.si hS HQ.out Hm.out HG.out; have hse := sameSent_ok _ _ m m qc S.q w4 hsi1 hsi2; have HSE := (show Hid _ from hse); clear hse)
      | (go_at_call 39; refine Calls.mono HSE.out ?_; rintro e w5 ⟨rfl, hb5⟩; have t5 := HT.out (hr4.later hb5)))
  have hbw : Below w.heap.size w w5 := (((Below.refl w.heap.size w).drew.trans (hb2.mono (Nat.le_refl _))).trans (hb3.mono hb2.size)).trans ((hb4.mono (Nat.le_trans hb2.size hb3.size)).trans (hb5.mono (Nat.le_trans hb2.size (Nat.le_trans hb3.size hb4.size))))
  go_wp2
  go_ret
  exact ⟨by first | rfl | exact ret_bool (by simp), hbw⟩
end Go.Proofs.Ytnbknoibelajaab
