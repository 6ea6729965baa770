/- How a write is built of its parts, and a list of one write. -/
import Derived.Test.YtemhhgpgpjiijaaPlace
import Derived.Laws.Tables
namespace Go.Proofs.Ytemhhgpgpjiijaa
open Go.RowKit Go.Maps

theorem put_list : ∀ (vs : List Value) (k off : Nat) (cs : List Value), off + k + vs.length ≤ cs.length →
    ((vs.zipIdx k).foldl (fun (c : Array Value) (p : Value × Nat) => c.setIfInBounds (off + p.2) p.1) cs.toArray).toList = splice cs (off + k) vs
  | [], k, off, cs, _ => by simp [splice]
  | v :: r, k, off, cs, h => by
    simp only [List.length_cons] at h
    simp only [List.zipIdx_cons, List.foldl_cons]
    have e : (cs.toArray.setIfInBounds (off + k) v) = (cs.set (off + k) v).toArray := by simp
    rw [e, put_list r (k + 1) off _ (by simp; omega)]
    unfold splice
    apply List.ext_getElem?
    intro i
    have hk : off + k < cs.length := by omega
    have e1 : (cs.set (off + k) v).take (off + (k + 1)) = cs.take (off + k) ++ [v] := by
      rw [← Nat.add_assoc, List.take_add_one]
      simp [List.take_set_of_le, hk]
    have e2 : (cs.set (off + k) v).drop (off + (k + 1) + r.length) = cs.drop (off + k + (v :: r).length) := by
      rw [List.drop_set_of_lt (by omega)]
      simp only [List.length_cons]
      congr 1; omega
    rw [e1, e2]
    simp

theorem put_arr (vs cs : List Value) (off : Nat) (h : off + vs.length ≤ cs.length) : vs.toArray.zipIdx.foldl (fun cs (c, j) => cs.setIfInBounds (off + j) c) cs.toArray = (splice cs off vs).toArray := by
  have := put_list vs 0 off cs (by simpa using h)
  apply Array.toList_inj.1
  rw [Nat.add_zero] at this
  rw [← Array.foldl_toList, Array.toList_zipIdx]
  exact this

/-- The cells of a write of noughts. -/
def zwr : List Value := .int .i64 0 :: .int .i64 0 :: zer.map (Value.int .u8)
theorem zero86 : (Try.prog.info? 71).bind (·.zero) = some (.agg zwr.toArray) := by kernel_rfl
theorem fill_step (place : Nat → Option (Nat × Nat)) (cs vs : List Value) (i off sz : Nat) (v : Value) (rest : List (Nat × Value)) (hp : place i = some (off, sz)) (hv : v.cells = vs.toArray) (hs : vs.length = sz) (hl : off + sz ≤ cs.length) :
    Instr.fill place cs.toArray ((i, v) :: rest) = Instr.fill place (splice cs off vs).toArray rest := by
  rw [Instr.fill, hp]
  simp only [hv, List.size_toArray]
  rw [if_neg (by simp [hs]; omega), put_arr vs cs off (by omega)]

theorem zwr_len : zwr.length = 130 := by simp [zwr, zer]

theorem built86 (x : Wr) (h : Sect x.bytes) : Try.prog.built 71 [(0, .int .i64 x.id), (1, .int .i64 (x.block : Int)), (2, .agg (secA x.bytes))] = some (wrA x) := by
  obtain ⟨it, hit, hz⟩ := Option.bind_eq_some_iff.1 zero86
  have hp : List.mapM (fun f : Field => Option.map (fun i => (f.offset, i.size)) (Try.prog.info? f.type))
        [{ name := "id", type := 3, offset := 0, embedded := false, tag := "", pkgPath := "bollard/disk",
            byteOffset := 0 },
          { name := "block", type := 3, offset := 1, embedded := false, tag := "", pkgPath := "bollard/disk",
            byteOffset := 8 },
          { name := "bytes", type := 69, offset := 2, embedded := false, tag := "", pkgPath := "bollard/disk",
            byteOffset := 16 }] = some [(0, 1), (1, 1), (2, 128)] := by kernel_rfl
  have hx := h.1
  unfold Program.built
  rw [hit, Try.underlying71]
  simp only [hz, hp]
  show Instr.fill _ zwr.toArray _ = _
  rw [fill_step _ zwr [.int .i64 x.id] 0 0 1 _ _ rfl rfl rfl (by rw [zwr_len]; omega)]
  have e1 : splice zwr 0 [.int .i64 x.id] = .int .i64 x.id :: .int .i64 0 :: zer.map (Value.int .u8) := by simp [splice, zwr]
  rw [e1, fill_step _ _ [.int .i64 (x.block : Int)] 1 1 1 _ _ rfl rfl rfl (by simp [zer])]
  have e2 : splice (Value.int .i64 x.id :: .int .i64 0 :: zer.map (Value.int .u8)) 1 [.int .i64 (x.block : Int)] = .int .i64 x.id :: .int .i64 (x.block : Int) :: zer.map (Value.int .u8) := by simp [splice]
  rw [e2, fill_step _ _ (x.bytes.map (Value.int .u8)) 2 2 128 _ _ rfl rfl (by simpa using hx) (by simp [zer])]
  have e3 : splice (Value.int .i64 x.id :: .int .i64 (x.block : Int) :: zer.map (Value.int .u8)) 2 (x.bytes.map (Value.int .u8)) = x.cells := by
    simp [splice, Wr.cells, hx, zer]
  rw [e3]
  rfl

theorem build_wr (x : Wr) (h : Sect x.bytes) (w : World) : (Instr.build 71 #[(0, .int .i64 x.id), (1, .int .i64 (x.block : Int)), (2, .agg (secA x.bytes))]).run Try.prog w = .ok (.agg (wrA x)) w :=
  run_build w 71 _ _ (built86 x h)

theorem splice_whole (cs vs : List Value) (h : vs.length = cs.length) : splice cs 0 vs = vs := by simp [splice, h]

theorem buildSlice_wr (x : Wr) (h : Sect x.bytes) (w : World) : (Instr.buildSlice 64 1 #[(0, .agg (wrA x))]).run Try.prog w = .ok (.slice (some ⟨w.heap.size, 0, none⟩) 1 1) (w.alloc (.cells (wrA x) 71)) := by
  obtain ⟨it, hit, hz⟩ := Option.bind_eq_some_iff.1 zero86
  have hs : it.size = 130 := by have := info86; rw [hit] at this; simpa using this
  have hl := cells_len x h
  have hsz : (sizeOf 71).run Try.prog w = .ok 130 w := by simp [sizeOf, typeInfo, hit, hs]
  have hzr : (zeroValue 71).run Try.prog w = .ok (.agg zwr.toArray) w := by simp [zeroValue, typeInfo, hit, hz]
  have hf : ∀ cs : Array Value, cs.size = 130 → Instr.fill (fun i => some (i * 130, 130)) cs [(0, .agg (wrA x))] = some (wrA x) := by
    intro cs hcl
    have e : cs = cs.toList.toArray := by simp
    rw [e, fill_step _ cs.toList x.cells 0 0 130 _ _ (by simp) rfl hl (by simp [hcl]), splice_whole _ _ (by rw [hl]; simp [hcl])]
    rfl
  simp [Instr.buildSlice, run_underlying Try.underlying64, hsz, hzr, newRow]
  rw [hf _ (by simp)]
  simp
end Go.Proofs.Ytemhhgpgpjiijaa
