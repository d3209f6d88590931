/- The 120 codes in plain words, and the document's own table of them. No condition. -/
import Derived.Test.YtngoajhnnlnphaaMem
import Derived.Great.Walk
import Derived.Great.BuildSlice
namespace Go.Proofs.Ytngoajhnnlnphaa
open Go.RowKit Go.Great
set_option linter.unusedVariables false
set_option linter.unusedSimpArgs false

structure CodeV where
  op : Int
  name : ByteArray
  shape : Int
instance : Inhabited CodeV := ⟨⟨0, ⟨#[]⟩, 0⟩⟩
def cellsK (c : CodeV) : List Value := [.int .i64 c.op, .string c.name, .int .u8 c.shape]
def codesV : List CodeV := [
  ⟨0, ⟨#[110, 111, 112]⟩, 45⟩, ⟨1, ⟨#[97, 99, 111, 110, 115, 116, 95, 110, 117, 108, 108]⟩, 45⟩, ⟨2, ⟨#[105, 99, 111, 110, 115, 116, 95, 109, 49]⟩, 45⟩,
  ⟨3, ⟨#[105, 99, 111, 110, 115, 116, 95, 48]⟩, 45⟩, ⟨4, ⟨#[105, 99, 111, 110, 115, 116, 95, 49]⟩, 45⟩, ⟨5, ⟨#[105, 99, 111, 110, 115, 116, 95, 50]⟩, 45⟩,
  ⟨6, ⟨#[105, 99, 111, 110, 115, 116, 95, 51]⟩, 45⟩, ⟨7, ⟨#[105, 99, 111, 110, 115, 116, 95, 52]⟩, 45⟩, ⟨8, ⟨#[105, 99, 111, 110, 115, 116, 95, 53]⟩, 45⟩,
  ⟨9, ⟨#[108, 99, 111, 110, 115, 116, 95, 48]⟩, 45⟩, ⟨10, ⟨#[108, 99, 111, 110, 115, 116, 95, 49]⟩, 45⟩, ⟨16, ⟨#[98, 105, 112, 117, 115, 104]⟩, 98⟩,
  ⟨17, ⟨#[115, 105, 112, 117, 115, 104]⟩, 115⟩, ⟨18, ⟨#[108, 100, 99]⟩, 117⟩, ⟨20, ⟨#[108, 100, 99, 50, 95, 119]⟩, 99⟩,
  ⟨21, ⟨#[105, 108, 111, 97, 100]⟩, 117⟩, ⟨22, ⟨#[108, 108, 111, 97, 100]⟩, 117⟩, ⟨25, ⟨#[97, 108, 111, 97, 100]⟩, 117⟩,
  ⟨26, ⟨#[105, 108, 111, 97, 100, 95, 48]⟩, 45⟩, ⟨27, ⟨#[105, 108, 111, 97, 100, 95, 49]⟩, 45⟩, ⟨28, ⟨#[105, 108, 111, 97, 100, 95, 50]⟩, 45⟩,
  ⟨29, ⟨#[105, 108, 111, 97, 100, 95, 51]⟩, 45⟩, ⟨30, ⟨#[108, 108, 111, 97, 100, 95, 48]⟩, 45⟩, ⟨31, ⟨#[108, 108, 111, 97, 100, 95, 49]⟩, 45⟩,
  ⟨32, ⟨#[108, 108, 111, 97, 100, 95, 50]⟩, 45⟩, ⟨33, ⟨#[108, 108, 111, 97, 100, 95, 51]⟩, 45⟩, ⟨42, ⟨#[97, 108, 111, 97, 100, 95, 48]⟩, 45⟩,
  ⟨43, ⟨#[97, 108, 111, 97, 100, 95, 49]⟩, 45⟩, ⟨44, ⟨#[97, 108, 111, 97, 100, 95, 50]⟩, 45⟩, ⟨45, ⟨#[97, 108, 111, 97, 100, 95, 51]⟩, 45⟩,
  ⟨46, ⟨#[105, 97, 108, 111, 97, 100]⟩, 45⟩, ⟨47, ⟨#[108, 97, 108, 111, 97, 100]⟩, 45⟩, ⟨50, ⟨#[97, 97, 108, 111, 97, 100]⟩, 45⟩,
  ⟨54, ⟨#[105, 115, 116, 111, 114, 101]⟩, 117⟩, ⟨55, ⟨#[108, 115, 116, 111, 114, 101]⟩, 117⟩, ⟨58, ⟨#[97, 115, 116, 111, 114, 101]⟩, 117⟩,
  ⟨59, ⟨#[105, 115, 116, 111, 114, 101, 95, 48]⟩, 45⟩, ⟨60, ⟨#[105, 115, 116, 111, 114, 101, 95, 49]⟩, 45⟩, ⟨61, ⟨#[105, 115, 116, 111, 114, 101, 95, 50]⟩, 45⟩,
  ⟨62, ⟨#[105, 115, 116, 111, 114, 101, 95, 51]⟩, 45⟩, ⟨63, ⟨#[108, 115, 116, 111, 114, 101, 95, 48]⟩, 45⟩, ⟨64, ⟨#[108, 115, 116, 111, 114, 101, 95, 49]⟩, 45⟩,
  ⟨65, ⟨#[108, 115, 116, 111, 114, 101, 95, 50]⟩, 45⟩, ⟨66, ⟨#[108, 115, 116, 111, 114, 101, 95, 51]⟩, 45⟩, ⟨75, ⟨#[97, 115, 116, 111, 114, 101, 95, 48]⟩, 45⟩,
  ⟨76, ⟨#[97, 115, 116, 111, 114, 101, 95, 49]⟩, 45⟩, ⟨77, ⟨#[97, 115, 116, 111, 114, 101, 95, 50]⟩, 45⟩, ⟨78, ⟨#[97, 115, 116, 111, 114, 101, 95, 51]⟩, 45⟩,
  ⟨79, ⟨#[105, 97, 115, 116, 111, 114, 101]⟩, 45⟩, ⟨80, ⟨#[108, 97, 115, 116, 111, 114, 101]⟩, 45⟩, ⟨83, ⟨#[97, 97, 115, 116, 111, 114, 101]⟩, 45⟩,
  ⟨87, ⟨#[112, 111, 112]⟩, 45⟩, ⟨89, ⟨#[100, 117, 112]⟩, 45⟩, ⟨90, ⟨#[100, 117, 112, 95, 120, 49]⟩, 45⟩,
  ⟨95, ⟨#[115, 119, 97, 112]⟩, 45⟩, ⟨96, ⟨#[105, 97, 100, 100]⟩, 45⟩, ⟨97, ⟨#[108, 97, 100, 100]⟩, 45⟩,
  ⟨100, ⟨#[105, 115, 117, 98]⟩, 45⟩, ⟨101, ⟨#[108, 115, 117, 98]⟩, 45⟩, ⟨104, ⟨#[105, 109, 117, 108]⟩, 45⟩,
  ⟨105, ⟨#[108, 109, 117, 108]⟩, 45⟩, ⟨108, ⟨#[105, 100, 105, 118]⟩, 45⟩, ⟨109, ⟨#[108, 100, 105, 118]⟩, 45⟩,
  ⟨112, ⟨#[105, 114, 101, 109]⟩, 45⟩, ⟨113, ⟨#[108, 114, 101, 109]⟩, 45⟩, ⟨116, ⟨#[105, 110, 101, 103]⟩, 45⟩,
  ⟨117, ⟨#[108, 110, 101, 103]⟩, 45⟩, ⟨120, ⟨#[105, 115, 104, 108]⟩, 45⟩, ⟨121, ⟨#[108, 115, 104, 108]⟩, 45⟩,
  ⟨122, ⟨#[105, 115, 104, 114]⟩, 45⟩, ⟨123, ⟨#[108, 115, 104, 114]⟩, 45⟩, ⟨124, ⟨#[105, 117, 115, 104, 114]⟩, 45⟩,
  ⟨125, ⟨#[108, 117, 115, 104, 114]⟩, 45⟩, ⟨126, ⟨#[105, 97, 110, 100]⟩, 45⟩, ⟨127, ⟨#[108, 97, 110, 100]⟩, 45⟩,
  ⟨128, ⟨#[105, 111, 114]⟩, 45⟩, ⟨129, ⟨#[108, 111, 114]⟩, 45⟩, ⟨130, ⟨#[105, 120, 111, 114]⟩, 45⟩,
  ⟨131, ⟨#[108, 120, 111, 114]⟩, 45⟩, ⟨132, ⟨#[105, 105, 110, 99]⟩, 105⟩, ⟨133, ⟨#[105, 50, 108]⟩, 45⟩,
  ⟨136, ⟨#[108, 50, 105]⟩, 45⟩, ⟨148, ⟨#[108, 99, 109, 112]⟩, 45⟩, ⟨153, ⟨#[105, 102, 101, 113]⟩, 116⟩,
  ⟨154, ⟨#[105, 102, 110, 101]⟩, 116⟩, ⟨155, ⟨#[105, 102, 108, 116]⟩, 116⟩, ⟨156, ⟨#[105, 102, 103, 101]⟩, 116⟩,
  ⟨157, ⟨#[105, 102, 103, 116]⟩, 116⟩, ⟨158, ⟨#[105, 102, 108, 101]⟩, 116⟩, ⟨159, ⟨#[105, 102, 95, 105, 99, 109, 112, 101, 113]⟩, 116⟩,
  ⟨160, ⟨#[105, 102, 95, 105, 99, 109, 112, 110, 101]⟩, 116⟩, ⟨161, ⟨#[105, 102, 95, 105, 99, 109, 112, 108, 116]⟩, 116⟩, ⟨162, ⟨#[105, 102, 95, 105, 99, 109, 112, 103, 101]⟩, 116⟩,
  ⟨163, ⟨#[105, 102, 95, 105, 99, 109, 112, 103, 116]⟩, 116⟩, ⟨164, ⟨#[105, 102, 95, 105, 99, 109, 112, 108, 101]⟩, 116⟩, ⟨165, ⟨#[105, 102, 95, 97, 99, 109, 112, 101, 113]⟩, 116⟩,
  ⟨166, ⟨#[105, 102, 95, 97, 99, 109, 112, 110, 101]⟩, 116⟩, ⟨167, ⟨#[103, 111, 116, 111]⟩, 116⟩, ⟨172, ⟨#[105, 114, 101, 116, 117, 114, 110]⟩, 45⟩,
  ⟨173, ⟨#[108, 114, 101, 116, 117, 114, 110]⟩, 45⟩, ⟨176, ⟨#[97, 114, 101, 116, 117, 114, 110]⟩, 45⟩, ⟨177, ⟨#[114, 101, 116, 117, 114, 110]⟩, 45⟩,
  ⟨178, ⟨#[103, 101, 116, 115, 116, 97, 116, 105, 99]⟩, 99⟩, ⟨179, ⟨#[112, 117, 116, 115, 116, 97, 116, 105, 99]⟩, 99⟩, ⟨180, ⟨#[103, 101, 116, 102, 105, 101, 108, 100]⟩, 99⟩,
  ⟨181, ⟨#[112, 117, 116, 102, 105, 101, 108, 100]⟩, 99⟩, ⟨182, ⟨#[105, 110, 118, 111, 107, 101, 118, 105, 114, 116, 117, 97, 108]⟩, 99⟩, ⟨183, ⟨#[105, 110, 118, 111, 107, 101, 115, 112, 101, 99, 105, 97, 108]⟩, 99⟩,
  ⟨184, ⟨#[105, 110, 118, 111, 107, 101, 115, 116, 97, 116, 105, 99]⟩, 99⟩, ⟨187, ⟨#[110, 101, 119]⟩, 99⟩, ⟨188, ⟨#[110, 101, 119, 97, 114, 114, 97, 121]⟩, 117⟩,
  ⟨189, ⟨#[97, 110, 101, 119, 97, 114, 114, 97, 121]⟩, 99⟩, ⟨190, ⟨#[97, 114, 114, 97, 121, 108, 101, 110, 103, 116, 104]⟩, 45⟩, ⟨191, ⟨#[97, 116, 104, 114, 111, 119]⟩, 45⟩,
  ⟨192, ⟨#[99, 104, 101, 99, 107, 99, 97, 115, 116]⟩, 99⟩, ⟨193, ⟨#[105, 110, 115, 116, 97, 110, 99, 101, 111, 102]⟩, 99⟩, ⟨194, ⟨#[109, 111, 110, 105, 116, 111, 114, 101, 110, 116, 101, 114]⟩, 45⟩,
  ⟨195, ⟨#[109, 111, 110, 105, 116, 111, 114, 101, 120, 105, 116]⟩, 45⟩, ⟨198, ⟨#[105, 102, 110, 117, 108, 108]⟩, 116⟩, ⟨199, ⟨#[105, 102, 110, 111, 110, 110, 117, 108, 108]⟩, 116⟩]
theorem info_code : (Try.prog.info? 77).map (fun i => (i.zero, i.size, i.bytes)) = some (some (.agg #[.int .i64 0, .string ⟨#[]⟩, .int .u8 0]), 3, 32) := by kernel_rfl

set_option maxHeartbeats 8000000 in
set_option maxRecDepth 100000 in
theorem refCodes (w : World) :
    Calls Try.prog 34 #[] w fun e w' => e = .returned (.slice (some ⟨w.heap.size, 0, none⟩) 120 120) ∧ w' = w.alloc (.cells (codesV.flatMap cellsK).toArray 77) := by
  go_enter Try.func34, Try.ntmps34
  apply wp_seq_k
  intro K hK
  apply wp_region_lit
  refine wpList_readTo rfl (some 0) rfl (.slice none 0 0) (by kernel_rfl) ?_
  refine hK _ _ ?_
  clear hK K
  apply wp_seq_k
  intro K hK
  apply wp_region_lit
  refine wpList_buildTo rfl 77 _ rfl (some 1) rfl #[.int .i64 0, .string ⟨#[110, 111, 112]⟩, .int .u8 45] (by kernel_rfl) ?_
  refine wpList_buildTo rfl 77 _ rfl (some 2) rfl #[.int .i64 1, .string ⟨#[97, 99, 111, 110, 115, 116, 95, 110, 117, 108, 108]⟩, .int .u8 45] (by kernel_rfl) ?_
  refine wpList_buildTo rfl 77 _ rfl (some 3) rfl #[.int .i64 2, .string ⟨#[105, 99, 111, 110, 115, 116, 95, 109, 49]⟩, .int .u8 45] (by kernel_rfl) ?_
  refine wpList_buildTo rfl 77 _ rfl (some 4) rfl #[.int .i64 3, .string ⟨#[105, 99, 111, 110, 115, 116, 95, 48]⟩, .int .u8 45] (by kernel_rfl) ?_
  refine wpList_buildTo rfl 77 _ rfl (some 5) rfl #[.int .i64 4, .string ⟨#[105, 99, 111, 110, 115, 116, 95, 49]⟩, .int .u8 45] (by kernel_rfl) ?_
  refine wpList_buildTo rfl 77 _ rfl (some 6) rfl #[.int .i64 5, .string ⟨#[105, 99, 111, 110, 115, 116, 95, 50]⟩, .int .u8 45] (by kernel_rfl) ?_
  refine wpList_buildTo rfl 77 _ rfl (some 7) rfl #[.int .i64 6, .string ⟨#[105, 99, 111, 110, 115, 116, 95, 51]⟩, .int .u8 45] (by kernel_rfl) ?_
  refine wpList_buildTo rfl 77 _ rfl (some 8) rfl #[.int .i64 7, .string ⟨#[105, 99, 111, 110, 115, 116, 95, 52]⟩, .int .u8 45] (by kernel_rfl) ?_
  refine wpList_buildTo rfl 77 _ rfl (some 9) rfl #[.int .i64 8, .string ⟨#[105, 99, 111, 110, 115, 116, 95, 53]⟩, .int .u8 45] (by kernel_rfl) ?_
  refine wpList_buildTo rfl 77 _ rfl (some 10) rfl #[.int .i64 9, .string ⟨#[108, 99, 111, 110, 115, 116, 95, 48]⟩, .int .u8 45] (by kernel_rfl) ?_
  refine wpList_buildTo rfl 77 _ rfl (some 11) rfl #[.int .i64 10, .string ⟨#[108, 99, 111, 110, 115, 116, 95, 49]⟩, .int .u8 45] (by kernel_rfl) ?_
  refine wpList_buildTo rfl 77 _ rfl (some 12) rfl #[.int .i64 16, .string ⟨#[98, 105, 112, 117, 115, 104]⟩, .int .u8 98] (by kernel_rfl) ?_
  refine wpList_buildTo rfl 77 _ rfl (some 13) rfl #[.int .i64 17, .string ⟨#[115, 105, 112, 117, 115, 104]⟩, .int .u8 115] (by kernel_rfl) ?_
  refine wpList_buildTo rfl 77 _ rfl (some 14) rfl #[.int .i64 18, .string ⟨#[108, 100, 99]⟩, .int .u8 117] (by kernel_rfl) ?_
  refine wpList_buildTo rfl 77 _ rfl (some 15) rfl #[.int .i64 20, .string ⟨#[108, 100, 99, 50, 95, 119]⟩, .int .u8 99] (by kernel_rfl) ?_
  refine wpList_buildTo rfl 77 _ rfl (some 16) rfl #[.int .i64 21, .string ⟨#[105, 108, 111, 97, 100]⟩, .int .u8 117] (by kernel_rfl) ?_
  refine wpList_buildTo rfl 77 _ rfl (some 17) rfl #[.int .i64 22, .string ⟨#[108, 108, 111, 97, 100]⟩, .int .u8 117] (by kernel_rfl) ?_
  refine wpList_buildTo rfl 77 _ rfl (some 18) rfl #[.int .i64 25, .string ⟨#[97, 108, 111, 97, 100]⟩, .int .u8 117] (by kernel_rfl) ?_
  refine wpList_buildTo rfl 77 _ rfl (some 19) rfl #[.int .i64 26, .string ⟨#[105, 108, 111, 97, 100, 95, 48]⟩, .int .u8 45] (by kernel_rfl) ?_
  refine wpList_buildTo rfl 77 _ rfl (some 20) rfl #[.int .i64 27, .string ⟨#[105, 108, 111, 97, 100, 95, 49]⟩, .int .u8 45] (by kernel_rfl) ?_
  refine wpList_buildTo rfl 77 _ rfl (some 21) rfl #[.int .i64 28, .string ⟨#[105, 108, 111, 97, 100, 95, 50]⟩, .int .u8 45] (by kernel_rfl) ?_
  refine wpList_buildTo rfl 77 _ rfl (some 22) rfl #[.int .i64 29, .string ⟨#[105, 108, 111, 97, 100, 95, 51]⟩, .int .u8 45] (by kernel_rfl) ?_
  refine wpList_buildTo rfl 77 _ rfl (some 23) rfl #[.int .i64 30, .string ⟨#[108, 108, 111, 97, 100, 95, 48]⟩, .int .u8 45] (by kernel_rfl) ?_
  refine wpList_buildTo rfl 77 _ rfl (some 24) rfl #[.int .i64 31, .string ⟨#[108, 108, 111, 97, 100, 95, 49]⟩, .int .u8 45] (by kernel_rfl) ?_
  refine wpList_buildTo rfl 77 _ rfl (some 25) rfl #[.int .i64 32, .string ⟨#[108, 108, 111, 97, 100, 95, 50]⟩, .int .u8 45] (by kernel_rfl) ?_
  refine wpList_buildTo rfl 77 _ rfl (some 26) rfl #[.int .i64 33, .string ⟨#[108, 108, 111, 97, 100, 95, 51]⟩, .int .u8 45] (by kernel_rfl) ?_
  refine wpList_buildTo rfl 77 _ rfl (some 27) rfl #[.int .i64 42, .string ⟨#[97, 108, 111, 97, 100, 95, 48]⟩, .int .u8 45] (by kernel_rfl) ?_
  refine wpList_buildTo rfl 77 _ rfl (some 28) rfl #[.int .i64 43, .string ⟨#[97, 108, 111, 97, 100, 95, 49]⟩, .int .u8 45] (by kernel_rfl) ?_
  refine wpList_buildTo rfl 77 _ rfl (some 29) rfl #[.int .i64 44, .string ⟨#[97, 108, 111, 97, 100, 95, 50]⟩, .int .u8 45] (by kernel_rfl) ?_
  refine wpList_buildTo rfl 77 _ rfl (some 30) rfl #[.int .i64 45, .string ⟨#[97, 108, 111, 97, 100, 95, 51]⟩, .int .u8 45] (by kernel_rfl) ?_
  refine wpList_buildTo rfl 77 _ rfl (some 31) rfl #[.int .i64 46, .string ⟨#[105, 97, 108, 111, 97, 100]⟩, .int .u8 45] (by kernel_rfl) ?_
  refine wpList_buildTo rfl 77 _ rfl (some 32) rfl #[.int .i64 47, .string ⟨#[108, 97, 108, 111, 97, 100]⟩, .int .u8 45] (by kernel_rfl) ?_
  refine wpList_buildTo rfl 77 _ rfl (some 33) rfl #[.int .i64 50, .string ⟨#[97, 97, 108, 111, 97, 100]⟩, .int .u8 45] (by kernel_rfl) ?_
  refine wpList_buildTo rfl 77 _ rfl (some 34) rfl #[.int .i64 54, .string ⟨#[105, 115, 116, 111, 114, 101]⟩, .int .u8 117] (by kernel_rfl) ?_
  refine wpList_buildTo rfl 77 _ rfl (some 35) rfl #[.int .i64 55, .string ⟨#[108, 115, 116, 111, 114, 101]⟩, .int .u8 117] (by kernel_rfl) ?_
  refine wpList_buildTo rfl 77 _ rfl (some 36) rfl #[.int .i64 58, .string ⟨#[97, 115, 116, 111, 114, 101]⟩, .int .u8 117] (by kernel_rfl) ?_
  refine wpList_buildTo rfl 77 _ rfl (some 37) rfl #[.int .i64 59, .string ⟨#[105, 115, 116, 111, 114, 101, 95, 48]⟩, .int .u8 45] (by kernel_rfl) ?_
  refine wpList_buildTo rfl 77 _ rfl (some 38) rfl #[.int .i64 60, .string ⟨#[105, 115, 116, 111, 114, 101, 95, 49]⟩, .int .u8 45] (by kernel_rfl) ?_
  refine wpList_buildTo rfl 77 _ rfl (some 39) rfl #[.int .i64 61, .string ⟨#[105, 115, 116, 111, 114, 101, 95, 50]⟩, .int .u8 45] (by kernel_rfl) ?_
  refine wpList_buildTo rfl 77 _ rfl (some 40) rfl #[.int .i64 62, .string ⟨#[105, 115, 116, 111, 114, 101, 95, 51]⟩, .int .u8 45] (by kernel_rfl) ?_
  refine wpList_buildTo rfl 77 _ rfl (some 41) rfl #[.int .i64 63, .string ⟨#[108, 115, 116, 111, 114, 101, 95, 48]⟩, .int .u8 45] (by kernel_rfl) ?_
  refine wpList_buildTo rfl 77 _ rfl (some 42) rfl #[.int .i64 64, .string ⟨#[108, 115, 116, 111, 114, 101, 95, 49]⟩, .int .u8 45] (by kernel_rfl) ?_
  refine wpList_buildTo rfl 77 _ rfl (some 43) rfl #[.int .i64 65, .string ⟨#[108, 115, 116, 111, 114, 101, 95, 50]⟩, .int .u8 45] (by kernel_rfl) ?_
  refine wpList_buildTo rfl 77 _ rfl (some 44) rfl #[.int .i64 66, .string ⟨#[108, 115, 116, 111, 114, 101, 95, 51]⟩, .int .u8 45] (by kernel_rfl) ?_
  refine wpList_buildTo rfl 77 _ rfl (some 45) rfl #[.int .i64 75, .string ⟨#[97, 115, 116, 111, 114, 101, 95, 48]⟩, .int .u8 45] (by kernel_rfl) ?_
  refine wpList_buildTo rfl 77 _ rfl (some 46) rfl #[.int .i64 76, .string ⟨#[97, 115, 116, 111, 114, 101, 95, 49]⟩, .int .u8 45] (by kernel_rfl) ?_
  refine wpList_buildTo rfl 77 _ rfl (some 47) rfl #[.int .i64 77, .string ⟨#[97, 115, 116, 111, 114, 101, 95, 50]⟩, .int .u8 45] (by kernel_rfl) ?_
  refine wpList_buildTo rfl 77 _ rfl (some 48) rfl #[.int .i64 78, .string ⟨#[97, 115, 116, 111, 114, 101, 95, 51]⟩, .int .u8 45] (by kernel_rfl) ?_
  refine wpList_buildTo rfl 77 _ rfl (some 49) rfl #[.int .i64 79, .string ⟨#[105, 97, 115, 116, 111, 114, 101]⟩, .int .u8 45] (by kernel_rfl) ?_
  refine wpList_buildTo rfl 77 _ rfl (some 50) rfl #[.int .i64 80, .string ⟨#[108, 97, 115, 116, 111, 114, 101]⟩, .int .u8 45] (by kernel_rfl) ?_
  refine wpList_buildTo rfl 77 _ rfl (some 51) rfl #[.int .i64 83, .string ⟨#[97, 97, 115, 116, 111, 114, 101]⟩, .int .u8 45] (by kernel_rfl) ?_
  refine wpList_buildTo rfl 77 _ rfl (some 52) rfl #[.int .i64 87, .string ⟨#[112, 111, 112]⟩, .int .u8 45] (by kernel_rfl) ?_
  refine wpList_buildTo rfl 77 _ rfl (some 53) rfl #[.int .i64 89, .string ⟨#[100, 117, 112]⟩, .int .u8 45] (by kernel_rfl) ?_
  refine wpList_buildTo rfl 77 _ rfl (some 54) rfl #[.int .i64 90, .string ⟨#[100, 117, 112, 95, 120, 49]⟩, .int .u8 45] (by kernel_rfl) ?_
  refine wpList_buildTo rfl 77 _ rfl (some 55) rfl #[.int .i64 95, .string ⟨#[115, 119, 97, 112]⟩, .int .u8 45] (by kernel_rfl) ?_
  refine wpList_buildTo rfl 77 _ rfl (some 56) rfl #[.int .i64 96, .string ⟨#[105, 97, 100, 100]⟩, .int .u8 45] (by kernel_rfl) ?_
  refine wpList_buildTo rfl 77 _ rfl (some 57) rfl #[.int .i64 97, .string ⟨#[108, 97, 100, 100]⟩, .int .u8 45] (by kernel_rfl) ?_
  refine wpList_buildTo rfl 77 _ rfl (some 58) rfl #[.int .i64 100, .string ⟨#[105, 115, 117, 98]⟩, .int .u8 45] (by kernel_rfl) ?_
  refine wpList_buildTo rfl 77 _ rfl (some 59) rfl #[.int .i64 101, .string ⟨#[108, 115, 117, 98]⟩, .int .u8 45] (by kernel_rfl) ?_
  refine wpList_buildTo rfl 77 _ rfl (some 60) rfl #[.int .i64 104, .string ⟨#[105, 109, 117, 108]⟩, .int .u8 45] (by kernel_rfl) ?_
  refine wpList_buildTo rfl 77 _ rfl (some 61) rfl #[.int .i64 105, .string ⟨#[108, 109, 117, 108]⟩, .int .u8 45] (by kernel_rfl) ?_
  refine wpList_buildTo rfl 77 _ rfl (some 62) rfl #[.int .i64 108, .string ⟨#[105, 100, 105, 118]⟩, .int .u8 45] (by kernel_rfl) ?_
  refine wpList_buildTo rfl 77 _ rfl (some 63) rfl #[.int .i64 109, .string ⟨#[108, 100, 105, 118]⟩, .int .u8 45] (by kernel_rfl) ?_
  refine wpList_buildTo rfl 77 _ rfl (some 64) rfl #[.int .i64 112, .string ⟨#[105, 114, 101, 109]⟩, .int .u8 45] (by kernel_rfl) ?_
  refine wpList_buildTo rfl 77 _ rfl (some 65) rfl #[.int .i64 113, .string ⟨#[108, 114, 101, 109]⟩, .int .u8 45] (by kernel_rfl) ?_
  refine wpList_buildTo rfl 77 _ rfl (some 66) rfl #[.int .i64 116, .string ⟨#[105, 110, 101, 103]⟩, .int .u8 45] (by kernel_rfl) ?_
  refine wpList_buildTo rfl 77 _ rfl (some 67) rfl #[.int .i64 117, .string ⟨#[108, 110, 101, 103]⟩, .int .u8 45] (by kernel_rfl) ?_
  refine wpList_buildTo rfl 77 _ rfl (some 68) rfl #[.int .i64 120, .string ⟨#[105, 115, 104, 108]⟩, .int .u8 45] (by kernel_rfl) ?_
  refine wpList_buildTo rfl 77 _ rfl (some 69) rfl #[.int .i64 121, .string ⟨#[108, 115, 104, 108]⟩, .int .u8 45] (by kernel_rfl) ?_
  refine wpList_buildTo rfl 77 _ rfl (some 70) rfl #[.int .i64 122, .string ⟨#[105, 115, 104, 114]⟩, .int .u8 45] (by kernel_rfl) ?_
  refine wpList_buildTo rfl 77 _ rfl (some 71) rfl #[.int .i64 123, .string ⟨#[108, 115, 104, 114]⟩, .int .u8 45] (by kernel_rfl) ?_
  refine wpList_buildTo rfl 77 _ rfl (some 72) rfl #[.int .i64 124, .string ⟨#[105, 117, 115, 104, 114]⟩, .int .u8 45] (by kernel_rfl) ?_
  refine wpList_buildTo rfl 77 _ rfl (some 73) rfl #[.int .i64 125, .string ⟨#[108, 117, 115, 104, 114]⟩, .int .u8 45] (by kernel_rfl) ?_
  refine wpList_buildTo rfl 77 _ rfl (some 74) rfl #[.int .i64 126, .string ⟨#[105, 97, 110, 100]⟩, .int .u8 45] (by kernel_rfl) ?_
  refine wpList_buildTo rfl 77 _ rfl (some 75) rfl #[.int .i64 127, .string ⟨#[108, 97, 110, 100]⟩, .int .u8 45] (by kernel_rfl) ?_
  refine wpList_buildTo rfl 77 _ rfl (some 76) rfl #[.int .i64 128, .string ⟨#[105, 111, 114]⟩, .int .u8 45] (by kernel_rfl) ?_
  refine wpList_buildTo rfl 77 _ rfl (some 77) rfl #[.int .i64 129, .string ⟨#[108, 111, 114]⟩, .int .u8 45] (by kernel_rfl) ?_
  refine wpList_buildTo rfl 77 _ rfl (some 78) rfl #[.int .i64 130, .string ⟨#[105, 120, 111, 114]⟩, .int .u8 45] (by kernel_rfl) ?_
  refine wpList_buildTo rfl 77 _ rfl (some 79) rfl #[.int .i64 131, .string ⟨#[108, 120, 111, 114]⟩, .int .u8 45] (by kernel_rfl) ?_
  refine wpList_buildTo rfl 77 _ rfl (some 80) rfl #[.int .i64 132, .string ⟨#[105, 105, 110, 99]⟩, .int .u8 105] (by kernel_rfl) ?_
  refine wpList_buildTo rfl 77 _ rfl (some 81) rfl #[.int .i64 133, .string ⟨#[105, 50, 108]⟩, .int .u8 45] (by kernel_rfl) ?_
  refine wpList_buildTo rfl 77 _ rfl (some 82) rfl #[.int .i64 136, .string ⟨#[108, 50, 105]⟩, .int .u8 45] (by kernel_rfl) ?_
  refine wpList_buildTo rfl 77 _ rfl (some 83) rfl #[.int .i64 148, .string ⟨#[108, 99, 109, 112]⟩, .int .u8 45] (by kernel_rfl) ?_
  refine wpList_buildTo rfl 77 _ rfl (some 84) rfl #[.int .i64 153, .string ⟨#[105, 102, 101, 113]⟩, .int .u8 116] (by kernel_rfl) ?_
  refine wpList_buildTo rfl 77 _ rfl (some 85) rfl #[.int .i64 154, .string ⟨#[105, 102, 110, 101]⟩, .int .u8 116] (by kernel_rfl) ?_
  refine wpList_buildTo rfl 77 _ rfl (some 86) rfl #[.int .i64 155, .string ⟨#[105, 102, 108, 116]⟩, .int .u8 116] (by kernel_rfl) ?_
  refine wpList_buildTo rfl 77 _ rfl (some 87) rfl #[.int .i64 156, .string ⟨#[105, 102, 103, 101]⟩, .int .u8 116] (by kernel_rfl) ?_
  refine wpList_buildTo rfl 77 _ rfl (some 88) rfl #[.int .i64 157, .string ⟨#[105, 102, 103, 116]⟩, .int .u8 116] (by kernel_rfl) ?_
  refine wpList_buildTo rfl 77 _ rfl (some 89) rfl #[.int .i64 158, .string ⟨#[105, 102, 108, 101]⟩, .int .u8 116] (by kernel_rfl) ?_
  refine wpList_buildTo rfl 77 _ rfl (some 90) rfl #[.int .i64 159, .string ⟨#[105, 102, 95, 105, 99, 109, 112, 101, 113]⟩, .int .u8 116] (by kernel_rfl) ?_
  refine wpList_buildTo rfl 77 _ rfl (some 91) rfl #[.int .i64 160, .string ⟨#[105, 102, 95, 105, 99, 109, 112, 110, 101]⟩, .int .u8 116] (by kernel_rfl) ?_
  refine wpList_buildTo rfl 77 _ rfl (some 92) rfl #[.int .i64 161, .string ⟨#[105, 102, 95, 105, 99, 109, 112, 108, 116]⟩, .int .u8 116] (by kernel_rfl) ?_
  refine wpList_buildTo rfl 77 _ rfl (some 93) rfl #[.int .i64 162, .string ⟨#[105, 102, 95, 105, 99, 109, 112, 103, 101]⟩, .int .u8 116] (by kernel_rfl) ?_
  refine wpList_buildTo rfl 77 _ rfl (some 94) rfl #[.int .i64 163, .string ⟨#[105, 102, 95, 105, 99, 109, 112, 103, 116]⟩, .int .u8 116] (by kernel_rfl) ?_
  refine wpList_buildTo rfl 77 _ rfl (some 95) rfl #[.int .i64 164, .string ⟨#[105, 102, 95, 105, 99, 109, 112, 108, 101]⟩, .int .u8 116] (by kernel_rfl) ?_
  refine wpList_buildTo rfl 77 _ rfl (some 96) rfl #[.int .i64 165, .string ⟨#[105, 102, 95, 97, 99, 109, 112, 101, 113]⟩, .int .u8 116] (by kernel_rfl) ?_
  refine wpList_buildTo rfl 77 _ rfl (some 97) rfl #[.int .i64 166, .string ⟨#[105, 102, 95, 97, 99, 109, 112, 110, 101]⟩, .int .u8 116] (by kernel_rfl) ?_
  refine wpList_buildTo rfl 77 _ rfl (some 98) rfl #[.int .i64 167, .string ⟨#[103, 111, 116, 111]⟩, .int .u8 116] (by kernel_rfl) ?_
  refine wpList_buildTo rfl 77 _ rfl (some 99) rfl #[.int .i64 172, .string ⟨#[105, 114, 101, 116, 117, 114, 110]⟩, .int .u8 45] (by kernel_rfl) ?_
  refine wpList_buildTo rfl 77 _ rfl (some 100) rfl #[.int .i64 173, .string ⟨#[108, 114, 101, 116, 117, 114, 110]⟩, .int .u8 45] (by kernel_rfl) ?_
  refine wpList_buildTo rfl 77 _ rfl (some 101) rfl #[.int .i64 176, .string ⟨#[97, 114, 101, 116, 117, 114, 110]⟩, .int .u8 45] (by kernel_rfl) ?_
  refine wpList_buildTo rfl 77 _ rfl (some 102) rfl #[.int .i64 177, .string ⟨#[114, 101, 116, 117, 114, 110]⟩, .int .u8 45] (by kernel_rfl) ?_
  refine wpList_buildTo rfl 77 _ rfl (some 103) rfl #[.int .i64 178, .string ⟨#[103, 101, 116, 115, 116, 97, 116, 105, 99]⟩, .int .u8 99] (by kernel_rfl) ?_
  refine wpList_buildTo rfl 77 _ rfl (some 104) rfl #[.int .i64 179, .string ⟨#[112, 117, 116, 115, 116, 97, 116, 105, 99]⟩, .int .u8 99] (by kernel_rfl) ?_
  refine wpList_buildTo rfl 77 _ rfl (some 105) rfl #[.int .i64 180, .string ⟨#[103, 101, 116, 102, 105, 101, 108, 100]⟩, .int .u8 99] (by kernel_rfl) ?_
  refine wpList_buildTo rfl 77 _ rfl (some 106) rfl #[.int .i64 181, .string ⟨#[112, 117, 116, 102, 105, 101, 108, 100]⟩, .int .u8 99] (by kernel_rfl) ?_
  refine wpList_buildTo rfl 77 _ rfl (some 107) rfl #[.int .i64 182, .string ⟨#[105, 110, 118, 111, 107, 101, 118, 105, 114, 116, 117, 97, 108]⟩, .int .u8 99] (by kernel_rfl) ?_
  refine wpList_buildTo rfl 77 _ rfl (some 108) rfl #[.int .i64 183, .string ⟨#[105, 110, 118, 111, 107, 101, 115, 112, 101, 99, 105, 97, 108]⟩, .int .u8 99] (by kernel_rfl) ?_
  refine wpList_buildTo rfl 77 _ rfl (some 109) rfl #[.int .i64 184, .string ⟨#[105, 110, 118, 111, 107, 101, 115, 116, 97, 116, 105, 99]⟩, .int .u8 99] (by kernel_rfl) ?_
  refine wpList_buildTo rfl 77 _ rfl (some 110) rfl #[.int .i64 187, .string ⟨#[110, 101, 119]⟩, .int .u8 99] (by kernel_rfl) ?_
  refine wpList_buildTo rfl 77 _ rfl (some 111) rfl #[.int .i64 188, .string ⟨#[110, 101, 119, 97, 114, 114, 97, 121]⟩, .int .u8 117] (by kernel_rfl) ?_
  refine wpList_buildTo rfl 77 _ rfl (some 112) rfl #[.int .i64 189, .string ⟨#[97, 110, 101, 119, 97, 114, 114, 97, 121]⟩, .int .u8 99] (by kernel_rfl) ?_
  refine wpList_buildTo rfl 77 _ rfl (some 113) rfl #[.int .i64 190, .string ⟨#[97, 114, 114, 97, 121, 108, 101, 110, 103, 116, 104]⟩, .int .u8 45] (by kernel_rfl) ?_
  refine wpList_buildTo rfl 77 _ rfl (some 114) rfl #[.int .i64 191, .string ⟨#[97, 116, 104, 114, 111, 119]⟩, .int .u8 45] (by kernel_rfl) ?_
  refine wpList_buildTo rfl 77 _ rfl (some 115) rfl #[.int .i64 192, .string ⟨#[99, 104, 101, 99, 107, 99, 97, 115, 116]⟩, .int .u8 99] (by kernel_rfl) ?_
  refine wpList_buildTo rfl 77 _ rfl (some 116) rfl #[.int .i64 193, .string ⟨#[105, 110, 115, 116, 97, 110, 99, 101, 111, 102]⟩, .int .u8 99] (by kernel_rfl) ?_
  refine wpList_buildTo rfl 77 _ rfl (some 117) rfl #[.int .i64 194, .string ⟨#[109, 111, 110, 105, 116, 111, 114, 101, 110, 116, 101, 114]⟩, .int .u8 45] (by kernel_rfl) ?_
  refine wpList_buildTo rfl 77 _ rfl (some 118) rfl #[.int .i64 195, .string ⟨#[109, 111, 110, 105, 116, 111, 114, 101, 120, 105, 116]⟩, .int .u8 45] (by kernel_rfl) ?_
  refine wpList_buildTo rfl 77 _ rfl (some 119) rfl #[.int .i64 198, .string ⟨#[105, 102, 110, 117, 108, 108]⟩, .int .u8 116] (by kernel_rfl) ?_
  refine wpList_buildTo rfl 77 _ rfl (some 120) rfl #[.int .i64 199, .string ⟨#[105, 102, 110, 111, 110, 110, 117, 108, 108]⟩, .int .u8 116] (by kernel_rfl) ?_
  refine wpList_buildSliceTo rfl 74 77 120 _ rfl w.heap.size rfl (some 121) rfl Try.underlying74 (codesV.flatMap cellsK).toArray (by kernel_rfl) ?_
  refine wpList_readTo rfl (some 0) rfl (.slice (some ⟨w.heap.size, 0, none⟩) 120 120) (by kernel_rfl) ?_
  refine hK _ _ ?_
  clear hK K
  have key : ∀ (a : Act) (w' : World) (R : Ending → World → Prop) (v : Value), a.tmps.getD 0 undef = v → a.defers = [] → R (.returned v) w' → Code.wp Try.prog Code.ret (bodyPost Try.prog Try.f34 R) a w' := by
    intro a w' R v h1 h2 h3
    refine wp_ret ?_
    exact bodyPost_ret ((results_tmp rfl _ _ _).trans (by rw [h1])) h2 h3
  exact key _ _ _ _ (by kernel_rfl) (by kernel_rfl) ⟨rfl, rfl⟩
end Go.Proofs.Ytngoajhnnlnphaa
